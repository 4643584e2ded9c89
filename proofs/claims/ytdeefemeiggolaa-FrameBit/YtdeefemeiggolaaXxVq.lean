import Derived.Test.YtdeefemeiggolaaXxUq
namespace Go.Proofs.Ytdeefemeiggolaa
open Go.RowKit
set_option linter.unusedVariables false

/-! ### A word, a byte -/
/-- Two rows of lanes that differ in lane i alone. -/
def OneOff {n : Nat} (i : Nat) (x y : La n) : Prop := match i with
  | 0 => x.a ≠ y.a ∧ x.b = y.b ∧ x.c = y.c ∧ x.d = y.d
  | 1 => x.a = y.a ∧ x.b ≠ y.b ∧ x.c = y.c ∧ x.d = y.d
  | 2 => x.a = y.a ∧ x.b = y.b ∧ x.c ≠ y.c ∧ x.d = y.d
  | _ => x.a = y.a ∧ x.b = y.b ∧ x.c = y.c ∧ x.d ≠ y.d
theorem OneOff.mix {i : Nat} {x y : La 32} (h : OneOff i x y) (p : List By) : OneOff i (mix32 x p) (mix32 y p) := by
  have k : ∀ v v' w : BitVec 32, v ≠ v' → rd32 v w ≠ rd32 v' w := fun v v' w hv e => hv (rd32_v w v v' e)
  match i with
  | 0 => obtain ⟨h1, h2, h3, h4⟩ := h; exact ⟨k _ _ _ h1, by rw [mix32, mix32, h2], by rw [mix32, mix32, h3], by rw [mix32, mix32, h4]⟩
  | 1 => obtain ⟨h1, h2, h3, h4⟩ := h; exact ⟨by rw [mix32, mix32, h1], k _ _ _ h2, by rw [mix32, mix32, h3], by rw [mix32, mix32, h4]⟩
  | 2 => obtain ⟨h1, h2, h3, h4⟩ := h; exact ⟨by rw [mix32, mix32, h1], by rw [mix32, mix32, h2], k _ _ _ h3, by rw [mix32, mix32, h4]⟩
  | (n + 3) => obtain ⟨h1, h2, h3, h4⟩ := h; exact ⟨by rw [mix32, mix32, h1], by rw [mix32, mix32, h2], by rw [mix32, mix32, h3], k _ _ _ h4⟩
theorem OneOff.fold {i : Nat} : ∀ (k : Nat) {x y : La 32} (h : OneOff i x y) (l : List By), OneOff i (foldc 16 mix32 k x l) (foldc 16 mix32 k y l)
  | 0, _, _, h, _ => h
  | k + 1, _, _, h, l => OneOff.fold k (h.mix _) _
theorem OneOff.join {i : Nat} {x y : La 32} (h : OneOff i x y) : join32 x ≠ join32 y := by
  intro e
  unfold join32 at e
  match i with
  | 0 =>
    obtain ⟨h1, h2, h3, h4⟩ := h
    rw [h2, h3, h4] at e
    exact h1 (rot_undo 1 (by decide) _ _ (add_undo _ _ _ (add_undo _ _ _ (add_undo _ _ _ e))))
  | 1 =>
    obtain ⟨h1, h2, h3, h4⟩ := h
    rw [h1, h3, h4] at e
    exact h2 (rot_undo 7 (by decide) _ _ (add_undo' _ _ _ (add_undo _ _ _ (add_undo _ _ _ e))))
  | 2 =>
    obtain ⟨h1, h2, h3, h4⟩ := h
    rw [h1, h2, h4] at e
    exact h3 (rot_undo 12 (by decide) _ _ (add_undo' _ _ _ (add_undo _ _ _ e)))
  | (n + 3) =>
    obtain ⟨h1, h2, h3, h4⟩ := h
    rw [h1, h2, h3] at e
    exact h4 (rot_undo 18 (by decide) _ _ (add_undo' _ _ _ e))
theorem lo32_len (p p' : List By) (hp : p.length = 4) (hp' : p'.length = 4) (e : lo32 p = lo32 p') : p = p' := by
  unfold lo32 at e
  rw [List.take_of_length_le (by omega), List.take_of_length_le (by omega)] at e
  exact ofNat_num p p' (by omega) (by rw [hp]; decide) e
theorem lo32_at (a p c : List By) (hp : p.length = 4) : lo32 ((a ++ p ++ c).drop a.length) = lo32 p := by
  rw [List.append_assoc, List.drop_left]
  unfold lo32
  rw [List.take_append_of_le_length (by omega)]
theorem lo32_before (a x : List By) (n : Nat) (h : n + 4 ≤ a.length) : lo32 ((a ++ x).drop n) = lo32 (a.drop n) := by
  unfold lo32
  rw [List.drop_append_of_le_length (by omega), List.take_append_of_le_length (by simp; omega)]
theorem lo32_behind (a p p' c : List By) (n : Nat) (hpp : p.length = p'.length) (h : (a ++ p).length ≤ n) : lo32 ((a ++ p ++ c).drop n) = lo32 ((a ++ p' ++ c).drop n) := by
  have e : ∀ q : List By, (a ++ q).length ≤ n → (a ++ q ++ c).drop n = c.drop (n - (a ++ q).length) := by
    intro q hq
    rw [List.drop_append]
    rw [List.drop_of_length_le hq, List.nil_append]
  rw [e p h, e p' (by simp at h ⊢; omega)]
  simp [hpp]
/-- A stripe with another word. -/
theorem mix_word (x : La 32) (a p p' c : List By) (i : Nat) (hi : i < 4) (ha : a.length = 4 * i) (hp : p.length = 4) (hp' : p'.length = 4) (hne : p ≠ p') : OneOff i (mix32 x (a ++ p ++ c)) (mix32 x (a ++ p' ++ c)) := by
  have k : ∀ v : BitVec 32, rd32 v (lo32 ((a ++ p ++ c).drop (4 * i))) ≠ rd32 v (lo32 ((a ++ p' ++ c).drop (4 * i))) := by
    intro v e
    rw [← ha, lo32_at a p c hp, lo32_at a p' c hp'] at e
    exact hne (lo32_len p p' hp hp' (rd32_w _ _ _ e))
  have b : ∀ n, n + 4 ≤ 4 * i → lo32 ((a ++ p ++ c).drop n) = lo32 ((a ++ p' ++ c).drop n) := by
    intro n hn
    rw [List.append_assoc, List.append_assoc, lo32_before a _ n (by omega), lo32_before a _ n (by omega)]
  have f : ∀ n, 4 * i + 4 ≤ n → lo32 ((a ++ p ++ c).drop n) = lo32 ((a ++ p' ++ c).drop n) := fun n hn => lo32_behind a p p' c n (by omega) (by simp; omega)
  obtain rfl | rfl | rfl | rfl : i = 0 ∨ i = 1 ∨ i = 2 ∨ i = 3 := by omega
  · exact ⟨k _, congrArg (rd32 _) (f 4 (by omega)), congrArg (rd32 _) (f 8 (by omega)), congrArg (rd32 _) (f 12 (by omega))⟩
  · exact ⟨congrArg (rd32 _) (b 0 (by omega)), k _, congrArg (rd32 _) (f 8 (by omega)), congrArg (rd32 _) (f 12 (by omega))⟩
  · exact ⟨congrArg (rd32 _) (b 0 (by omega)), congrArg (rd32 _) (b 4 (by omega)), k _, congrArg (rd32 _) (f 12 (by omega))⟩
  · exact ⟨congrArg (rd32 _) (b 0 (by omega)), congrArg (rd32 _) (b 4 (by omega)), congrArg (rd32 _) (b 8 (by omega)), k _⟩
theorem div_parts (size : Nat) (hs : 0 < size) (n : Nat) : ∃ q r, n = q * size + r ∧ r < size ∧ n / size = q ∧ n % size = r := ⟨n / size, n % size, (mod_split n size).symm, Nat.mod_lt _ hs, rfl, rfl⟩
/-- A text's beginning in whole stripes, the rest behind. -/
theorem str32_pre (s : BitVec 32) (A x y : List By) (hl : x.length = y.length) (hq : (A ++ x).length / 16 * 16 ≤ A.length) : str32 s (A ++ x) = str32 s (A ++ y) ∧ (A ++ x).length / 16 = (A ++ y).length / 16 := by
  have e : (A ++ y).length = (A ++ x).length := by simp [hl]
  constructor
  · unfold str32
    rw [e, foldc_pre 16 mix32 _ _ A x hq, foldc_pre 16 mix32 _ _ A y hq]
  · rw [e]
theorem beg32_pre (s : BitVec 32) (A x y : List By) (hl : x.length = y.length) (hq : (A ++ x).length / 16 * 16 ≤ A.length) : beg32 s (A ++ x) = beg32 s (A ++ y) := by
  unfold beg32
  rw [(str32_pre s A x y hl hq).1, show (A ++ y).length = (A ++ x).length by simp [hl]]
/-- P2.4: a word. -/
theorem s32_word (s : BitVec 32) (A p p' C : List By) (hA : A.length % 4 = 0) (hp : p.length = 4) (hp' : p'.length = 4) (hne : p ≠ p') : s32 s (A ++ p ++ C) ≠ s32 s (A ++ p' ++ C) := by
  intro e
  have hL : (A ++ p' ++ C).length = (A ++ p ++ C).length := by simp [hp, hp']
  by_cases hS : A.length + 4 ≤ (A ++ p ++ C).length / 16 * 16
  · -- within a stripe
    have hn := (A ++ p ++ C).length
    obtain ⟨j, r, hj, hr, _, _⟩ := div_parts 16 (by decide) A.length
    obtain ⟨i, hi⟩ : ∃ i, r = 4 * i := ⟨r / 4, by omega⟩
    have hA1 : (A.take (j * 16)).length = j * 16 := by simp; omega
    have ha : (A.drop (j * 16)).length = 4 * i := by simp; omega
    have hqle : (j + 1) * 16 ≤ (A ++ p ++ C).length / 16 * 16 := by
      have : j * 16 < (A ++ p ++ C).length / 16 * 16 := by omega
      have : j < (A ++ p ++ C).length / 16 := Nat.lt_of_mul_lt_mul_right this
      exact Nat.mul_le_mul_right 16 this
    have hqlen : (A ++ p ++ C).length / 16 * 16 ≤ (A ++ p ++ C).length := Nat.div_mul_le_self _ _
    have hCl : 12 - 4 * i ≤ C.length := by simp only [List.length_append, hp] at hqle hqlen; omega
    have hc : (C.take (12 - 4 * i)).length = 12 - 4 * i := by simp; omega
    have split : ∀ q : List By, A ++ q ++ C = A.take (j * 16) ++ (A.drop (j * 16) ++ q ++ C.take (12 - 4 * i)) ++ C.drop (12 - 4 * i) := by
      intro q
      conv => lhs; rw [← List.take_append_drop (j * 16) A, ← List.take_append_drop (12 - 4 * i) C]
      simp only [List.append_assoc]
    have hPl : ∀ q : List By, q.length = 4 → (A.drop (j * 16) ++ q ++ C.take (12 - 4 * i)).length = 16 := by
      intro q hq
      simp only [List.length_append, ha, hq, hc]; omega
    have hk : (A ++ p ++ C).length / 16 = j + (1 + (C.drop (12 - 4 * i)).length / 16) := by
      have e1 : (A ++ p ++ C).length = (C.drop (12 - 4 * i)).length + (j + 1) * 16 := by
        rw [split p, List.length_append, List.length_append, hA1, hPl p hp]; omega
      rw [e1, Nat.add_mul_div_right _ _ (by decide)]; omega
    have str : ∀ q : List By, q.length = 4 → str32 s (A ++ q ++ C) = foldc 16 mix32 ((C.drop (12 - 4 * i)).length / 16) (mix32 (foldc 16 mix32 j (ini32 s) (A.take (j * 16))) (A.drop (j * 16) ++ q ++ C.take (12 - 4 * i))) (C.drop (12 - 4 * i)) := by
      intro q hq
      have hlq : (A ++ q ++ C).length = (A ++ p ++ C).length := by simp [hp, hq]
      unfold str32
      rw [hlq, hk, split q, List.append_assoc, foldc_app 16 mix32 j _ _ _ _ hA1, foldc_app 16 mix32 1 _ _ _ _ (by rw [hPl q hq])]
      show foldc 16 mix32 _ (mix32 _ (List.take 16 _)) _ = _
      rw [List.take_of_length_le (Nat.le_of_eq (hPl q hq))]
    have hoff : OneOff i (str32 s (A ++ p ++ C)) (str32 s (A ++ p' ++ C)) := by
      rw [str p hp, str p' hp']
      exact OneOff.fold _ (mix_word _ _ _ _ _ i (by omega) ha hp hp' hne) _
    have hge : ¬ (A ++ p ++ C).length < 16 := by omega
    have htail : (A ++ p ++ C).drop ((A ++ p ++ C).length / 16 * 16) = (A ++ p' ++ C).drop ((A ++ p ++ C).length / 16 * 16) := by
      have : ∀ q : List By, q.length = 4 → (A ++ q ++ C).drop ((A ++ p ++ C).length / 16 * 16) = C.drop ((A ++ p ++ C).length / 16 * 16 - (A.length + 4)) := by
        intro q hq
        rw [List.drop_append, List.drop_of_length_le (by simp [hq]; omega), List.nil_append]
        simp [hq]
      rw [this p hp, this p' hp']
    unfold s32 beg32 at e
    rw [hL, if_neg hge, if_neg hge, htail] at e
    exact hoff.join (add_undo _ _ _ (fin32_h _ _ _ e))
  · -- behind the stripes
    have hq : (A ++ p ++ C).length / 16 * 16 ≤ A.length := by omega
    have hq1 : (A ++ (p ++ C)).length / 16 * 16 ≤ A.length := by rw [← List.append_assoc]; exact hq
    have hb := beg32_pre s A (p ++ C) (p' ++ C) (by simp [hp, hp']) hq1
    rw [← List.append_assoc, ← List.append_assoc] at hb
    unfold s32 at e
    rw [← hb, hL] at e
    generalize beg32 s (A ++ p ++ C) + BitVec.ofNat 32 (A ++ p ++ C).length = h at e
    generalize hQ : (A ++ p ++ C).length / 16 * 16 = Q at *
    have hd : ∀ q : List By, (A ++ q ++ C).drop Q = A.drop Q ++ q ++ C := by
      intro q
      rw [List.append_assoc, List.drop_append_of_le_length hq, List.append_assoc]
    rw [hd, hd] at e
    have hA2 : (A.drop Q).length % 4 = 0 := by simp; omega
    generalize A.drop Q = A2 at e hA2
    have hl2 : (A2 ++ p' ++ C).length = (A2 ++ p ++ C).length := by simp [hp, hp']
    unfold fin32 at e
    have e1 := ava32_h _ _ e
    rw [hl2] at e1
    have hdr : (A2 ++ p ++ C).drop ((A2 ++ p ++ C).length / 4 * 4) = (A2 ++ p' ++ C).drop ((A2 ++ p ++ C).length / 4 * 4) := by
      have : ∀ q : List By, q.length = 4 → (A2 ++ q ++ C).drop ((A2 ++ p ++ C).length / 4 * 4) = C.drop ((A2 ++ p ++ C).length / 4 * 4 - (A2.length + 4)) := by
        intro q hq'
        rw [List.drop_append, List.drop_of_length_le (by simp [hq', hp]; omega), List.nil_append]
        simp [hq']
      rw [this p hp, this p' hp']
    rw [hdr] at e1
    have e2 := foldc_inj 1 bt32 bt32_h _ _ _ _ e1
    exact foldc_piece 4 (by decide) wd32 wd32_h (A2.length / 4) h A2 p p' C (by omega) hp hp' (fun u eu => hne (lo32_len p p' hp hp' (wd32_p _ _ _ eu))) e2
/-- P2.4: a byte behind the last word. -/
theorem s32_byte (s : BitVec 32) (A p p' C : List By) (hp : p.length = 1) (hp' : p'.length = 1) (hA : (A ++ p ++ C).length / 4 * 4 ≤ A.length) (hne : p ≠ p') : s32 s (A ++ p ++ C) ≠ s32 s (A ++ p' ++ C) := by
  intro e
  have hL : (A ++ p' ++ C).length = (A ++ p ++ C).length := by simp [hp, hp']
  have hq : (A ++ p ++ C).length / 16 * 16 ≤ A.length := by omega
  have hq1 : (A ++ (p ++ C)).length / 16 * 16 ≤ A.length := by rw [← List.append_assoc]; exact hq
  have hb := beg32_pre s A (p ++ C) (p' ++ C) (by simp [hp, hp']) hq1
  rw [← List.append_assoc, ← List.append_assoc] at hb
  unfold s32 at e
  rw [← hb, hL] at e
  generalize beg32 s (A ++ p ++ C) + BitVec.ofNat 32 (A ++ p ++ C).length = h at e
  have hQ4 : (A ++ p ++ C).length / 16 * 16 % 4 = 0 := by omega
  have hQn : (A ++ p ++ C).length = A.length + 1 + C.length := by simp [hp]; omega
  generalize hQ : (A ++ p ++ C).length / 16 * 16 = Q at *
  have hd : ∀ q : List By, (A ++ q ++ C).drop Q = A.drop Q ++ q ++ C := by
    intro q
    rw [List.append_assoc, List.drop_append_of_le_length hq, List.append_assoc]
  rw [hd, hd] at e
  have hA2 : (A.drop Q ++ p ++ C).length / 4 * 4 ≤ (A.drop Q).length := by simp [hp]; omega
  generalize A.drop Q = A2 at e hA2
  have hl2 : (A2 ++ p' ++ C).length = (A2 ++ p ++ C).length := by simp [hp, hp']
  have hn : (A2 ++ p ++ C).length = A2.length + 1 + C.length := by simp [hp]; omega
  unfold fin32 at e
  have e1 := ava32_h _ _ e
  rw [hl2] at e1
  generalize (A2 ++ p ++ C).length = N at *
  have hpre : ∀ q : List By, foldc 4 wd32 (N / 4) h (A2 ++ q ++ C) = foldc 4 wd32 (N / 4) h A2 := by
    intro q
    rw [List.append_assoc, foldc_pre 4 wd32 _ h A2 _ hA2]
  rw [hpre, hpre] at e1
  generalize foldc 4 wd32 (N / 4) h A2 = h2 at e1
  have hd2 : ∀ q : List By, (A2 ++ q ++ C).drop (N / 4 * 4) = A2.drop (N / 4 * 4) ++ q ++ C := by
    intro q
    rw [List.append_assoc, List.drop_append_of_le_length hA2, List.append_assoc]
  rw [hd2, hd2] at e1
  have hk : N % 4 = (A2.drop (N / 4 * 4) ++ p ++ C).length / 1 := by
    rw [mod1]
    simp only [List.length_append, List.length_drop, hp]
    omega
  rw [hk] at e1
  exact foldc_piece 1 (by decide) bt32 bt32_h (A2.drop (N / 4 * 4)).length h2 _ p p' C (by simp) hp hp' (fun u eu => by
    have h1 := bt32_p _ _ _ eu
    unfold by32 at h1
    rw [List.take_of_length_le (by omega), List.take_of_length_le (by omega)] at h1
    exact hne (ofNat_num p p' (by omega) (by rw [hp]; decide) h1)) e1
/-! ### In 64 bits, behind the stripes -/
theorem beg64_pre (s : BitVec 64) (A x y : List By) (hl : x.length = y.length) (hq : (A ++ x).length / 32 * 32 ≤ A.length) : beg64 s (A ++ x) = beg64 s (A ++ y) := by
  have e : (A ++ y).length = (A ++ x).length := by simp [hl]
  unfold beg64 str64
  rw [e, foldc_pre 32 mix64 _ _ A x hq, foldc_pre 32 mix64 _ _ A y hq]
theorem lo64_len (p p' : List By) (hp : p.length = 8) (hp' : p'.length = 8) (e : lo64 p = lo64 p') : p = p' := by
  unfold lo64 at e
  rw [List.take_of_length_le (by omega), List.take_of_length_le (by omega)] at e
  exact ofNat_num p p' (by omega) (by rw [hp]; decide) e
/-- Where both begin alike, what is left decides. -/
theorem s64_tail (s : BitVec 64) (A p p' C : List By) (hp : p.length = p'.length) (hA : (A ++ p ++ C).length / 32 * 32 ≤ A.length) (e : s64 s (A ++ p ++ C) = s64 s (A ++ p' ++ C)) :
    ∃ h, fin64 h (A.drop ((A ++ p ++ C).length / 32 * 32) ++ p ++ C) = fin64 h (A.drop ((A ++ p ++ C).length / 32 * 32) ++ p' ++ C) := by
  have hL : (A ++ p' ++ C).length = (A ++ p ++ C).length := by simp [hp]
  have hq1 : (A ++ (p ++ C)).length / 32 * 32 ≤ A.length := by rw [← List.append_assoc]; exact hA
  have hb := beg64_pre s A (p ++ C) (p' ++ C) (by simp [hp]) hq1
  rw [← List.append_assoc, ← List.append_assoc] at hb
  unfold s64 at e
  rw [← hb, hL] at e
  generalize beg64 s (A ++ p ++ C) + BitVec.ofNat 64 (A ++ p ++ C).length = h at e
  generalize (A ++ p ++ C).length / 32 * 32 = Q at *
  have hd : ∀ q : List By, (A ++ q ++ C).drop Q = A.drop Q ++ q ++ C := by
    intro q
    rw [List.append_assoc, List.drop_append_of_le_length hA, List.append_assoc]
  rw [hd, hd] at e
  exact ⟨h, e⟩
theorem s64_word (s : BitVec 64) (A p p' C : List By) (hp : p.length = 8) (hp' : p'.length = 8) (hA8 : A.length % 8 = 0) (hA : (A ++ p ++ C).length / 32 * 32 ≤ A.length) (hne : p ≠ p') : s64 s (A ++ p ++ C) ≠ s64 s (A ++ p' ++ C) := by
  intro e
  obtain ⟨h, e⟩ := s64_tail s A p p' C (by omega) hA e
  have hA2 : (A.drop ((A ++ p ++ C).length / 32 * 32)).length % 8 = 0 := by simp [hp]; omega
  generalize A.drop ((A ++ p ++ C).length / 32 * 32) = A2 at e hA2
  have hl2 : (A2 ++ p' ++ C).length = (A2 ++ p ++ C).length := by simp [hp, hp']
  have hn : (A2 ++ p ++ C).length = A2.length + 8 + C.length := by simp [hp]; omega
  unfold fin64 at e
  have e1 := ava64_h _ _ e
  rw [hl2] at e1
  have hdr : (A2 ++ p ++ C).drop ((A2 ++ p ++ C).length / 8 * 8) = (A2 ++ p' ++ C).drop ((A2 ++ p ++ C).length / 8 * 8) := by
    have : ∀ q : List By, q.length = 8 → (A2 ++ q ++ C).drop ((A2 ++ p ++ C).length / 8 * 8) = C.drop ((A2 ++ p ++ C).length / 8 * 8 - (A2.length + 8)) := by
      intro q hq'
      rw [List.drop_append, List.drop_of_length_le (by simp [hq', hp]; omega), List.nil_append]
      simp [hq']
    rw [this p hp, this p' hp']
  rw [hdr] at e1
  have e2 := foldc_inj 4 hw64 hw64_h _ _ _ _ (foldc_inj 1 bt64 bt64_h _ _ _ _ e1)
  exact foldc_piece 8 (by decide) wd64 wd64_h (A2.length / 8) h A2 p p' C (by omega) hp hp' (fun u eu => hne (lo64_len p p' hp hp' (wd64_p _ _ _ eu))) e2
theorem s64_byte (s : BitVec 64) (A p p' C : List By) (hp : p.length = 1) (hp' : p'.length = 1) (hA : (A ++ p ++ C).length / 4 * 4 ≤ A.length) (hne : p ≠ p') : s64 s (A ++ p ++ C) ≠ s64 s (A ++ p' ++ C) := by
  intro e
  obtain ⟨h, e⟩ := s64_tail s A p p' C (by omega) (by omega) e
  have hA2 : (A.drop ((A ++ p ++ C).length / 32 * 32) ++ p ++ C).length / 4 * 4 ≤ (A.drop ((A ++ p ++ C).length / 32 * 32)).length := by simp [hp] at hA ⊢; omega
  generalize A.drop ((A ++ p ++ C).length / 32 * 32) = A2 at e hA2
  have hl2 : (A2 ++ p' ++ C).length = (A2 ++ p ++ C).length := by simp [hp, hp']
  have hn : (A2 ++ p ++ C).length = A2.length + 1 + C.length := by simp [hp]; omega
  unfold fin64 at e
  have e1 := ava64_h _ _ e
  rw [hl2] at e1
  generalize (A2 ++ p ++ C).length = N at *
  have hpre : ∀ q : List By, foldc 8 wd64 (N / 8) h (A2 ++ q ++ C) = foldc 8 wd64 (N / 8) h A2 := by
    intro q
    rw [List.append_assoc, foldc_pre 8 wd64 _ h A2 _ (by omega)]
  have hd2 : ∀ q : List By, (A2 ++ q ++ C).drop (N / 8 * 8) = A2.drop (N / 8 * 8) ++ q ++ C := by
    intro q
    rw [List.append_assoc, List.drop_append_of_le_length (by omega), List.append_assoc]
  rw [hpre, hpre, hd2, hd2] at e1
  generalize foldc 8 wd64 (N / 8) h A2 = h2 at e1
  have hA3 : (A2.drop (N / 8 * 8)).length = A2.length - N / 8 * 8 := by simp
  generalize A2.drop (N / 8 * 8) = A3 at e1 hA3
  have hl3 : (A3 ++ p' ++ C).length = (A3 ++ p ++ C).length := by simp [hp, hp']
  have hn3 : (A3 ++ p ++ C).length = A3.length + 1 + C.length := by simp [hp]; omega
  rw [hl3] at e1
  have hM : (A3 ++ p ++ C).length / 4 * 4 ≤ A3.length := by omega
  generalize (A3 ++ p ++ C).length = M at *
  have hpre3 : ∀ q : List By, foldc 4 hw64 (M / 4) h2 (A3 ++ q ++ C) = foldc 4 hw64 (M / 4) h2 A3 := by
    intro q
    rw [List.append_assoc, foldc_pre 4 hw64 _ h2 A3 _ hM]
  have hd3 : ∀ q : List By, (A3 ++ q ++ C).drop (M / 4 * 4) = A3.drop (M / 4 * 4) ++ q ++ C := by
    intro q
    rw [List.append_assoc, List.drop_append_of_le_length hM, List.append_assoc]
  rw [hpre3, hpre3, hd3, hd3] at e1
  generalize foldc 4 hw64 (M / 4) h2 A3 = h3 at e1
  have hl4 : (A3.drop (M / 4 * 4) ++ p' ++ C).length = (A3.drop (M / 4 * 4) ++ p ++ C).length := by simp [hp, hp']
  rw [hl4, ← mod1 (A3.drop (M / 4 * 4) ++ p ++ C).length] at e1
  exact foldc_piece 1 (by decide) bt64 bt64_h (A3.drop (M / 4 * 4)).length h3 _ p p' C (by simp) hp hp' (fun u eu => by
    have h1 := bt64_p _ _ _ eu
    unfold by64 at h1
    rw [List.take_of_length_le (by omega), List.take_of_length_le (by omega)] at h1
    exact hne (ofNat_num p p' (by omega) (by rw [hp]; decide) h1)) e1
end Go.Proofs.Ytdeefemeiggolaa

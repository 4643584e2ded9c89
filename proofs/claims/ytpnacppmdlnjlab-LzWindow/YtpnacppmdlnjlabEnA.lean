import Derived.Test.YtpnacppmdlnjlabMaA
namespace Go.Proofs.Ytpnacppmdlnjlab
open Go.RowKit
set_option linter.unusedVariables false
/-! ### The encoder, as functions of the text -/
/-- The four bytes at a place. -/
def kat (T : List By) (p : Nat) : List By := (T.drop p).take 4
abbrev Pm := List By → Option Nat
/-- What is noted of all places ahead of one: near, far. -/
def ups (T : List By) : Nat → Pm × Pm
  | 0 => (fun _ => none, fun _ => none)
  | p + 1 => (fun k => if k = kat T p then some p else (if p % 65536 = 0 then fun _ => none else (ups T p).1) k, if p % 65536 = 0 then (ups T p).1 else (ups T p).2)
/-- Where the four bytes at a place stood last. -/
def fnd (T : List By) (a : Nat) : Option Nat := match (ups T a).1 (kat T a) with
  | some q => if a - q ≤ 65535 then some q else none
  | none => match (ups T a).2 (kat T a) with
    | some q => if a - q ≤ 65535 then some q else none
    | none => none
/-- How many bytes are the same. -/
def cm : List By → List By → Nat
  | x :: xs, y :: ys => if x = y then cm xs ys + 1 else 0
  | _, _ => 0
/-- How many bytes ahead are the same. -/
def alkA (T : List By) (b : Nat) : Nat → Nat → Nat
  | 0, _ => 0
  | f + 1, a => if b < a ∧ T[f]? = T[a - 1]? then alkA T b f (a - 1) + 1 else 0
/-- The encoder's rounds. -/
inductive EncTo (T : List By) : Nat → Nat → List Sq → List Sq × Nat → Prop
  | done {b a : Nat} {ms : List Sq} : ¬ a + 12 ≤ T.length → EncTo T b a ms (ms, b)
  | skip {b a : Nat} {ms : List Sq} {r : List Sq × Nat} : a + 12 ≤ T.length → fnd T a = none → EncTo T b (a + 1) ms r → EncTo T b a ms r
  | hit {b a f k n : Nat} {ms : List Sq} {r : List Sq × Nat} : a + 12 ≤ T.length → fnd T a = some f → k = alkA T b f a → n = cm ((T.take (T.length - 5)).drop (f - k)) ((T.take (T.length - 5)).drop (a - k)) →
      EncTo T (a - k + n) (a - k + n) (ms ++ [⟨(T.drop b).take (a - k - b), a - f, n⟩]) r → EncTo T b a ms r
theorem EncTo.uniq {T : List By} {b a : Nat} {ms : List Sq} {r r' : List Sq × Nat} (h : EncTo T b a ms r) (h' : EncTo T b a ms r') : r = r' := by
  induction h with
  | done h1 =>
    cases h' with
    | done _ => rfl
    | skip h2 => exact absurd h2 h1
    | hit h2 => exact absurd h2 h1
  | skip h1 h2 _ ih =>
    cases h' with
    | done h3 => exact absurd h1 h3
    | skip _ _ h3 => exact ih h3
    | hit _ h3 => rw [h2] at h3; cases h3
  | hit h1 h2 h3 h4 _ ih =>
    cases h' with
    | done h5 => exact absurd h1 h5
    | skip _ h5 => rw [h2] at h5; cases h5
    | hit _ h5 h6 h7 h8 =>
      rw [h2] at h5
      injection h5 with h5
      subst h5
      subst h3 h6
      subst h4 h7
      exact ih h8
theorem ups_in (T : List By) : ∀ (a : Nat) (k : List By) (q : Nat), ((ups T a).1 k = some q ∨ (ups T a).2 k = some q) → q < a ∧ k = kat T q := by
  intro a
  induction a with
  | zero => intro k q h; simp [ups] at h
  | succ a ih =>
    intro k q h
    simp only [ups] at h
    by_cases hm : a % 65536 = 0
    · simp only [hm, if_true] at h
      rcases h with h | h
      · by_cases hk : k = kat T a
        · rw [if_pos hk] at h; injection h with h; subst h; exact ⟨by omega, hk⟩
        · rw [if_neg hk] at h; cases h
      · have := ih k q (.inl h); exact ⟨by omega, this.2⟩
    · simp only [hm, if_false] at h
      rcases h with h | h
      · by_cases hk : k = kat T a
        · rw [if_pos hk] at h; injection h with h; subst h; exact ⟨by omega, hk⟩
        · rw [if_neg hk] at h
          have := ih k q (.inl h); exact ⟨by omega, this.2⟩
      · have := ih k q (.inr h); exact ⟨by omega, this.2⟩
theorem fnd_in {T : List By} {a f : Nat} (h : fnd T a = some f) : f < a ∧ a - f ≤ 65535 ∧ kat T a = kat T f := by
  unfold fnd at h
  cases h1 : (ups T a).1 (kat T a) with
  | some q =>
    rw [h1] at h
    simp only at h
    by_cases hq : a - q ≤ 65535
    · rw [if_pos hq] at h; injection h with h; subst h
      have := ups_in T a _ _ (.inl h1); exact ⟨this.1, hq, this.2⟩
    · rw [if_neg hq] at h; cases h
  | none =>
    rw [h1] at h
    simp only at h
    cases h2 : (ups T a).2 (kat T a) with
    | some q =>
      rw [h2] at h
      simp only at h
      by_cases hq : a - q ≤ 65535
      · rw [if_pos hq] at h; injection h with h; subst h
        have := ups_in T a _ _ (.inr h2); exact ⟨this.1, hq, this.2⟩
      · rw [if_neg hq] at h; cases h
    | none => rw [h2] at h; cases h
theorem cm_le : ∀ (x y : List By), cm x y ≤ x.length ∧ cm x y ≤ y.length
  | x :: xs, y :: ys => by
    have := cm_le xs ys
    unfold cm
    split
    · simp only [List.length_cons]; omega
    · simp
  | [], _ => by simp [cm]
  | _ :: _, [] => by simp [cm]
theorem cm_at : ∀ (x y : List By) (j : Nat), j < cm x y → x[j]? = y[j]?
  | x :: xs, y :: ys, j, h => by
    unfold cm at h
    by_cases he : x = y
    · rw [if_pos he] at h
      subst he
      cases j with
      | zero => rfl
      | succ j => simpa using cm_at xs ys j (by omega)
    · rw [if_neg he] at h; omega
  | [], _, j, h => by simp [cm] at h
  | _ :: _, [], j, h => by simp [cm] at h
theorem cm_ge : ∀ (m : Nat) (x y : List By), m ≤ x.length → m ≤ y.length → (∀ j, j < m → x[j]? = y[j]?) → m ≤ cm x y
  | 0, _, _, _, _, _ => Nat.zero_le _
  | m + 1, x :: xs, y :: ys, h1, h2, h => by
    have h0 := h 0 (by omega)
    simp at h0
    subst h0
    unfold cm
    rw [if_pos rfl]
    have := cm_ge m xs ys (by simpa using h1) (by simpa using h2) (fun j hj => by simpa using h (j + 1) (by omega))
    omega
  | m + 1, [], _, h1, _, _ => by simp at h1
  | m + 1, _ :: _, [], _, h2, _ => by simp at h2
theorem alkA_le (T : List By) (b : Nat) : ∀ f a, alkA T b f a ≤ f ∧ alkA T b f a ≤ a - b
  | 0, a => by simp [alkA]
  | f + 1, a => by
    have := alkA_le T b f (a - 1)
    unfold alkA
    split
    · rename_i h; omega
    · omega
theorem alkA_at (T : List By) (b : Nat) : ∀ f a j, j < alkA T b f a → T[f - 1 - j]? = T[a - 1 - j]?
  | 0, a, j, h => by simp [alkA] at h
  | f + 1, a, j, h => by
    unfold alkA at h
    by_cases hc : b < a ∧ T[f]? = T[a - 1]?
    · rw [if_pos hc] at h
      cases j with
      | zero => simpa using hc.2
      | succ j =>
        have := alkA_at T b f (a - 1) j (by omega)
        rw [show f + 1 - 1 - (j + 1) = f - 1 - j by omega, show a - 1 - (j + 1) = a - 1 - 1 - j by omega]
        exact this
    · rw [if_neg hc] at h; omega
/-- A match that is alike copies the text. -/
theorem cop_alike (T : List By) (a back n : Nat) (hb : 1 ≤ back) (hba : back ≤ a) (hn : a + n ≤ T.length) (h : ∀ j, j < n → T[a - back + j]? = T[a + j]?) : cop (T.take a) back n = T.take (a + n) := by
  have hl : (T.take a).length = a := by simp; omega
  symm
  refine Per.cop (all := T.take a) (back := back) (X := T.take (a + n)) ?_ hb (by omega) n (by rw [hl]; simp; omega)
  have e : T.take (a + n) = T.take a ++ (T.drop a).take n := by rw [List.take_add]
  rw [e]
  refine (Per.refl _ _).app (fun i hi => ?_)
  have hi' : i < n := by simp at hi; omega
  rw [hl, ← e, List.getElem?_take, if_pos hi', List.getElem?_take, if_pos (by omega), List.getElem?_drop, ← h i hi', show a - back + i = a + i - back by omega]
theorem ext_255 (n : Nat) : 255 * (ext n).length ≤ n + 240 ∧ (n < 15 → (ext n).length = 0) ∧ (15 ≤ n → 255 * (ext n).length ≤ n + 240) := by
  unfold ext numb
  split
  · rename_i h; exact ⟨by simp, fun _ => rfl, fun h2 => by omega⟩
  · rename_i h; simp; omega
/-- How the encoder stands. -/
structure EI (T : List By) (A b a : Nat) (ms : List Sq) : Prop where
  of ::
  lo : A ≤ b
  hi : b ≤ T.length
  ba : b ≤ a
  can : ∀ s ∈ ms, canS s
  len : 255 * (ms.flatMap encS).length ≤ 256 * (b - A)
  ply : ∀ L rest, scanS (pl (T.take A) (T.length - A)) L (ms.flatMap encS ++ rest) [] = scanS (pl (T.take A) (T.length - A)) L rest ((T.take b).drop A)
  lst : ∀ s, ms.getLast? = some s → 5 ≤ T.length - b ∧ 12 ≤ s.n + (T.length - b)
theorem EI.start (T : List By) (A : Nat) (hA : A ≤ T.length) : EI T A A A [] := by
  refine ⟨Nat.le_refl _, hA, Nat.le_refl _, by simp, by simp, fun L rest => ?_, by simp⟩
  rw [List.drop_of_length_le (by simp; omega)]
  rfl
theorem EI.skip {T : List By} {A b a : Nat} {ms : List Sq} (h : EI T A b a ms) : EI T A b (a + 1) ms := ⟨h.lo, h.hi, by have := h.ba; omega, h.can, h.len, h.ply, h.lst⟩
/-- What a hit gives. -/
structure Hit (T : List By) (b a f k n : Nat) : Prop where
  kf : k ≤ f
  ka : k ≤ a - b
  back : f < a
  far : a - f ≤ 65535
  four : k + 4 ≤ n
  fin : a - k + n ≤ T.length - 5
  same : ∀ j, j < n → T[f - k + j]? = T[a - k + j]?
  top : a + 12 ≤ T.length
theorem hit_of {T : List By} {b a f k n : Nat} (hab : b ≤ a) (h1 : a + 12 ≤ T.length) (h2 : fnd T a = some f) (h3 : k = alkA T b f a) (h4 : n = cm ((T.take (T.length - 5)).drop (f - k)) ((T.take (T.length - 5)).drop (a - k))) : Hit T b a f k n := by
  obtain ⟨g1, g2, g3⟩ := fnd_in h2
  have hk := alkA_le T b f a
  rw [← h3] at hk
  have hle := cm_le ((T.take (T.length - 5)).drop (f - k)) ((T.take (T.length - 5)).drop (a - k))
  rw [← h4] at hle
  have hly : ((T.take (T.length - 5)).drop (a - k)).length = T.length - 5 - (a - k) := by simp
  have hlx : ((T.take (T.length - 5)).drop (f - k)).length = T.length - 5 - (f - k) := by simp
  have same : ∀ j, j < k + 4 → T[f - k + j]? = T[a - k + j]? := by
    intro j hj
    by_cases hjk : j < k
    · have := alkA_at T b f a (k - 1 - j) (by omega)
      rw [show f - 1 - (k - 1 - j) = f - k + j by omega, show a - 1 - (k - 1 - j) = a - k + j by omega] at this
      exact this
    · have := congrArg (fun l => l[j - k]?) g3
      simp only [kat, List.getElem?_take, if_pos (show j - k < 4 by omega), List.getElem?_drop] at this
      rw [show f - k + j = f + (j - k) by omega, show a - k + j = a + (j - k) by omega]
      exact this.symm
  have h4' : k + 4 ≤ n := by
    rw [h4]
    refine cm_ge _ _ _ (by omega) (by omega) (fun j hj => ?_)
    rw [List.getElem?_drop, List.getElem?_drop, List.getElem?_take, List.getElem?_take, if_pos (by omega), if_pos (by omega)]
    exact same j hj
  refine ⟨hk.1, hk.2, g1, g2, h4', by omega, fun j hj => ?_, h1⟩
  have := cm_at ((T.take (T.length - 5)).drop (f - k)) ((T.take (T.length - 5)).drop (a - k)) j (by rw [← h4]; exact hj)
  rw [List.getElem?_drop, List.getElem?_drop, List.getElem?_take, List.getElem?_take, if_pos (by omega), if_pos (by omega)] at this
  exact this
theorem EI.hit {T : List By} {A b a f k n : Nat} {ms : List Sq} (h : EI T A b a ms) (hh : Hit T b a f k n) : EI T A (a - k + n) (a - k + n) (ms ++ [⟨(T.drop b).take (a - k - b), a - f, n⟩]) := by
  obtain ⟨h1, h2, h3, h4, h5, h6, h7, h8⟩ := hh
  have hlo := h.lo
  have hhi := h.hi
  have hba := h.ba
  have hpl : ((T.drop b).take (a - k - b)).length = a - k - b := by simp; omega
  have hc : canS ⟨(T.drop b).take (a - k - b), a - f, n⟩ := ⟨by show 1 ≤ a - f; omega, h4, by show 4 ≤ n; omega⟩
  refine ⟨by omega, by omega, Nat.le_refl _, ?_, ?_, fun L rest => ?_, ?_⟩
  · intro s hs
    rcases List.mem_append.1 hs with hs | hs
    · exact h.can s hs
    · simp at hs; subst hs; exact hc
  · have hl := h.len
    have e1 := ext_255 (a - k - b)
    have e2 := ext_255 (n - 4)
    rw [List.flatMap_append, List.length_append]
    have : ([(⟨(T.drop b).take (a - k - b), a - f, n⟩ : Sq)].flatMap encS).length = 1 + (ext (a - k - b)).length + (a - k - b) + 2 + (ext (n - 4)).length := by
      simp only [List.flatMap_cons, List.flatMap_nil, List.append_nil, encS, List.length_cons, List.length_append, hpl]
      omega
    rw [this]
    by_cases hp15 : a - k - b < 15
    · have := e1.2.1 hp15
      by_cases hn15 : n - 4 < 15
      · have := e2.2.1 hn15; omega
      · omega
    · by_cases hn15 : n - 4 < 15
      · have := e2.2.1 hn15; omega
      · omega
  · rw [List.flatMap_append, List.append_assoc, h.ply]
    have e : [(⟨(T.drop b).take (a - k - b), a - f, n⟩ : Sq)].flatMap encS ++ rest = encS ⟨(T.drop b).take (a - k - b), a - f, n⟩ ++ rest := by simp
    have hTA : (T.take A).length = A := by simp; omega
    have hs1 : ((T.take b).drop A).length = b - A := by simp; omega
    have hp1 : (pl (T.take A) (T.length - A)).plain ((T.take b).drop A) ((T.drop b).take (a - k - b)) = (T.take (a - k)).drop A := by
      show (T.take b).drop A ++ (T.drop b).take (a - k - b) = _
      have e2 : T.take (a - k) = T.take b ++ (T.drop b).take (a - k - b) := by
        rw [← List.take_add, show b + (a - k - b) = a - k by omega]
      rw [e2, List.drop_append_of_le_length (by simp; omega)]
    have hs2 : ((T.take (a - k)).drop A).length = a - k - A := by simp; omega
    have hall : T.take A ++ (T.take (a - k)).drop A = T.take (a - k) := by
      have := List.take_append_drop A (T.take (a - k))
      rw [List.take_take, Nat.min_eq_left (by omega)] at this
      exact this
    rw [e, scan_enc _ L _ rest _ hc]
    · congr 1
      show (pl (T.take A) (T.length - A)).mat ((pl (T.take A) (T.length - A)).plain ((T.take b).drop A) ((T.drop b).take (a - k - b))) (a - f) n = _
      rw [hp1]
      show (cop (T.take A ++ (T.take (a - k)).drop A) (a - f) n).drop (T.take A).length = _
      rw [hall, cop_alike T (a - k) (a - f) n (by omega) (by omega) (by omega) (fun j hj => by
        have := h7 j hj
        rw [show a - k - (a - f) + j = f - k + j by omega]; exact this), hTA]
    · show decide _ = true
      rw [decide_eq_true_eq, hs1]
      show ((T.drop b).take (a - k - b)).length + _ ≤ _
      rw [hpl]; omega
    · show (pl (T.take A) (T.length - A)).reaches ((pl (T.take A) (T.length - A)).plain ((T.take b).drop A) ((T.drop b).take (a - k - b))) (a - f) = true
      rw [hp1]
      show decide _ = true
      rw [decide_eq_true_eq, hTA, hs2]
      omega
    · show (pl (T.take A) (T.length - A)).room ((pl (T.take A) (T.length - A)).plain ((T.take b).drop A) ((T.drop b).take (a - k - b))) n = true
      rw [hp1]
      show decide _ = true
      rw [decide_eq_true_eq, hs2]
      omega
  · intro s hs
    simp at hs
    subst hs
    show 5 ≤ _ ∧ 12 ≤ n + _
    omega
theorem EncTo.good {T : List By} {A b a : Nat} {ms : List Sq} {r : List Sq × Nat} (h : EncTo T b a ms r) (hi : EI T A b a ms) : ∃ a', EI T A r.2 a' r.1 := by
  induction h with
  | done _ => exact ⟨_, hi⟩
  | skip _ _ _ ih => exact ih hi.skip
  | hit h1 h2 h3 h4 _ ih => exact ih (hi.hit (hit_of hi.ba h1 h2 h3 h4))
/-- What the encoder makes. -/
theorem EI.made {T : List By} {A b a : Nat} {ms : List Sq} (h : EI T A b a ms) : (mk ms (T.drop b)).length ≤ T.length - A + (T.length - A) / 255 + 16 ∧ (∀ L, scanS (Go.Proofs.Ytpnacppmdlnjlab.pl (T.take A) (T.length - A)) L (mk ms (T.drop b)) [] = .good (T.drop A)) := by
  have hlo := h.lo
  have hhi := h.hi
  have hdl : (T.drop b).length = T.length - b := by simp
  constructor
  · have hl := h.len
    have e1 := ext_255 (T.length - b)
    unfold mk encL
    rw [List.length_append, List.length_cons, List.length_append, hdl]
    by_cases h15 : T.length - b < 15
    · have := e1.2.1 h15; omega
    · omega
  · intro L
    unfold mk
    rw [h.ply]
    have hs1 : ((T.take b).drop A).length = b - A := by simp; omega
    rw [scan_last]
    · show Rs.good ((T.take b).drop A ++ T.drop b) = _
      congr 1
      have := List.take_append_drop b T
      conv => rhs; rw [← this]
      rw [List.drop_append_of_le_length (by simp; omega)]
    · show decide _ = true
      rw [decide_eq_true_eq, hs1, hdl]
      omega
end Go.Proofs.Ytpnacppmdlnjlab

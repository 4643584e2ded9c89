import Derived.Test.YtkpkiajehclbhaaVbh
namespace Go.Proofs.Ytkpkiajehclbhaa
open Go.RowKit
set_option linter.unusedVariables false
/-- A symbol's length: how often it is told. -/
def lnt (S : List Nat) (j : Nat) : Nat := S.countP (fun s => decide (j < s))
theorem lnt_cons (s : Nat) (S : List Nat) (j : Nat) : lnt (s :: S) j = lnt S j + (if j < s then 1 else 0) := by
  unfold lnt
  rw [List.countP_cons]
  by_cases h : j < s <;> simp [h]
theorem lnt_le (S : List Nat) (j : Nat) : lnt S j ≤ S.length := List.countP_le_length
abbrev Dec (S : List Nat) : Prop := S.Pairwise (fun a b => b ≤ a)
theorem lnt_zero (S : List Nat) (j : Nat) (h : ∀ s ∈ S, s ≤ j) : lnt S j = 0 := by
  unfold lnt
  rw [List.countP_eq_zero]
  intro s hs
  have := h s hs
  simp; omega
/-- The worths of one symbol's coins. -/
def wj (j : Nat) : Nat → List Nat → Nat
  | 0, _ => 0
  | _, [] => 0
  | i + 1, s :: r => (if j < s then 2 ^ i else 0) + wj j i r
theorem wj_zero (j : Nat) : ∀ (i : Nat) (S : List Nat), (∀ s ∈ S, s ≤ j) → wj j i S = 0
  | 0, S, _ => by cases S <;> rfl
  | i + 1, [], _ => rfl
  | i + 1, s :: r, h => by
    rw [wj, if_neg (by have := h s (by simp); omega), wj_zero j i r (fun x hx => h x (by simp [hx]))]
theorem wj_eq (j : Nat) : ∀ (i : Nat) (S : List Nat), S.length = i → Dec S → wj j i S + 2 ^ (i - lnt S j) = 2 ^ i
  | 0, [], _, _ => by simp [wj, lnt]
  | 0, s :: r, h, _ => by simp at h
  | i + 1, [], h, _ => by simp at h
  | i + 1, s :: r, h, hd => by
    have hd1 := List.pairwise_cons.1 hd
    have hl : r.length = i := by simpa using h
    by_cases hj : j < s
    · have ih := wj_eq j i r hl hd1.2
      have hle := lnt_le r j
      rw [wj, lnt_cons, if_pos hj, if_pos hj, show i + 1 - (lnt r j + 1) = i - lnt r j by omega, Nat.pow_succ]
      omega
    · have hz : ∀ x ∈ s :: r, x ≤ j := fun x hx => by
        rcases List.mem_cons.1 hx with rfl | hx
        · omega
        · have := hd1.1 x hx; omega
      rw [wj_zero j (i + 1) _ hz, lnt_zero _ j hz]
      simp
theorem sum_ind (k s : Nat) (hs : s ≤ k) (v : Nat) : ((List.range k).map (fun j => if j < s then v else 0)).sum = s * v := by
  induction k generalizing s with
  | zero => obtain rfl : s = 0 := by omega
            simp
  | succ k ih =>
    rw [List.range_succ, List.map_append, List.sum_append]
    by_cases e : s = k + 1
    · subst e
      have : (List.range k).map (fun j => if j < k + 1 then v else 0) = (List.range k).map (fun j => if j < k then v else 0) := by
        apply List.map_congr_left
        intro x hx
        rw [List.mem_range] at hx
        rw [if_pos (by omega), if_pos hx]
      rw [this, ih k (Nat.le_refl _)]
      simp [Nat.add_mul]
    · rw [ih s (by omega)]
      simp
      omega
theorem sum_map_add (l : List Nat) (f g : Nat → Nat) : (l.map (fun x => f x + g x)).sum = (l.map f).sum + (l.map g).sum := by
  induction l with
  | nil => simp
  | cons a r ih => simp only [List.map_cons, List.sum_cons, ih]; omega
theorem sum_const (k v : Nat) : ((List.range k).map (fun _ => v)).sum = k * v := by
  have := sum_ind k k (Nat.le_refl _) v
  rw [← this]
  congr 1
  apply List.map_congr_left
  intro x hx
  rw [List.mem_range] at hx
  rw [if_pos hx]
theorem sum_wj (k : Nat) : ∀ (i : Nat) (S : List Nat), (∀ s ∈ S, s ≤ k) → ((List.range k).map (fun j => wj j i S)).sum = worth i S
  | 0, S, _ => by
    have : (fun j => wj j 0 S) = fun _ => 0 := by funext j; cases S <;> rfl
    rw [this, sum_const]
    cases S <;> simp [worth]
  | i + 1, [], _ => by
    have : (fun j => wj j (i + 1) []) = fun _ => 0 := by funext j; rfl
    rw [this, sum_const]; simp [worth]
  | i + 1, s :: r, h => by
    have e : (fun j => wj j (i + 1) (s :: r)) = fun j => (if j < s then 2 ^ i else 0) + wj j i r := rfl
    rw [e, sum_map_add, sum_ind k s (h s (by simp)), sum_wj k i r (fun x hx => h x (by simp [hx])), worth]
/-- The whole. -/
theorem whole_of (k m : Nat) (S : List Nat) (hl : S.length = m) (hd : Dec S) (hs : ∀ s ∈ S, s ≤ k) (hk : 1 ≤ k) (hw : worth m S = (k - 1) * 2 ^ m) : ((List.range k).map (fun j => 2 ^ (m - lnt S j))).sum = 2 ^ m := by
  have h1 : ((List.range k).map (fun j => wj j m S + 2 ^ (m - lnt S j))).sum = k * 2 ^ m := by
    have : (fun j => wj j m S + 2 ^ (m - lnt S j)) = fun _ => 2 ^ m := by funext j; exact wj_eq j m S hl hd
    rw [this, sum_const]
  rw [sum_map_add, sum_wj k m S hs, hw] at h1
  obtain ⟨k', rfl⟩ : ∃ k', k = k' + 1 := ⟨k - 1, by omega⟩
  rw [Nat.add_sub_cancel, Nat.add_mul, Nat.one_mul] at h1
  omega
/-- What the lengths cost. -/
theorem sum_take (cs : List Nat) (s : Nat) (hs : s ≤ cs.length) : (cs.take s).sum = ((List.range cs.length).map (fun j => if j < s then cs.getD j 0 else 0)).sum := by
  induction cs generalizing s with
  | nil => simp
  | cons c r ih =>
    rw [List.length_cons, List.range_succ_eq_map, List.map_cons, List.sum_cons, List.map_map]
    cases s with
    | zero =>
      have e : ((fun j => if j < 0 then (c :: r).getD j 0 else 0) ∘ Nat.succ) = fun _ => 0 := by funext j; simp
      rw [e, sum_const]; simp
    | succ s =>
      have h0 := ih s (by simpa using hs)
      rw [List.take_succ_cons, List.sum_cons, h0, if_pos (by omega)]
      congr 1
      congr 1
      apply List.map_congr_left
      intro x hx
      simp
theorem cost_of (cs S : List Nat) (hs : ∀ s ∈ S, s ≤ cs.length) : ((List.range cs.length).map (fun j => lnt S j * cs.getD j 0)).sum = (S.map (fun s => (cs.take s).sum)).sum := by
  induction S with
  | nil =>
    have e : (fun j => lnt [] j * cs.getD j 0) = fun _ => 0 := by funext j; simp [lnt]
    rw [e, sum_const]; simp
  | cons s r ih =>
    rw [List.map_cons, List.sum_cons, ← ih (fun x hx => hs x (by simp [hx])), sum_take cs s (hs s (by simp)), ← sum_map_add]
    congr 1
    apply List.map_congr_left
    intro j _
    rw [lnt_cons]
    by_cases h : j < s
    · rw [if_pos h, if_pos h, Nat.add_mul]; omega
    · rw [if_neg h, if_neg h, Nat.add_zero]; omega
theorem pu_length (cs : List Nat) (hk : 1 ≤ cs.length) (i : Nat) : (pu cs i).length + (cs.length - 1) / 2 ^ i + 1 = 2 * cs.length := by
  induction i with
  | zero =>
    show (mg cs []).length + _ + 1 = _
    rw [mg_length]; simp; omega
  | succ i ih =>
    show (mg cs (pr (cost (pu cs i)))).length + _ + 1 = _
    rw [mg_length, pr_length, cost_length, Nat.pow_succ, ← Nat.div_div_eq_div_mul]
    have : (cs.length - 1) / 2 ^ i ≤ cs.length - 1 := Nat.div_le_self _ _
    omega
theorem pu_le (cs : List Nat) (i : Nat) : (pu cs i).length ≤ 2 * cs.length := by
  induction i with
  | zero => show (mg cs []).length ≤ _; rw [mg_length]; simp; omega
  | succ i ih =>
    show (mg cs (pr (cost (pu cs i)))).length ≤ _
    rw [mg_length, pr_length, cost_length]; omega
theorem pu_fits (cs : List Nat) (hk : 1 ≤ cs.length) (m : Nat) (hm : cs.length ≤ 2 ^ (m + 1)) : 2 * (cs.length - 1) ≤ (pu cs m).length := by
  have h := pu_length cs hk m
  have hd : (cs.length - 1) / 2 ^ m ≤ 1 := by
    have : (cs.length - 1) / 2 ^ m < 2 := (Nat.div_lt_iff_lt_mul (Nat.two_pow_pos _)).2 (by rw [Nat.pow_succ] at hm; omega)
    omega
  omega
theorem tells_length (cs : List Nat) (i t : Nat) : (tells cs i t).length = i := by
  induction i generalizing t with
  | zero => rfl
  | succ i ih => rw [tells, List.length_cons, ih]
theorem tells_le (cs : List Nat) (i t : Nat) : ∀ s ∈ tells cs i t, s ≤ cs.length := by
  induction i generalizing t with
  | zero => intro s hs; simp [tells] at hs
  | succ i ih =>
    intro s hs
    rw [tells, List.mem_cons] at hs
    rcases hs with rfl | hs
    · have h := (sgl_le t (pu cs i)).2
      have e : cost ((pu cs i).filter isS) = cs := by cases i with
        | zero => exact mg_singles cs []
        | succ i => exact mg_singles cs _
      rw [← cost_length, e] at h
      exact h
    · exact ih _ s hs
theorem tells_dec (cs : List Nat) (h : Inc cs) (hp : ∀ c ∈ cs, 0 < c) (i t : Nat) (ht : t ≤ (pu cs i).length) : Dec (tells cs (i + 1) t) := by
  induction i generalizing t with
  | zero => simp [tells]
  | succ i ih =>
    have hn := pu_next cs i t ht
    have h1 := ih _ hn
    rw [tells]
    refine List.pairwise_cons.2 ⟨fun x hx => ?_, h1⟩
    have h2 := nested cs h hp i t ht
    rw [tells, List.mem_cons] at hx
    rw [tells] at h1
    rcases hx with rfl | hx
    · exact h2
    · have := (List.pairwise_cons.1 h1).1 x hx
      omega
/-- All that is promised of the lengths. -/
theorem best (cs : List Nat) (h : Inc cs) (hp : ∀ c ∈ cs, 0 < c) (m : Nat) (hk : 2 ≤ cs.length) (hm : cs.length ≤ 2 ^ (m + 1)) :
    ((List.range cs.length).map (fun j => 2 ^ (m + 1 - lnt (tells cs (m + 1) (2 * (cs.length - 1))) j))).sum = 2 ^ (m + 1) ∧
    ((List.range cs.length).map (fun j => lnt (tells cs (m + 1) (2 * (cs.length - 1))) j * cs.getD j 0)).sum = ((cost (pu cs m)).take (2 * (cs.length - 1))).sum ∧
    (∀ j, j < cs.length → 1 ≤ lnt (tells cs (m + 1) (2 * (cs.length - 1))) j ∧ lnt (tells cs (m + 1) (2 * (cs.length - 1))) j ≤ m + 1) := by
  have ht := pu_fits cs (by omega) m hm
  have hl := tells_length cs (m + 1) (2 * (cs.length - 1))
  have hle := tells_le cs (m + 1) (2 * (cs.length - 1))
  have hd := tells_dec cs h hp m _ ht
  have hw := tells_worth cs m _ ht
  have hc := tells_cost cs m _ ht
  generalize tells cs (m + 1) (2 * (cs.length - 1)) = S at *
  have h1 := whole_of cs.length (m + 1) S hl hd hle (by omega) (by rw [hw, Nat.pow_succ, Nat.mul_comm 2 (cs.length - 1), Nat.mul_assoc, Nat.mul_comm 2 (2 ^ m)])
  refine ⟨h1, by rw [cost_of cs S hle, hc], fun j hj => ⟨?_, by have := lnt_le S j; omega⟩⟩
  -- a symbol with no bit would be the whole by itself
  rcases Nat.eq_zero_or_pos (lnt S j) with e | e
  · exfalso
    obtain ⟨i, hi, hij⟩ : ∃ i, i < cs.length ∧ i ≠ j := by
      by_cases e0 : j = 0
      · exact ⟨1, by omega, by omega⟩
      · exact ⟨0, by omega, by omega⟩
    have hsum : ∀ (n : Nat) (f : Nat → Nat) (a b : Nat), a < n → b < n → a ≠ b → f a + f b ≤ ((List.range n).map f).sum := by
      intro n f
      have one : ∀ (n a : Nat), a < n → f a ≤ ((List.range n).map f).sum := by
        intro n
        induction n with
        | zero => intro a ha; omega
        | succ n ih =>
          intro a ha
          rw [List.range_succ, List.map_append, List.sum_append]
          by_cases e : a = n
          · subst e; simp
          · have := ih a (by omega); omega
      induction n with
      | zero => intro a b ha; omega
      | succ n ih =>
        intro a b ha hb hab
        rw [List.range_succ, List.map_append, List.sum_append]
        simp only [List.map_cons, List.map_nil, List.sum_cons, List.sum_nil]
        by_cases e1 : a = n
        · subst e1; have := one a b (by omega); omega
        · by_cases e2 : b = n
          · subst e2; have := one b a (by omega); omega
          · have := ih a b (by omega) (by omega) hab; omega
    have := hsum cs.length (fun j => 2 ^ (m + 1 - lnt S j)) j i hj hi (fun e => hij e.symm)
    rw [h1] at this
    simp only [e, Nat.sub_zero] at this
    have hpz : 0 < 2 ^ (m + 1 - lnt S i) := Nat.two_pow_pos _
    omega
  · exact e
end Go.Proofs.Ytkpkiajehclbhaa

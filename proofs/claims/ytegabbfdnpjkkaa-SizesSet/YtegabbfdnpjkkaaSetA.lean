import Derived.Test.YtegabbfdnpjkkaaRbO
namespace Go.Proofs.Ytegabbfdnpjkkaa
set_option linter.unusedVariables false
set_option linter.unusedSimpArgs false

/-- A place that a range has. -/
def Cov (x : Rg) (n : Int) : Prop := cb x = true ∧ x.1 ≤ n ∧ n < x.2

theorem part_le (L : List Rg) (f g : Rg → Bool) (i j : Nat) (hi : Part L f i) (hj : Part L g j) (h : ∀ t (ht : t < L.length), g L[t] = true → f L[t] = true) : i ≤ j := by
  rcases Nat.lt_or_ge j i with hlt | hge
  · have hjl : j < L.length := by have := hi.1; omega
    have h1 := h j hjl (hj.2.2 j hjl (Nat.le_refl _))
    have h2 := hi.2.1 j hjl hlt
    rw [h1] at h2; cases h2
  · exact hge
theorem with_len (L : List Rg) (x : Rg) (h : Good L) (hx : Ok1 x) : (withL L x).length ≤ L.length + 1 := by
  obtain ⟨i, hi⟩ := part_ex L (fun y => decide (x.1 ≤ y.2)) (fun a b ha hb hab hp => by have := (h.rises a b ha hb hab).2; simp only [decide_eq_true_eq] at hp ⊢; omega)
  obtain ⟨j, hj⟩ := part_ex L (fun y => decide (x.2 < y.1)) (fun a b ha hb hab hp => by have := (h.rises a b ha hb hab).1; simp only [decide_eq_true_eq] at hp ⊢; omega)
  have hij := part_le L _ _ i j hi hj (fun t ht k => by have := h.ok t ht; have := hx.2.1; simp only [decide_eq_true_eq] at k ⊢; omega)
  rw [← add_eq L x i j h hx hi hj hij]
  have := hj.1
  have := hi.1
  simp only [List.length_append, List.length_take, List.length_drop, List.length_cons, List.length_nil]
  omega
theorem wo_len2 (L : List Rg) (x : Rg) (h : Good L) (hx : Ok1 x) : (wo L x).length ≤ L.length + 2 := by
  obtain ⟨i, hi⟩ := part_ex L (fun y => decide (x.1 < y.2)) (fun a b ha hb hab hp => by have := (h.rises a b ha hb hab).2; simp only [decide_eq_true_eq] at hp ⊢; omega)
  obtain ⟨j, hj⟩ := part_ex L (fun y => decide (x.2 ≤ y.1)) (fun a b ha hb hab hp => by have := (h.rises a b ha hb hab).1; simp only [decide_eq_true_eq] at hp ⊢; omega)
  have hij := part_le L _ _ i j hi hj (fun t ht k => by have := h.ok t ht; have := hx.2.1; simp only [decide_eq_true_eq] at k ⊢; omega)
  rw [← cut_eq L x i j h hx hi hj hij]
  have := hj.1
  have := hi.1
  have := cutV_len L i j x
  simp only [List.length_append, List.length_take, List.length_drop]
  omega

theorem add_fact (L : List Rg) (x : Rg) (h : Good L) (hL : L.length < 65536) (hm : x.2 ≤ 9223372036854775807) :
    Good (refAdd L x).1 ∧ (refAdd L x).1.length ≤ L.length + 1 ∧ (∀ n, In (refAdd L x).1 n ↔ In L n ∨ Cov x n) ∧ (cb x = true → (refAdd L x).2 = 0) := by
  cases hcb : cb x with
  | false =>
    have hR : refAdd L x = (L, 12) := by unfold refAdd; rw [hcb]; rfl
    rw [hR]
    exact ⟨h, by simp only; omega, fun n => ⟨.inl, fun k => k.elim id (fun k => by have := k.1; rw [hcb] at this; cases this)⟩, fun k => by cases k⟩
  | true =>
    by_cases hlt : x.1 < x.2
    · have hx := cb_ok x hcb hm hlt
      have hl := with_len L x h hx
      have hR : refAdd L x = (withL L x, 0) := by unfold refAdd withLL; rw [hcb, if_pos rfl, if_pos hlt, if_neg (by omega)]
      rw [hR]
      obtain ⟨g1, g2⟩ := with_good L x hx h
      refine ⟨g1, hl, fun n => (g2 n).trans (or_congr Iff.rfl ?_), fun _ => rfl⟩
      exact ⟨fun k => ⟨hcb, k⟩, fun k => k.2⟩
    · have hR : refAdd L x = (L, 0) := by unfold refAdd withLL; rw [hcb, if_pos rfl, if_neg hlt, if_neg (by omega)]
      rw [hR]
      exact ⟨h, by simp only; omega, fun n => ⟨.inl, fun k => k.elim id (fun k => by have := k.2; omega)⟩, fun _ => rfl⟩
theorem cut_fact (L : List Rg) (x : Rg) (h : Good L) (hL : L.length + 2 ≤ 65536) (hm : x.2 ≤ 9223372036854775807) :
    Good (refCut L x).1 ∧ (refCut L x).1.length ≤ L.length + 2 ∧ (∀ n, In (refCut L x).1 n ↔ In L n ∧ ¬ Cov x n) := by
  cases hcb : cb x with
  | false =>
    have hR : refCut L x = (L, 12) := by unfold refCut; rw [hcb]; rfl
    rw [hR]
    exact ⟨h, by simp only; omega, fun n => ⟨fun k => ⟨k, fun c => by have := c.1; rw [hcb] at this; cases this⟩, fun k => k.1⟩⟩
  | true =>
    by_cases hlt : x.1 < x.2
    · have hx := cb_ok x hcb hm hlt
      have hl := wo_len2 L x h hx
      have hR : refCut L x = (wo L x, 0) := by unfold refCut; rw [hcb, if_pos rfl, if_neg (by omega)]
      rw [hR]
      refine ⟨wo_good L x hlt h, hl, fun n => (wo_in L x hlt n).trans (and_congr Iff.rfl (not_congr ?_))⟩
      exact ⟨fun k => ⟨hcb, k⟩, fun k => k.2⟩
    · have hR : refCut L x = (L, 0) := by unfold refCut; rw [hcb, if_pos rfl, wo_empty L x hlt h, if_neg (by omega)]
      rw [hR]
      exact ⟨h, by simp only; omega, fun n => ⟨fun k => ⟨k, fun c => by have := c.2; omega⟩, fun k => k.1⟩⟩
theorem gaps_fact (L : List Rg) (x : Rg) (h : Good L) (hm : x.2 ≤ 9223372036854775807) :
    Good (refGaps L x) ∧ (refGaps L x).length ≤ L.length + 1 ∧ ∀ n, In (refGaps L x) n ↔ Cov x n ∧ ¬ In L n := by
  cases hcb : cb x with
  | false =>
    have hR : refGaps L x = [] := by unfold refGaps; rw [if_neg (fun h => by rw [hcb] at h; cases h.1)]
    rw [hR]
    exact ⟨Good.nil, by simp, fun n => ⟨fun k => (In_nil _ k).elim, fun k => by have := k.1.1; rw [hcb] at this; cases this⟩⟩
  | true =>
    obtain ⟨k, hk⟩ := part_gap L x.1 h
    have h0 : 0 ≤ x.1 := by have := hcb; unfold cb at this; simp only [Bool.and_eq_true, decide_eq_true_eq] at this; exact this.1
    rw [← gaps_eq L x k h hcb hm hk]
    obtain ⟨g1, g2⟩ := gaps_good L x k h h0 hm hk
    have hl := gp_len x (L.drop k) x.1 []
    simp only [List.length_drop, List.length_nil] at hl
    refine ⟨g1, by omega, fun n => (g2 n).trans ?_⟩
    exact ⟨fun k => ⟨⟨hcb, k.1, k.2.1⟩, k.2.2⟩, fun k => ⟨k.1.2.1, k.1.2.2, k.2⟩⟩
theorem cb_of_ok (p : Rg) (h : Ok1 p) : cb p = true := by unfold cb; unfold Ok1 at h; simp; omega
/-- Each gap lies within, is not empty, and is not had. -/
theorem gap_each (L : List Rg) (x : Rg) (h : Good L) (hm : x.2 ≤ 9223372036854775807) (t : Nat) (ht : t < (refGaps L x).length) :
    ((refGaps L x)[t]).1 < ((refGaps L x)[t]).2 ∧ x.1 ≤ ((refGaps L x)[t]).1 ∧ ((refGaps L x)[t]).2 ≤ x.2 ∧ cb (refGaps L x)[t] = true ∧ decide (refGaps L (refGaps L x)[t] = []) = false ∧ ((refGaps L x)[t]).2 ≤ 9223372036854775807 ∧ 0 ≤ ((refGaps L x)[t]).1 := by
  obtain ⟨g1, _, g3⟩ := gaps_fact L x h hm
  have hok := g1.get t ht
  have hin : ∀ n, ((refGaps L x)[t]).1 ≤ n → n < ((refGaps L x)[t]).2 → In (refGaps L x) n := fun n a b => (In_get _ n).2 ⟨t, ht, a, b⟩
  generalize (refGaps L x)[t] = g at hok hin ⊢
  have hcb := cb_of_ok g hok
  unfold Ok1 at hok
  have a1 := (g3 _).1 (hin g.1 (Int.le_refl _) hok.2.1)
  have a2 := (g3 _).1 (hin (g.2 - 1) (by omega) (by omega))
  have b1 := a1.1.2
  have b2 := a2.1.2
  refine ⟨hok.2.1, b1.1, by omega, hcb, ?_, hok.2.2, hok.1⟩
  rw [decide_eq_false_iff_not]
  intro he
  have := ((gaps_fact L g h hok.2.2).2.2 g.1).2 ⟨⟨hcb, Int.le_refl _, hok.2.1⟩, a1.2⟩
  rw [he] at this
  exact In_nil _ this

/-! ### Counting places -/
def cnt (P : Int → Bool) : Nat → Int
  | 0 => 0
  | m + 1 => cnt P m + (if P m = true then 1 else 0)
theorem cnt_or (P Q : Int → Bool) (h : ∀ n, ¬ (P n = true ∧ Q n = true)) (m : Nat) : cnt (fun n => P n || Q n) m = cnt P m + cnt Q m := by
  induction m with
  | zero => rfl
  | succ m ih =>
    simp only [cnt, ih]
    have := h m
    by_cases hp : P m = true
    · have hq : ¬ Q m = true := fun hq => this ⟨hp, hq⟩
      rw [if_pos (by rw [hp]; rfl), if_pos hp, if_neg hq]; omega
    · by_cases hq : Q m = true
      · rw [if_pos (by rw [hq, Bool.or_true]), if_neg hp, if_pos hq]; omega
      · rw [if_neg (by rw [Bool.or_eq_true]; exact fun k => k.elim hp hq), if_neg hp, if_neg hq]; omega
theorem cnt_iv (a b : Int) (m : Nat) (h0 : 0 ≤ a) (h1 : a ≤ b) : cnt (fun n => decide (a ≤ n) && decide (n < b)) m = (min b m) - (min a m) := by
  induction m with
  | zero => simp only [cnt]; omega
  | succ m ih =>
    simp only [cnt, ih, Bool.and_eq_true, decide_eq_true_eq]
    split <;> omega
def inB (L : List Rg) (n : Int) : Bool := L.any (fun p => decide (p.1 ≤ n) && decide (n < p.2))
theorem inB_iff (L : List Rg) (n : Int) : inB L n = true ↔ In L n := by
  unfold inB In
  simp only [List.any_eq_true, Bool.and_eq_true, decide_eq_true_eq]
theorem tot_cnt (m : Nat) (hm : (9223372036854775807 : Int) ≤ m) : ∀ (L : List Rg), Good L → tot L = cnt (inB L) m := by
  intro L
  induction L with
  | nil =>
    intro _
    have : ∀ k, cnt (inB []) k = 0 := fun k => by
      induction k with
      | zero => rfl
      | succ k ih => simp only [cnt, ih]; simp [inB]
    rw [this]; rfl
  | cons p r ih =>
    intro h
    obtain ⟨h1, h2, h3⟩ := (Good_cons p r).1 h
    have e : inB (p :: r) = fun n => (decide (p.1 ≤ n) && decide (n < p.2)) || inB r n := by
      funext n; simp only [inB, List.any_cons]
    rw [e, cnt_or, ← ih h3, cnt_iv p.1 p.2 m h1.1 (by have := h1.2.1; omega)]
    · unfold Ok1 at h1
      simp only [tot]
      omega
    · rintro n ⟨ha, hb⟩
      obtain ⟨q, hq, k⟩ := (inB_iff r n).1 hb
      simp only [Bool.and_eq_true, decide_eq_true_eq] at ha
      have := h2 q hq
      omega
theorem tot_union (A B Q : List Rg) (hA : Good A) (hB : Good B) (hQ : Good Q) (h : ∀ n, In Q n ↔ In A n ∨ In B n) (hd : ∀ n, ¬ (In A n ∧ In B n)) : tot Q = tot A + tot B := by
  obtain ⟨m, hm⟩ : ∃ m : Nat, (9223372036854775807 : Int) ≤ m := ⟨9223372036854775807, by omega⟩
  rw [tot_cnt m hm A hA, tot_cnt m hm B hB, tot_cnt m hm Q hQ, ← cnt_or _ _ (fun n k => hd n ⟨(inB_iff A n).1 k.1, (inB_iff B n).1 k.2⟩)]
  congr 1
  funext n
  have := h n
  rw [← inB_iff, ← inB_iff, ← inB_iff] at this
  cases hq : inB Q n <;> cases ha : inB A n <;> cases hb : inB B n <;> simp_all
theorem tot_bound (L : List Rg) (h : Good L) : 0 ≤ tot L ∧ tot L ≤ 9223372036854775807 := by
  have := h.fits.1 L.length (Nat.le_refl _)
  rw [List.take_length] at this
  exact this
end Go.Proofs.Ytegabbfdnpjkkaa

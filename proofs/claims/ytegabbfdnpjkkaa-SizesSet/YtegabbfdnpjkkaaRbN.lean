import Derived.Test.YtegabbfdnpjkkaaRbM
import Derived.Test.YtegabbfdnpjkkaaRanT
import Derived.Test.YtegabbfdnpjkkaaRanQ
import Derived.Test.YtegabbfdnpjkkaaRanX
namespace Go.Proofs.Ytegabbfdnpjkkaa
set_option linter.unusedVariables false
set_option linter.unusedSimpArgs false

theorem Good.get {L : List Rg} (h : Good L) (t : Nat) (ht : t < L.length) : Ok1 L[t] := h.2 _ (List.getElem_mem ht)
theorem Good.lt {L : List Rg} (h : Good L) (s t : Nat) (hs : s < L.length) (ht : t < L.length) (hst : s < t) : L[s].2 < L[t].1 := (List.pairwise_iff_getElem.1 h.1) s t hs ht hst
theorem Good.rises {L : List Rg} (h : Good L) : Rises L := by
  intro a b ha hb hab
  rcases Nat.lt_or_eq_of_le hab with hlt | rfl
  · have h1 := h.lt a b ha hb hlt
    have h2 := (h.get a ha).2.1
    have h3 := (h.get b hb).2.1
    omega
  · exact ⟨Int.le_refl _, Int.le_refl _⟩
theorem Good.ok {L : List Rg} (h : Good L) : ∀ t (ht : t < L.length), L[t].1 < L[t].2 := fun t ht => (h.get t ht).2.1
theorem In_get (L : List Rg) (n : Int) : In L n ↔ ∃ t, ∃ h : t < L.length, L[t].1 ≤ n ∧ n < L[t].2 := by
  constructor
  · rintro ⟨p, hp, k⟩
    obtain ⟨t, ht, rfl⟩ := List.getElem_of_mem hp
    exact ⟨t, ht, k⟩
  · rintro ⟨t, ht, k⟩
    exact ⟨L[t], List.getElem_mem ht, k⟩
theorem mem_take_get {L : List Rg} {i : Nat} {p : Rg} (h : p ∈ L.take i) : ∃ t, ∃ ht : t < L.length, t < i ∧ L[t] = p := by
  obtain ⟨t, ht, rfl⟩ := List.getElem_of_mem h
  rw [List.length_take] at ht
  exact ⟨t, by omega, by omega, by rw [List.getElem_take]⟩
theorem mem_drop_get {L : List Rg} {j : Nat} {p : Rg} (h : p ∈ L.drop j) : ∃ t, ∃ ht : t < L.length, j ≤ t ∧ L[t] = p := by
  obtain ⟨t, ht, rfl⟩ := List.getElem_of_mem h
  rw [List.length_drop] at ht
  exact ⟨j + t, by omega, by omega, by rw [List.getElem_drop]⟩
theorem take_mem {L : List Rg} {i t : Nat} (ht : t < L.length) (h : t < i) : L[t] ∈ L.take i := by
  have : (L.take i)[t]'(by rw [List.length_take]; omega) = L[t] := by rw [List.getElem_take]
  rw [← this]; exact List.getElem_mem _
theorem drop_mem {L : List Rg} {j t : Nat} (ht : t < L.length) (h : j ≤ t) : L[t] ∈ L.drop j := by
  have : (L.drop j)[t - j]'(by rw [List.length_drop]; omega) = L[t] := by
    rw [List.getElem_drop]; congr 1; omega
  rw [← this]; exact List.getElem_mem _
theorem Good.take {L : List Rg} (h : Good L) (i : Nat) : Good (L.take i) := ⟨h.1.sublist (List.take_sublist _ _), fun p hp => h.2 p (List.mem_of_mem_take hp)⟩
theorem Good.drop {L : List Rg} (h : Good L) (i : Nat) : Good (L.drop i) := ⟨h.1.sublist (List.drop_sublist _ _), fun p hp => h.2 p (List.mem_of_mem_drop hp)⟩

theorem splice_good (L V : List Rg) (i j : Nat) (h : Good L) (hij : i ≤ j) (hV : Good V)
    (h1 : ∀ t (ht : t < L.length), t < i → ∀ v ∈ V, L[t].2 < v.1) (h2 : ∀ t (ht : t < L.length), j ≤ t → ∀ v ∈ V, v.2 < L[t].1) :
    Good (L.take i ++ V ++ L.drop j) := by
  rw [Good_append, Good_append]
  refine ⟨⟨h.take i, hV, fun p hp q hq => ?_⟩, h.drop j, fun p hp q hq => ?_⟩
  · obtain ⟨t, ht, k, rfl⟩ := mem_take_get hp
    exact h1 t ht k q hq
  · obtain ⟨s, hs, k, rfl⟩ := mem_drop_get hq
    rcases List.mem_append.1 hp with hp | hp
    · obtain ⟨t, ht, k', rfl⟩ := mem_take_get hp
      exact h.lt t s ht hs (by omega)
    · exact h2 s hs k p hp
theorem splice_in (L V : List Rg) (i j : Nat) (n : Int) : In (L.take i ++ V ++ L.drop j) n ↔ (∃ t, ∃ ht : t < L.length, t < i ∧ L[t].1 ≤ n ∧ n < L[t].2) ∨ In V n ∨ ∃ t, ∃ ht : t < L.length, j ≤ t ∧ L[t].1 ≤ n ∧ n < L[t].2 := by
  rw [In_append, In_append, or_assoc]
  refine or_congr ?_ (or_congr Iff.rfl ?_)
  · constructor
    · rintro ⟨p, hp, k⟩
      obtain ⟨t, ht, k', rfl⟩ := mem_take_get hp
      exact ⟨t, ht, k', k⟩
    · rintro ⟨t, ht, k', k⟩
      exact ⟨L[t], take_mem ht k', k⟩
  · constructor
    · rintro ⟨p, hp, k⟩
      obtain ⟨t, ht, k', rfl⟩ := mem_drop_get hp
      exact ⟨t, ht, k', k⟩
    · rintro ⟨t, ht, k', k⟩
      exact ⟨L[t], drop_mem ht k', k⟩

theorem add_good (L : List Rg) (x : Rg) (i j : Nat) (h : Good L) (hx : Ok1 x) (hi : Part L (fun y => decide (x.1 ≤ y.2)) i) (hj : Part L (fun y => decide (x.2 < y.1)) j) (hij : i ≤ j) :
    Good (L.take i ++ [addX L i j x] ++ L.drop j) ∧ ∀ n, In (L.take i ++ [addX L i j x] ++ L.drop j) n ↔ In L n ∨ (x.1 ≤ n ∧ n < x.2) := by
  have I1 : ∀ t (ht : t < L.length), t < i → L[t].2 < x.1 := fun t ht k => by have := hi.2.1 t ht k; simp only [decide_eq_false_iff_not] at this; omega
  have I2 : ∀ t (ht : t < L.length), i ≤ t → x.1 ≤ L[t].2 := fun t ht k => by have := hi.2.2 t ht k; simp only [decide_eq_true_eq] at this; omega
  have J1 : ∀ t (ht : t < L.length), t < j → L[t].1 ≤ x.2 := fun t ht k => by have := hj.2.1 t ht k; simp only [decide_eq_false_iff_not] at this; omega
  have J2 : ∀ t (ht : t < L.length), j ≤ t → x.2 < L[t].1 := fun t ht k => by have := hj.2.2 t ht k; simp only [decide_eq_true_eq] at this; omega
  have hjL := hj.1
  have hr := h.rises
  unfold Ok1 at hx
  rcases Nat.lt_or_ge i j with hlt | hge
  · rw [addX_yes L i j x hlt hjL]
    have oi := h.get i (by omega)
    have oj := h.get (j - 1) (by omega)
    unfold Ok1 at oi oj
    have i2 := I2 i (by omega) (Nat.le_refl _)
    have j1 := J1 (j - 1) (by omega) (by omega)
    constructor
    · refine splice_good L _ i j h hij (Good_one _ ?_) ?_ ?_
      · unfold Ok1; simp only; omega
      · intro t ht k v hv
        rw [List.mem_singleton.1 hv]
        have := I1 t ht k
        have := h.lt t i ht (by omega) k
        simp only; omega
      · intro t ht k v hv
        rw [List.mem_singleton.1 hv]
        have := J2 t ht k
        have := h.lt (j - 1) t (by omega) ht (by omega)
        simp only; omega
    · intro n
      rw [splice_in, In_one, In_get]
      simp only
      constructor
      · rintro (⟨t, ht, _, k⟩ | k | ⟨t, ht, _, k⟩)
        · exact .inl ⟨t, ht, k⟩
        · by_cases h1 : n < x.1
          · exact .inl ⟨i, by omega, by omega⟩
          · by_cases h2 : n < x.2
            · exact .inr ⟨by omega, h2⟩
            · exact .inl ⟨j - 1, by omega, by omega⟩
        · exact .inl ⟨t, ht, k⟩
      · rintro (⟨t, ht, k⟩ | k)
        · rcases Nat.lt_or_ge t i with c | c
          · exact .inl ⟨t, ht, c, k⟩
          · rcases Nat.lt_or_ge t j with c' | c'
            · have a1 := (hr i t (by omega) ht c).1
              have a2 := (hr t (j - 1) ht (by omega) (by omega)).2
              exact .inr (.inl (by omega))
            · exact .inr (.inr ⟨t, ht, c', k⟩)
        · exact .inr (.inl (by omega))
  · obtain rfl : i = j := by omega
    rw [addX_no L i i x (by omega)]
    constructor
    · refine splice_good L _ i i h hij (Good_one _ hx) ?_ ?_
      · intro t ht k v hv
        rw [List.mem_singleton.1 hv]
        exact I1 t ht k
      · intro t ht k v hv
        rw [List.mem_singleton.1 hv]
        exact J2 t ht k
    · intro n
      rw [splice_in, In_one, In_get]
      constructor
      · rintro (⟨t, ht, _, k⟩ | k | ⟨t, ht, _, k⟩)
        · exact .inl ⟨t, ht, k⟩
        · exact .inr k
        · exact .inl ⟨t, ht, k⟩
      · rintro (⟨t, ht, k⟩ | k)
        · rcases Nat.lt_or_ge t i with c | c
          · exact .inl ⟨t, ht, c, k⟩
          · exact .inr (.inr ⟨t, ht, c, k⟩)
        · exact .inr (.inl k)
theorem add_eq (L : List Rg) (x : Rg) (i j : Nat) (h : Good L) (hx : Ok1 x) (hi : Part L (fun y => decide (x.1 ≤ y.2)) i) (hj : Part L (fun y => decide (x.2 < y.1)) j) (hij : i ≤ j) :
    L.take i ++ [addX L i j x] ++ L.drop j = withL L x := by
  obtain ⟨a1, a2⟩ := add_good L x i j h hx hi hj hij
  obtain ⟨b1, b2⟩ := with_good L x hx h
  exact good_uniq _ _ a1 b1 (fun n => (a2 n).trans (b2 n).symm)

theorem cut_good (L : List Rg) (x : Rg) (i j : Nat) (h : Good L) (hx : Ok1 x) (hi : Part L (fun y => decide (x.1 < y.2)) i) (hj : Part L (fun y => decide (x.2 ≤ y.1)) j) (hij : i ≤ j) :
    Good (L.take i ++ cutV L i j x ++ L.drop j) ∧ ∀ n, In (L.take i ++ cutV L i j x ++ L.drop j) n ↔ In L n ∧ ¬ (x.1 ≤ n ∧ n < x.2) := by
  have I1 : ∀ t (ht : t < L.length), t < i → L[t].2 ≤ x.1 := fun t ht k => by have := hi.2.1 t ht k; simp only [decide_eq_false_iff_not] at this; omega
  have I2 : ∀ t (ht : t < L.length), i ≤ t → x.1 < L[t].2 := fun t ht k => by have := hi.2.2 t ht k; simp only [decide_eq_true_eq] at this; omega
  have J1 : ∀ t (ht : t < L.length), t < j → L[t].1 < x.2 := fun t ht k => by have := hj.2.1 t ht k; simp only [decide_eq_false_iff_not] at this; omega
  have J2 : ∀ t (ht : t < L.length), j ≤ t → x.2 ≤ L[t].1 := fun t ht k => by have := hj.2.2 t ht k; simp only [decide_eq_true_eq] at this; omega
  have hjL := hj.1
  have hr := h.rises
  unfold Ok1 at hx
  rcases Nat.lt_or_ge i j with hlt | hge
  · rw [cutV_yes L i j x hlt hjL]
    have oi := h.get i (by omega)
    have oj := h.get (j - 1) (by omega)
    unfold Ok1 at oi oj
    have e1 : (if (L[i]'(by omega)).1 < x.1 then [((L[i]'(by omega)).1, x.1)] else []) = sing ((L[i]'(by omega)).1, x.1) := rfl
    have e2 : (if x.2 < (L[j - 1]'(by omega)).2 then [(x.2, (L[j - 1]'(by omega)).2)] else []) = sing (x.2, (L[j - 1]'(by omega)).2) := rfl
    rw [e1, e2]
    constructor
    · refine splice_good L _ i j h hij ((Good_append _ _).2 ⟨?_, ?_, ?_⟩) ?_ ?_
      · unfold sing; split
        · exact Good_one _ (by unfold Ok1; simp only at *; omega)
        · exact Good.nil
      · unfold sing; split
        · exact Good_one _ (by unfold Ok1; simp only at *; omega)
        · exact Good.nil
      · intro p hp q hq
        rw [(sing_mem _ _ hp).1, (sing_mem _ _ hq).1]
        simp only; omega
      · intro t ht k v hv
        have a1 := I1 t ht k
        have a2 := h.lt t i ht (by omega) k
        rcases List.mem_append.1 hv with hv | hv
        · rw [(sing_mem _ _ hv).1]; simp only; omega
        · rw [(sing_mem _ _ hv).1]; simp only; omega
      · intro t ht k v hv
        have a1 := J2 t ht k
        have a2 := h.lt (j - 1) t (by omega) ht (by omega)
        rcases List.mem_append.1 hv with hv | hv
        · rw [(sing_mem _ _ hv).1]; simp only; omega
        · rw [(sing_mem _ _ hv).1]; simp only; omega
    · intro n
      rw [splice_in, In_append, In_sing, In_sing, In_get]
      simp only
      have i2 := I2 i (by omega) (Nat.le_refl _)
      have j1 := J1 (j - 1) (by omega) (by omega)
      constructor
      · rintro (⟨t, ht, c, k⟩ | (k | k) | ⟨t, ht, c, k⟩)
        · have := I1 t ht c; exact ⟨⟨t, ht, k⟩, by omega⟩
        · exact ⟨⟨i, by omega, by omega⟩, by omega⟩
        · exact ⟨⟨j - 1, by omega, by omega⟩, by omega⟩
        · have := J2 t ht c; exact ⟨⟨t, ht, k⟩, by omega⟩
      · rintro ⟨⟨t, ht, k⟩, kx⟩
        rcases Nat.lt_or_ge t i with c | c
        · exact .inl ⟨t, ht, c, k⟩
        · rcases Nat.lt_or_ge t j with c' | c'
          · have a1 := (hr i t (by omega) ht c).1
            have a2 := (hr t (j - 1) ht (by omega) (by omega)).2
            by_cases hn : n < x.1
            · exact .inr (.inl (.inl (by omega)))
            · exact .inr (.inl (.inr (by omega)))
          · exact .inr (.inr ⟨t, ht, c', k⟩)
  · obtain rfl : i = j := by omega
    rw [cutV_no L i i x (by omega)]
    constructor
    · exact splice_good L _ i i h hij Good.nil (fun t ht k v hv => by cases hv) (fun t ht k v hv => by cases hv)
    · intro n
      rw [splice_in, In_get L]
      constructor
      · rintro (⟨t, ht, c, k⟩ | k | ⟨t, ht, c, k⟩)
        · have := I1 t ht c; exact ⟨⟨t, ht, k⟩, by omega⟩
        · exact (In_nil _ k).elim
        · have := J2 t ht c; exact ⟨⟨t, ht, k⟩, by omega⟩
      · rintro ⟨⟨t, ht, k⟩, kx⟩
        rcases Nat.lt_or_ge t i with c | c
        · exact .inl ⟨t, ht, c, k⟩
        · exact .inr (.inr ⟨t, ht, c, k⟩)
theorem cut_eq (L : List Rg) (x : Rg) (i j : Nat) (h : Good L) (hx : Ok1 x) (hi : Part L (fun y => decide (x.1 < y.2)) i) (hj : Part L (fun y => decide (x.2 ≤ y.1)) j) (hij : i ≤ j) :
    L.take i ++ cutV L i j x ++ L.drop j = wo L x := by
  obtain ⟨a1, a2⟩ := cut_good L x i j h hx hi hj hij
  exact good_uniq _ _ a1 (wo_good L x hx.2.1 h) (fun n => (a2 n).trans (wo_in L x hx.2.1 n).symm)

/-! ### Gaps -/
theorem gfin_good (x : Rg) (A : Int) (GS : List Rg) (hx : x.2 ≤ 9223372036854775807) (hA : 0 ≤ A) (hG : Good GS) (hGA : ∀ p ∈ GS, p.2 < A) :
    Good (gfin x A GS) ∧ ∀ n, In (gfin x A GS) n ↔ In GS n ∨ (A ≤ n ∧ n < x.2) := by
  unfold gfin; split
  · refine ⟨(Good_append _ _).2 ⟨hG, Good_one _ (by unfold Ok1; simp only; omega), fun p hp q hq => ?_⟩, fun n => ?_⟩
    · rw [List.mem_singleton.1 hq]; exact hGA p hp
    · rw [In_append, In_one]
  · exact ⟨hG, fun n => ⟨.inl, fun h => h.elim id (fun h => by omega)⟩⟩
theorem gp_good (x : Rg) (hx : x.2 ≤ 9223372036854775807) : ∀ (M : List Rg) (A : Int) (GS : List Rg), 0 ≤ A → Good M → (∀ y ∈ M, A < y.2) → Good GS → (∀ p ∈ GS, p.2 < A) →
    Good (gp x A M GS) ∧ ∀ n, In (gp x A M GS) n ↔ In GS n ∨ (A ≤ n ∧ n < x.2 ∧ ¬ In M n) := by
  intro M
  induction M with
  | nil =>
    intro A GS hA _ _ hG hGA
    obtain ⟨k1, k2⟩ := gfin_good x A GS hx hA hG hGA
    refine ⟨k1, fun n => (k2 n).trans ?_⟩
    exact or_congr Iff.rfl ⟨fun h => ⟨h.1, h.2, In_nil n⟩, fun h => ⟨h.1, h.2.1⟩⟩
  | cons y r ih =>
    intro A GS hA hM hMA hG hGA
    obtain ⟨m1, m2, m3⟩ := (Good_cons y r).1 hM
    have y0 := hMA y List.mem_cons_self
    unfold Ok1 at m1
    by_cases hc : x.2 ≤ y.1
    · rw [gp_end x A GS (y :: r) (.inr ⟨y, r, rfl, hc⟩)]
      obtain ⟨k1, k2⟩ := gfin_good x A GS hx hA hG hGA
      refine ⟨k1, fun n => (k2 n).trans ?_⟩
      refine or_congr Iff.rfl ⟨fun h => ⟨h.1, h.2, ?_⟩, fun h => ⟨h.1, h.2.1⟩⟩
      rw [In_cons]
      rintro (k | ⟨q, hq, k⟩)
      · omega
      · have := m2 q hq; omega
    · have e : gp x A (y :: r) GS = gp x y.2 r (if A < y.1 then GS ++ [(A, y.1)] else GS) := by simp only [gp, if_neg hc]
      rw [e]
      have hG' : Good (if A < y.1 then GS ++ [(A, y.1)] else GS) ∧ (∀ p ∈ (if A < y.1 then GS ++ [(A, y.1)] else GS), p.2 < y.2) ∧ ∀ n, In (if A < y.1 then GS ++ [(A, y.1)] else GS) n ↔ In GS n ∨ (A ≤ n ∧ n < y.1) := by
        split
        · refine ⟨(Good_append _ _).2 ⟨hG, Good_one _ (by unfold Ok1; simp only; omega), fun p hp q hq => ?_⟩, fun p hp => ?_, fun n => ?_⟩
          · rw [List.mem_singleton.1 hq]; exact hGA p hp
          · rcases List.mem_append.1 hp with hp | hp
            · have := hGA p hp; omega
            · rw [List.mem_singleton.1 hp]; simp only; omega
          · rw [In_append, In_one]
        · exact ⟨hG, fun p hp => by have := hGA p hp; omega, fun n => ⟨.inl, fun h => h.elim id (fun h => by omega)⟩⟩
      obtain ⟨g1, g2, g3⟩ := hG'
      obtain ⟨k1, k2⟩ := ih y.2 _ (by omega) m3 (fun q hq => by have := m2 q hq; have := (m3.2 q hq).2.1; omega) g1 g2
      refine ⟨k1, fun n => ?_⟩
      rw [k2, g3, In_cons]
      constructor
      · rintro ((k | k) | k)
        · exact .inl k
        · refine .inr ⟨by omega, by omega, ?_⟩
          rintro (k' | ⟨q, hq, k'⟩)
          · omega
          · have := m2 q hq; omega
        · refine .inr ⟨by omega, by omega, ?_⟩
          rintro (k' | k')
          · omega
          · exact k.2.2 k'
      · rintro (k | ⟨ka, kb, kc⟩)
        · exact .inl (.inl k)
        · by_cases hn : n < y.1
          · exact .inl (.inr ⟨ka, hn⟩)
          · refine .inr ⟨?_, kb, fun k => kc (.inr k)⟩
            rcases Int.lt_or_le n y.2 with h' | h'
            · exact (kc (.inl ⟨by omega, h'⟩)).elim
            · exact h'
theorem gp_len (x : Rg) : ∀ (M : List Rg) (A : Int) (GS : List Rg), (gp x A M GS).length ≤ GS.length + M.length + 1 := by
  have hf : ∀ A GS, (gfin x A GS).length ≤ GS.length + 1 := fun A GS => by unfold gfin; split <;> simp
  intro M
  induction M with
  | nil => intro A GS; have := hf A GS; simp only [gp, List.length_nil]; omega
  | cons y r ih =>
    intro A GS
    simp only [gp]
    split
    · have := hf A GS; simp only [List.length_cons]; omega
    · have h1 := ih y.2 (if A < y.1 then GS ++ [(A, y.1)] else GS)
      have h2 : (if A < y.1 then GS ++ [(A, y.1)] else GS).length ≤ GS.length + 1 := by split <;> simp
      simp only [List.length_cons]
      omega
/-- What of x is not in L. -/
theorem gaps_good (L : List Rg) (x : Rg) (k : Nat) (h : Good L) (h0 : 0 ≤ x.1) (hx : x.2 ≤ 9223372036854775807) (hk : Part L (fun y => decide (x.1 < y.2)) k) :
    Good (gp x x.1 (L.drop k) []) ∧ ∀ n, In (gp x x.1 (L.drop k) []) n ↔ x.1 ≤ n ∧ n < x.2 ∧ ¬ In L n := by
  have K1 : ∀ t (ht : t < L.length), t < k → L[t].2 ≤ x.1 := fun t ht c => by have := hk.2.1 t ht c; simp only [decide_eq_false_iff_not] at this; omega
  have K2 : ∀ t (ht : t < L.length), k ≤ t → x.1 < L[t].2 := fun t ht c => by have := hk.2.2 t ht c; simp only [decide_eq_true_eq] at this; omega
  obtain ⟨k1, k2⟩ := gp_good x hx (L.drop k) x.1 [] h0 (h.drop k) (fun y hy => by obtain ⟨t, ht, c, rfl⟩ := mem_drop_get hy; exact K2 t ht c) Good.nil (fun p hp => by cases hp)
  refine ⟨k1, fun n => (k2 n).trans ?_⟩
  constructor
  · rintro (h | ⟨a, b, c⟩)
    · exact (In_nil _ h).elim
    · refine ⟨a, b, fun hin => c ?_⟩
      obtain ⟨t, ht, d⟩ := (In_get L n).1 hin
      rcases Nat.lt_or_ge t k with e | e
      · have := K1 t ht e; omega
      · exact ⟨L[t], drop_mem ht e, d⟩
  · rintro ⟨a, b, c⟩
    refine .inr ⟨a, b, fun hin => c ?_⟩
    obtain ⟨p, hp, d⟩ := hin
    exact ⟨p, List.mem_of_mem_drop hp, d⟩
theorem fold_good (x : Rg) : ∀ (L G : List Rg), Good G → (∀ p ∈ L, p.1 < p.2) → Good (L.foldl wo G) ∧ ∀ n, In (L.foldl wo G) n ↔ In G n ∧ ¬ In L n := by
  intro L
  induction L with
  | nil => intro G hG _; exact ⟨hG, fun n => ⟨fun h => ⟨h, In_nil n⟩, fun h => h.1⟩⟩
  | cons y r ih =>
    intro G hG h
    have hy := h y List.mem_cons_self
    obtain ⟨k1, k2⟩ := ih (wo G y) (wo_good G y hy hG) (fun p hp => h p (List.mem_cons_of_mem _ hp))
    refine ⟨k1, fun n => ?_⟩
    rw [List.foldl_cons, k2, wo_in G y hy, In_cons]
    constructor
    · rintro ⟨⟨a, b⟩, c⟩; exact ⟨a, fun h => h.elim b c⟩
    · rintro ⟨a, b⟩; exact ⟨⟨a, fun h => b (.inl h)⟩, fun h => b (.inr h)⟩
theorem part_gap (L : List Rg) (x : Int) (h : Good L) : ∃ k, Part L (fun y => decide (x < y.2)) k :=
  part_ex L _ (fun a b ha hb hab hp => by
    have := (h.rises a b ha hb hab).2
    simp only [decide_eq_true_eq] at hp ⊢
    omega)
theorem fold_eq (L : List Rg) (x : Rg) (k : Nat) (h : Good L) (hx : Ok1 x) (hk : Part L (fun y => decide (x.1 < y.2)) k) : L.foldl wo [x] = gp x x.1 (L.drop k) [] := by
  obtain ⟨a1, a2⟩ := fold_good x L [x] (Good_one x hx) (fun p hp => (h.2 p hp).2.1)
  obtain ⟨b1, b2⟩ := gaps_good L x k h hx.1 hx.2.2 hk
  refine good_uniq _ _ a1 b1 (fun n => ?_)
  rw [a2, b2, In_one, and_assoc]
theorem fold_len (L : List Rg) (x : Rg) (h : Good L) (hx : Ok1 x) (hL : L.length ≤ 65536) (t : Nat) : ((L.take t).foldl wo [x]).length ≤ 200000 := by
  obtain ⟨k, hk⟩ := part_gap (L.take t) x.1 (h.take t)
  rw [fold_eq (L.take t) x k (h.take t) hx hk]
  have := gp_len x ((L.take t).drop k) x.1 []
  simp only [List.length_drop, List.length_take, List.length_nil] at this
  omega
/-- An empty fold: of a range that is empty, nothing is left. -/
theorem wo_nil (x : Rg) : wo [] x = [] := rfl
theorem fold_nil (L : List Rg) : L.foldl wo [] = [] := by
  induction L with
  | nil => rfl
  | cons y r ih => rw [List.foldl_cons, wo_nil, ih]
theorem good_no (L : List Rg) (h : Good L) (hn : ∀ n, ¬ In L n) : L = [] := good_uniq L [] h Good.nil (fun n => ⟨fun k => (hn n k).elim, fun k => (In_nil _ k).elim⟩)
theorem gaps_eq (L : List Rg) (x : Rg) (k : Nat) (h : Good L) (hx : cb x = true) (hm : x.2 ≤ 9223372036854775807) (hk : Part L (fun y => decide (x.1 < y.2)) k) : gp x x.1 (L.drop k) [] = refGaps L x := by
  have hx' := hx
  unfold cb at hx'
  simp only [Bool.and_eq_true, decide_eq_true_eq] at hx'
  unfold refGaps
  by_cases hlt : x.1 < x.2
  · rw [if_pos ⟨hx, hlt⟩, fold_eq L x k h ⟨hx'.1, hlt, hm⟩ hk]
  · rw [if_neg (fun h => hlt h.2)]
    obtain ⟨b1, b2⟩ := gaps_good L x k h hx'.1 hm hk
    exact good_no _ b1 (fun n hn => by have := (b2 n).1 hn; omega)
theorem has_eq (L : List Rg) (x : Rg) (k : Nat) (h : Good L) (hx : Ok1 x) (hk : Part L (fun y => decide (x.1 < y.2)) k) : hasP L x k = decide (refGaps L x = []) := by
  have hcb : cb x = true := by unfold cb; unfold Ok1 at hx; simp; omega
  rw [← gaps_eq L x k h hcb hx.2.2 hk]
  obtain ⟨b1, b2⟩ := gaps_good L x k h hx.1 hx.2.2 hk
  have K1 : ∀ t (ht : t < L.length), t < k → L[t].2 ≤ x.1 := fun t ht c => by have := hk.2.1 t ht c; simp only [decide_eq_false_iff_not] at this; omega
  unfold Ok1 at hx
  by_cases hg : gp x x.1 (L.drop k) [] = []
  · rw [decide_eq_true hg]
    have hall : ∀ n, x.1 ≤ n → n < x.2 → In L n := fun n c d => by
      by_cases hin : In L n
      · exact hin
      · have := (b2 n).2 ⟨c, d, hin⟩
        rw [hg] at this
        exact (In_nil _ this).elim
    obtain ⟨t, ht, c, d⟩ := (In_get L x.1).1 (hall x.1 (Int.le_refl _) hx.2.1)
    have hkt : t = k := by
      rcases Nat.lt_or_ge t k with e | e
      · have := K1 t ht e; omega
      · rcases Nat.lt_or_eq_of_le e with e | e
        · have h1 := hk.2.2 k (by omega) (Nat.le_refl _)
          simp only [decide_eq_true_eq] at h1
          have := h.lt k t (by omega) ht e
          omega
        · exact e.symm
    subst hkt
    have h2 : x.2 ≤ L[t].2 := by
      rcases Int.lt_or_le L[t].2 x.2 with e | e
      · obtain ⟨s, hs, c', d'⟩ := (In_get L L[t].2).1 (hall L[t].2 (by omega) e)
        rcases Nat.lt_or_ge t s with f | f
        · have := h.lt t s ht hs f; omega
        · have := (h.rises s t hs ht f).2; omega
      · exact e
    unfold hasP
    rw [dif_pos ht]
    simp only [decide_eq_true c, decide_eq_true h2, Bool.and_self]
  · rw [decide_eq_false hg]
    unfold hasP
    split
    · rename_i ht
      rw [← Bool.not_eq_true, Bool.and_eq_true, decide_eq_true_eq, decide_eq_true_eq]
      rintro ⟨c, d⟩
      exact hg (good_no _ b1 (fun n hn => ((b2 n).1 hn).2.2 ((In_get L n).2 ⟨k, ht, by have := (b2 n).1 hn; omega, by have := (b2 n).1 hn; omega⟩)))
    · rfl

/-! ### Total -/
theorem tot_le : ∀ (L : List Rg) (lo hi : Int), Good L → (∀ p ∈ L, lo ≤ p.1 ∧ p.2 ≤ hi) → lo ≤ hi → 0 ≤ tot L ∧ tot L ≤ hi - lo := by
  intro L
  induction L with
  | nil => intro lo hi _ _ h; exact ⟨Int.le_refl _, by simp only [tot]; omega⟩
  | cons p r ih =>
    intro lo hi h hb hle
    obtain ⟨m1, m2, m3⟩ := (Good_cons p r).1 h
    have p0 := hb p List.mem_cons_self
    obtain ⟨k1, k2⟩ := ih p.2 hi m3 (fun q hq => ⟨Int.le_of_lt (m2 q hq), (hb q (List.mem_cons_of_mem _ hq)).2⟩) p0.2
    unfold Ok1 at m1
    simp only [tot]
    omega
theorem Good.fits {L : List Rg} (h : Good L) : Fits L := by
  refine ⟨fun k hk => ?_, fun t ht => ?_⟩
  · have := tot_le (L.take k) 0 9223372036854775807 (h.take k) (fun p hp => ⟨((h.take k).2 p hp).1, ((h.take k).2 p hp).2.2⟩) (by omega)
    omega
  · have := h.get t ht
    unfold Ok1 at this
    omega
end Go.Proofs.Ytegabbfdnpjkkaa

import Derived.Test.YtenkchhlaphocaaGreatDoorNkP
namespace Go.Proofs.YtenkchhlaphocaaGreatDoor
open Go.RowKit
set_option linter.unusedVariables false
/-! ### The order of keys; what Merge comes to, pure -/
theorem less_lt (x y : List UInt8) : Op.bytesLess x y = decide (x < y) := by
  induction x generalizing y with
  | nil =>
    cases y with
    | nil => simp [Op.bytesLess]
    | cons b y => simp [Op.bytesLess]
  | cons a x ih =>
    cases y with
    | nil => simp [Op.bytesLess]
    | cons b y =>
      rw [Op.bytesLess, ih y]
      by_cases h1 : a < b
      · simp [h1, List.cons_lt_cons_iff]
      · by_cases h2 : a = b
        · subst h2; simp
        · simp [h1, h2, List.cons_lt_cons_iff]
theorem ltB_lt (a b : Bs) : ltB a b = decide ((str a).toList < (str b).toList) := less_lt _ _
/-- Keys rise. -/
def Rise (l : List Pr) : Prop := l.Pairwise (fun x y => (str x.1).toList < (str y.1).toList)
theorem u8_trans (a b c : UInt8) (h : a < b) (k : b < c) : a < c := UInt8.lt_trans h k
theorem lt_tr {a b c : List UInt8} (h : a < b) (k : b < c) : a < c := List.lt_trans h k
theorem lt_ir (a : List UInt8) : ¬ a < a := List.lt_irrefl a
theorem strL_inj {a b : Bs} (h : (str a).toList = (str b).toList) : a = b := by
  have := str_beq a b
  rw [h] at this
  simpa using this
theorem lt_or {a b : Bs} (h : ¬ (str a).toList < (str b).toList) (hne : a ≠ b) : (str b).toList < (str a).toList := by
  by_cases h2 : (str b).toList < (str a).toList
  · exact h2
  · exact absurd (strL_inj (List.le_antisymm (List.not_lt.1 h2) (List.not_lt.1 h))) hne
/-- What stands ahead of the place is below; what stands at it is not. -/
theorem plc_ahead (x : Pr) (l : List Pr) : ∀ y ∈ l.take (plc x l), (str y.1).toList < (str x.1).toList := by
  induction l with
  | nil => simp
  | cons z r ih =>
    rw [plc]
    split
    · rename_i hz
      intro y hy
      rw [List.take_succ_cons, List.mem_cons] at hy
      rcases hy with rfl | hy
      · rw [ltB_lt] at hz
        exact of_decide_eq_true hz
      · exact ih y hy
    · simp
theorem plc_behind (x : Pr) (l : List Pr) (hr : Rise l) (hne : ∀ y ∈ l, y.1 ≠ x.1) : ∀ y ∈ l.drop (plc x l), (str x.1).toList < (str y.1).toList := by
  induction l with
  | nil => simp
  | cons z r ih =>
    have hr2 : Rise r := (List.pairwise_cons.1 hr).2
    rw [plc]
    split
    · exact ih hr2 (fun y hy => hne y (by simp [hy]))
    · rename_i hz
      rw [ltB_lt] at hz
      have hz2 : ¬ (str z.1).toList < (str x.1).toList := fun h => hz (decide_eq_true h)
      have hxz := lt_or hz2 (hne z (by simp))
      intro y hy
      rw [List.drop_zero, List.mem_cons] at hy
      rcases hy with rfl | hy
      · exact hxz
      · exact lt_tr hxz ((List.pairwise_cons.1 hr).1 y hy)
theorem insP_rise (x : Pr) (l : List Pr) (hr : Rise l) (hne : ∀ y ∈ l, y.1 ≠ x.1) : Rise (insP x l) := by
  unfold insP Rise
  have h1 := plc_ahead x l
  have h2 := plc_behind x l hr hne
  have hr' : (l.take (plc x l) ++ l.drop (plc x l)).Pairwise (fun x y => (str x.1).toList < (str y.1).toList) := by rw [List.take_append_drop]; exact hr
  rw [List.pairwise_append] at hr' ⊢
  refine ⟨hr'.1, List.pairwise_cons.2 ⟨h2, hr'.2.1⟩, fun y hy z hz => ?_⟩
  rcases List.mem_cons.1 hz with rfl | hz
  · exact h1 y hy
  · exact hr'.2.2 y hy z hz
theorem insP_mem (x : Pr) (l : List Pr) (y : Pr) : y ∈ insP x l ↔ y = x ∨ y ∈ l := by
  unfold insP
  have : y ∈ l ↔ y ∈ l.take (plc x l) ∨ y ∈ l.drop (plc x l) := by rw [← List.mem_append, List.take_append_drop]
  rw [List.mem_append, List.mem_cons, this]
  constructor
  · rintro (h | h | h)
    · exact .inr (.inl h)
    · exact .inl h
    · exact .inr (.inr h)
  · rintro (h | h | h)
    · exact .inr (.inl h)
    · exact .inl h
    · exact .inr (.inr h)
theorem fnd_from (l : List Pr) (k : Bs) (a : Option Bs) : l.foldl (fun a x => if x.1 = k then some x.2 else a) a = (fndV l k).or a := by
  unfold fndV
  induction l generalizing a with
  | nil => rfl
  | cons y r ih =>
    rw [List.foldl_cons, List.foldl_cons, ih, ih (if y.1 = k then some y.2 else none)]
    cases List.foldl (fun a (x : Pr) => if x.1 = k then some x.2 else a) none r with
    | some v => rfl
    | none => by_cases h : y.1 = k <;> simp [h]
theorem fnd_cons (x : Pr) (r : List Pr) (k : Bs) : fndV (x :: r) k = (fndV r k).or (if x.1 = k then some x.2 else none) := by
  have := fnd_from r k (if x.1 = k then some x.2 else none)
  rw [← this]
  rfl
theorem fnd_none (r : List Pr) (k : Bs) : fndV r k = none ↔ ∀ y ∈ r, y.1 ≠ k := by
  induction r with
  | nil => simp [fndV]
  | cons x r ih =>
    rw [fnd_cons, Option.or_eq_none_iff, ih]
    constructor
    · rintro ⟨h1, h2⟩ y hy
      rcases List.mem_cons.1 hy with rfl | hy
      · intro e
        rw [if_pos e] at h2
        cases h2
      · exact h1 y hy
    · intro h
      exact ⟨fun y hy => h y (by simp [hy]), if_neg (h x (by simp))⟩
theorem lst_iff (x : Pr) (r : List Pr) : lst x r = true ↔ ∀ y ∈ r, y.1 ≠ x.1 := by simp [lst]
/-- What Merge comes to: keys rise; a pair is in it just where it is its key's last and not empty. -/
theorem mrg_spec (r out : List Pr) (hr : Rise out) (hd : ∀ y ∈ out, ∀ z ∈ r, z.1 ≠ y.1) : Rise (mrg r out) ∧ ∀ y, y ∈ mrg r out ↔ y ∈ out ∨ (fndV r y.1 = some y.2 ∧ y.2 ≠ []) := by
  induction r generalizing out with
  | nil => exact ⟨hr, fun y => by simp [mrg, fndV]⟩
  | cons x r ih =>
    rw [mrg]
    by_cases hl : lst x r = true
    · have hl2 := (lst_iff x r).1 hl
      have hx0 := (fnd_none r x.1).2 hl2
      by_cases hv : x.2 ≠ []
      · rw [if_pos ⟨hl, hv⟩]
        obtain ⟨i1, i2⟩ := ih (insP x out) (insP_rise x out hr (fun y hy e => hd y hy x (by simp) e.symm)) (fun y hy z hz => by
          rcases (insP_mem x out y).1 hy with rfl | hy
          · exact hl2 z hz
          · exact hd y hy z (by simp [hz]))
        refine ⟨i1, fun y => ?_⟩
        rw [i2, insP_mem, fnd_cons]
        constructor
        · rintro ((rfl | h) | ⟨h1, h2⟩)
          · exact .inr ⟨by rw [hx0, if_pos rfl]; rfl, hv⟩
          · exact .inl h
          · exact .inr ⟨by rw [h1]; rfl, h2⟩
        · rintro (h | ⟨h1, h2⟩)
          · exact .inl (.inr h)
          · by_cases hk : x.1 = y.1
            · rw [← hk, hx0, if_pos rfl] at h1
              injection h1 with h1
              exact .inl (.inl (Prod.ext hk.symm h1.symm))
            · rw [if_neg hk, Option.or_none] at h1
              exact .inr ⟨h1, h2⟩
      · rw [if_neg (fun h => hv h.2)]
        obtain ⟨i1, i2⟩ := ih out hr (fun y hy z hz => hd y hy z (by simp [hz]))
        refine ⟨i1, fun y => ?_⟩
        rw [i2, fnd_cons]
        have hv0 : x.2 = [] := Classical.byContradiction hv
        constructor
        · rintro (h | ⟨h1, h2⟩)
          · exact .inl h
          · exact .inr ⟨by rw [h1]; rfl, h2⟩
        · rintro (h | ⟨h1, h2⟩)
          · exact .inl h
          · by_cases hk : x.1 = y.1
            · rw [← hk, hx0, if_pos rfl] at h1
              injection h1 with h1
              exact absurd (h1.symm.trans hv0) h2
            · rw [if_neg hk, Option.or_none] at h1
              exact .inr ⟨h1, h2⟩
    · rw [if_neg (fun h => hl h.1)]
      obtain ⟨i1, i2⟩ := ih out hr (fun y hy z hz => hd y hy z (by simp [hz]))
      refine ⟨i1, fun y => ?_⟩
      have hsome : fndV (x :: r) y.1 = fndV r y.1 := by
        rw [fnd_cons]
        by_cases hk : x.1 = y.1
        · cases hf : fndV r y.1 with
          | some v => rfl
          | none =>
            rw [← hk] at hf
            exact absurd ((lst_iff x r).2 ((fnd_none r x.1).1 hf)) hl
        · rw [if_neg hk, Option.or_none]
      rw [i2, hsome]
/-- Two rows that rise and hold the same are one. -/
theorem rise_ext (l m : List Pr) (hl : Rise l) (hm : Rise m) (h : ∀ y, y ∈ l ↔ y ∈ m) : l = m := by
  induction l generalizing m with
  | nil =>
    cases m with
    | nil => rfl
    | cons y m => exact absurd ((h y).2 (by simp)) (by simp)
  | cons x l ih =>
    cases m with
    | nil => exact absurd ((h x).1 (by simp)) (by simp)
    | cons y m =>
      obtain ⟨l1, l2⟩ := List.pairwise_cons.1 hl
      obtain ⟨m1, m2⟩ := List.pairwise_cons.1 hm
      have hxy : x = y := by
        rcases List.mem_cons.1 ((h x).1 (by simp)) with e | e
        · exact e
        · rcases List.mem_cons.1 ((h y).2 (by simp)) with e2 | e2
          · exact e2.symm
          · exact absurd (lt_tr (l1 y e2) (m1 x e)) (lt_ir _)
      subst hxy
      rw [ih m l2 m2 (fun z => ?_)]
      constructor
      · intro hz
        rcases List.mem_cons.1 ((h z).1 (by simp [hz])) with rfl | e
        · exact absurd (l1 z hz) (lt_ir _)
        · exact e
      · intro hz
        rcases List.mem_cons.1 ((h z).2 (by simp [hz])) with rfl | e
        · exact absurd (m1 z hz) (lt_ir _)
        · exact e
end Go.Proofs.YtenkchhlaphocaaGreatDoor

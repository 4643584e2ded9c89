import Derived.Test.YtenkchhlaphocaaGreatDoorNkT
namespace Go.Proofs.YtenkchhlaphocaaGreatDoor
open Go.RowKit
set_option linter.unusedVariables false
/-! ### Merge's laws, pure (P14.7) -/
theorem mem_merge (b a : List Pr) (y : Pr) : y ∈ mergeV b a ↔ fndV (b ++ a) y.1 = some y.2 ∧ y.2 ≠ [] := by
  have := (mrg_spec (b ++ a) [] List.Pairwise.nil (fun y h => by simp at h)).2 y
  unfold mergeV
  rw [this]
  simp
theorem merge_rise (b a : List Pr) : Rise (mergeV b a) := (mrg_spec (b ++ a) [] List.Pairwise.nil (fun y h => by simp at h)).1
theorem fnd_app (b a : List Pr) (k : Bs) : fndV (b ++ a) k = (fndV a k).or (fndV b k) := by
  have := fnd_from a k (fndV b k)
  rw [← this]
  unfold fndV
  rw [List.foldl_append]
theorem fnd_mem (l : List Pr) (k v : Bs) (h : fndV l k = some v) : (k, v) ∈ l := by
  induction l with
  | nil => simp [fndV] at h
  | cons x r ih =>
    rw [fnd_cons] at h
    cases hf : fndV r k with
    | some u =>
      rw [hf] at h
      injection h with h
      subst h
      exact List.mem_cons_of_mem _ (ih hf)
    | none =>
      rw [hf, Option.none_or] at h
      split at h
      · rename_i hk
        injection h with h
        rw [List.mem_cons]
        exact .inl (Prod.ext hk.symm h.symm)
      · cases h
theorem fnd_rise (l : List Pr) (hr : Rise l) (k v : Bs) : fndV l k = some v ↔ (k, v) ∈ l := by
  refine ⟨fnd_mem l k v, fun h => ?_⟩
  induction l with
  | nil => simp at h
  | cons x r ih =>
    obtain ⟨r1, r2⟩ := List.pairwise_cons.1 hr
    rw [fnd_cons]
    rcases List.mem_cons.1 h with e | e
    · subst e
      have : fndV r k = none := (fnd_none r k).2 (fun y hy e => by
        have := r1 y hy
        rw [e] at this
        exact lt_ir _ this)
      rw [this, if_pos rfl]
      rfl
    · rw [ih r2 e]
      rfl
/-- What is found in what was merged. -/
theorem fnd_merge (b a : List Pr) (k v : Bs) : fndV (mergeV b a) k = some v ↔ ((fndV a k).or (fndV b k) = some v ∧ v ≠ []) := by
  rw [fnd_rise _ (merge_rise b a), mem_merge, fnd_app]
def fullV (l : List Pr) : Prop := ∀ y ∈ l, y.2 ≠ []
theorem fnd_full (l : List Pr) (h : fullV l) (k v : Bs) (hf : fndV l k = some v) : v ≠ [] := h _ (fnd_mem l k v hf)
theorem merge_full (b a : List Pr) : fullV (mergeV b a) := fun y hy => ((mem_merge b a y).1 hy).2
theorem merge_assoc (a b c : List Pr) (hb : fullV b) (hc : fullV c) : mergeV a (mergeV b c) = mergeV (mergeV a b) c := by
  refine rise_ext _ _ (merge_rise _ _) (merge_rise _ _) (fun y => ?_)
  rw [mem_merge, mem_merge, fnd_app, fnd_app]
  have h1 : fndV (mergeV b c) y.1 = (fndV c y.1).or (fndV b y.1) := by
    cases hf : (fndV c y.1).or (fndV b y.1) with
    | some v =>
      refine (fnd_merge b c y.1 v).2 ⟨hf, ?_⟩
      cases hc1 : fndV c y.1 with
      | some u => rw [hc1] at hf; injection hf with hf; subst hf; exact fnd_full c hc _ _ hc1
      | none => rw [hc1, Option.none_or] at hf; exact fnd_full b hb _ _ hf
    | none =>
      cases hm : fndV (mergeV b c) y.1 with
      | none => rfl
      | some v => have := ((fnd_merge b c y.1 v).1 hm).1; rw [hf] at this; cases this
  rw [h1, Option.or_assoc]
  constructor
  · rintro ⟨e, hv⟩
    refine ⟨?_, hv⟩
    cases hc1 : fndV c y.1 with
    | some u => rw [hc1] at e; exact e
    | none =>
      rw [hc1, Option.none_or] at e
      rw [Option.none_or]
      exact (fnd_merge a b y.1 y.2).2 ⟨e, hv⟩
  · rintro ⟨e, hv⟩
    refine ⟨?_, hv⟩
    cases hc1 : fndV c y.1 with
    | some u => rw [hc1] at e; exact e
    | none =>
      rw [hc1, Option.none_or] at e
      rw [Option.none_or]
      exact ((fnd_merge a b y.1 y.2).1 e).1
end Go.Proofs.YtenkchhlaphocaaGreatDoor

import Derived.Test.YtenkchhlaphocaaGreatDoorNjD
namespace Go.Proofs.YtenkchhlaphocaaGreatDoor
open Go.RowKit
set_option linter.unusedVariables false
/-! ### The document's way to read a time; its place of = -/
def eqAt : Bs → Int
  | [] => -1
  | c :: r => if c = 61#8 then 0 else if eqAt r < 0 then -1 else eqAt r + 1
theorem eqAt_cut (l : Bs) : (cutE l = none ∧ eqAt l = -1 ∧ 61#8 ∉ l) ∨ ∃ x, cutE l = some x ∧ eqAt l = (x.1.length : Int) ∧ l = x.1 ++ 61#8 :: x.2 ∧ 61#8 ∉ x.1 := by
  induction l with
  | nil => exact .inl ⟨rfl, rfl, by simp⟩
  | cons c r ih =>
    by_cases hc : c = 61#8
    · subst hc
      exact .inr ⟨([], r), by simp [cutE], by simp [eqAt], rfl, by simp⟩
    · rcases ih with ⟨h1, h2, h3⟩ | ⟨x, h1, h2, h3, h4⟩
      · refine .inl ⟨by rw [cutE, if_neg hc, h1], by rw [eqAt, if_neg hc, h2]; rfl, ?_⟩
        rw [List.mem_cons, not_or]
        exact ⟨fun e => hc e.symm, h3⟩
      · refine .inr ⟨(c :: x.1, x.2), by rw [cutE, if_neg hc, h1], ?_, by rw [h3]; rfl, ?_⟩
        · rw [eqAt, if_neg hc, h2, if_neg (by omega)]
          simp
        · rw [List.mem_cons, not_or]
          exact ⟨fun e => hc e.symm, h4⟩
/-- How many digits stand ahead. -/
def ndA : Bs → Nat
  | [] => 0
  | c :: r => if isD c then ndA r + 1 else 0
theorem ndA_le (l : Bs) : ndA l ≤ l.length := by
  induction l with
  | nil => exact Nat.le_refl _
  | cons c r ih =>
    rw [ndA]
    split
    · simp; exact ih
    · simp
theorem ndA_dig (l : Bs) : ∀ c ∈ l.take (ndA l), isD c := by
  induction l with
  | nil => simp
  | cons c r ih =>
    rw [ndA]
    split
    · rename_i h
      intro x hx
      rw [List.take_succ_cons, List.mem_cons] at hx
      rcases hx with rfl | hx
      · exact h
      · exact ih x hx
    · simp
theorem ndA_next (l : Bs) (c : By) (r : Bs) (h : l.drop (ndA l) = c :: r) : ¬ isD c := by
  induction l with
  | nil => simp at h
  | cons x t ih =>
    rw [ndA] at h
    split at h
    · exact ih (by simpa using h)
    · rename_i hx
      injection h with h1 h2
      subst h1
      exact hx
theorem cutD_bad (l : Bs) (h : ¬ ∀ c ∈ l, isD c ∨ c = 46#8) : (allD (cutD l).2 = false) ∨ (numV (cutD l).1).2 = 120 := by
  have key : ∀ l : Bs, (∀ c ∈ (cutD l).1, isD c) → (∀ c ∈ (cutD l).2, isD c) → ∀ c ∈ l, isD c ∨ c = 46#8 := by
    intro l
    induction l with
    | nil => intro _ _ c hc; simp at hc
    | cons x t ih =>
      intro h1 h2 c hc
      rw [cutD] at h1 h2
      split at h1
      · rename_i hx
        rw [if_pos hx] at h2
        rcases List.mem_cons.1 hc with rfl | hc
        · exact .inr hx
        · exact .inl (h2 c hc)
      · rename_i hx
        rw [if_neg hx] at h2
        rcases List.mem_cons.1 hc with rfl | hc
        · exact .inl (h1 c (by simp))
        · exact ih (fun y hy => h1 y (by simp [hy])) h2 c hc
  by_cases h2 : ∀ c ∈ (cutD l).2, isD c
  · by_cases h1 : ∀ c ∈ (cutD l).1, isD c
    · exact absurd (key l h1 h2) h
    · right
      unfold numV
      have hf : allD (cutD l).1 = false := by unfold allD; exact decide_eq_false h1
      rw [if_pos (.inr hf)]
  · left
    unfold allD
    rw [decide_eq_false h2]
/-- The three ways in which a time's text goes on behind its digits. -/
theorem tim_none (s : Bs) (h : (restV s).drop (ndA (restV s)) = []) : cutD (restV s) = ((restV s).take (ndA (restV s)), []) := by
  have hd := ndA_dig (restV s)
  have e : (restV s).take (ndA (restV s)) = restV s := by
    conv => rhs; rw [← List.take_append_drop (ndA (restV s)) (restV s), h, List.append_nil]
  rw [e] at hd ⊢
  exact (cutD_dig (restV s) hd []).2
theorem tim_dot (s : Bs) (r : Bs) (h : (restV s).drop (ndA (restV s)) = 46#8 :: r) : cutD (restV s) = ((restV s).take (ndA (restV s)), r) := by
  have hd := ndA_dig (restV s)
  conv => lhs; rw [← List.take_append_drop (ndA (restV s)) (restV s), h]
  exact (cutD_dig _ hd r).1
theorem tim_else (s : Bs) (c : By) (r : Bs) (h : (restV s).drop (ndA (restV s)) = c :: r) (hc : c ≠ 46#8) : timV s = (0, 0, 120) := by
  have hn := ndA_next _ c r h
  have hm : c ∈ restV s := List.mem_of_mem_drop (i := ndA (restV s)) (by rw [h]; simp)
  unfold timV
  rcases cutD_bad (restV s) (fun hall => by rcases hall c hm with e | e; exact hn e; exact hc e) with e | e
  · rw [if_pos e]
  · split
    · rfl
    · rw [if_pos (by rw [e]; decide), e]
end Go.Proofs.YtenkchhlaphocaaGreatDoor

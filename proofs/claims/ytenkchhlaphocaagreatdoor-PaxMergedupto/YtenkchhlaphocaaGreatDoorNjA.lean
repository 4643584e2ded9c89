import Derived.Test.YtenkchhlaphocaaGreatDoorXxZ
namespace Go.Proofs.YtenkchhlaphocaaGreatDoor
open Go.RowKit
set_option linter.unusedVariables false
/-! ### Records of keys and values, as functions on lists of bytes -/
abbrev Bs := List By
abbrev Pr := Bs × Bs
/-- The number ahead of the first blank (n, its digits, 0), or an error. -/
def la : Nat → Nat → Bs → Nat × Nat × Nat
  | _, _, [] => (0, 0, 4)
  | i, n, c :: r => if c = 32#8 ∧ 0 < i then (n, i, 0) else if c.toNat < 48 ∨ 57 < c.toNat ∨ (i = 0 ∧ c = 48#8) ∨ i = 7 then (0, 0, 140) else la (i + 1) (n * 10 + (c.toNat - 48)) r
inductive Rx where
  | bad (n e : Nat)
  | ok (x : Pr) (n : Nat)
/-- Cut at the first =. -/
def cutE : Bs → Option Pr
  | [] => none
  | c :: r => if c = 61#8 then some ([], r) else match cutE r with
    | none => none
    | some x => some (c :: x.1, x.2)
/-- Can a record have that key and that value? -/
def canP (x : Pr) : Bool := (!decide (x.1 = [])) && !(decide (61#8 ∈ x.1) || decide (0#8 ∈ x.1)) && !decide (0#8 ∈ x.2)
def rc1 (b : Bs) : Rx :=
  if (la 0 0 b).2.2 = 4 then .bad b.length 4
  else if (la 0 0 b).2.2 ≠ 0 ∨ (la 0 0 b).1 < (la 0 0 b).2.1 + 4 then .bad 0 140
  else if b.length < (la 0 0 b).1 then .bad b.length 4
  else if b[(la 0 0 b).1 - 1]? ≠ some 10#8 then .bad ((la 0 0 b).1 - 1) 142
  else match cutE ((b.take ((la 0 0 b).1 - 1)).drop ((la 0 0 b).2.1 + 1)) with
    | none => .bad ((la 0 0 b).2.1 + 1) 141
    | some x => if canP x = true then .ok x (la 0 0 b).1 else .bad ((la 0 0 b).2.1 + 1) 141
theorem la_why (i n : Nat) (b : Bs) : (la i n b).2.2 = 0 ∨ (la i n b).2.2 = 4 ∨ (la i n b).2.2 = 140 := by
  induction b generalizing i n with
  | nil => simp [la]
  | cons c r ih =>
    rw [la]
    split
    · simp
    · split
      · simp
      · exact ih _ _
theorem la_ok (i n : Nat) (b : Bs) (hi : i ≤ 7) (hn : n < 10 ^ i) (h : (la i n b).2.2 = 0) : i ≤ (la i n b).2.1 ∧ (la i n b).2.1 ≤ 7 ∧ 0 < (la i n b).2.1 ∧ (la i n b).1 < 10 ^ (la i n b).2.1 ∧ (la i n b).2.1 - i < b.length ∧ b[(la i n b).2.1 - i]? = some 32#8 := by
  induction b generalizing i n with
  | nil => simp [la] at h
  | cons c r ih =>
    rw [la] at h ⊢
    split at h
    · rename_i h1
      rw [if_pos h1]
      simp [hi, h1, hn]
    · rename_i h1
      rw [if_neg h1]
      split at h
      · simp at h
      · rename_i h2
        rw [if_neg h2]
        have h7 : i < 7 := by omega
        have hd : c.toNat - 48 < 10 := by omega
        have hp : 10 ^ (i + 1) = 10 * 10 ^ i := by rw [Nat.pow_succ, Nat.mul_comm]
        obtain ⟨k1, k2, k3, k4, k5, k6⟩ := ih (i + 1) (n * 10 + (c.toNat - 48)) (by omega) (by omega) h
        refine ⟨by omega, k2, k3, k4, by simp only [List.length_cons]; omega, ?_⟩
        have e : (la (i + 1) (n * 10 + (c.toNat - 48)) r).2.1 - i = ((la (i + 1) (n * 10 + (c.toNat - 48)) r).2.1 - (i + 1)) + 1 := by omega
        rw [e, List.getElem?_cons_succ]
        exact k6
/-- What a good length tells. -/
theorem la_good (b : Bs) (h : (la 0 0 b).2.2 = 0) : (la 0 0 b).2.1 ≤ 7 ∧ 0 < (la 0 0 b).2.1 ∧ (la 0 0 b).1 < 10000000 ∧ (la 0 0 b).2.1 < b.length ∧ b[(la 0 0 b).2.1]? = some 32#8 := by
  obtain ⟨k1, k2, k3, k4, k5, k6⟩ := la_ok 0 0 b (by decide) (by decide) h
  refine ⟨k2, k3, Nat.lt_of_lt_of_le k4 ?_, by omega, k6⟩
  exact Nat.pow_le_pow_right (by decide) k2
theorem rc1_ok {b : Bs} {x : Pr} {n : Nat} (h : rc1 b = .ok x n) : 5 ≤ n ∧ n ≤ b.length ∧ n < 10000000 ∧ x.1.length + x.2.length + 3 < n ∧ canP x = true := by
  unfold rc1 at h
  split at h
  · cases h
  split at h
  · cases h
  split at h
  · cases h
  split at h
  · cases h
  rename_i h1 h2 h3 h4
  have hg := la_good b (by omega)
  generalize la 0 0 b = L at *
  have hcut : ∀ (l : Bs) (y : Pr), cutE l = some y → y.1.length + y.2.length + 1 = l.length := by
    intro l
    induction l with
    | nil => intro y hy; simp [cutE] at hy
    | cons c r ih =>
      intro y hy
      rw [cutE] at hy
      split at hy
      · injection hy with hy; subst hy; simp
      · split at hy
        · cases hy
        · rename_i z hz
          injection hy with hy; subst hy
          have := ih z hz
          simp; omega
  split at h
  · cases h
  · rename_i y hy
    split at h
    · rename_i hc
      injection h with e1 e2
      subst e1 e2
      have := hcut _ _ hy
      rw [List.length_drop, List.length_take] at this
      exact ⟨by omega, by omega, by omega, by omega, hc⟩
    · cases h
/-- The records from p on. -/
def prs (b : Bs) (p : Nat) (acc : List Pr) : List Pr × Nat × Nat :=
  if h : p < b.length then
    match hr : rc1 (b.drop p) with
    | .bad n e => ([], p + n, e)
    | .ok x n => prs b (p + n) (acc ++ [x])
  else (acc, 0, 0)
termination_by b.length - p
decreasing_by
  have := rc1_ok hr
  omega
theorem prs_end (b : Bs) (p : Nat) (acc : List Pr) (h : ¬ p < b.length) : prs b p acc = (acc, 0, 0) := by
  rw [prs, dif_neg h]
theorem prs_bad (b : Bs) (p : Nat) (acc : List Pr) (h : p < b.length) (n e : Nat) (hr : rc1 (b.drop p) = .bad n e) : prs b p acc = ([], p + n, e) := by
  rw [prs, dif_pos h]
  split
  · rename_i n' e' hr'
    rw [hr] at hr'
    injection hr' with h1 h2
    subst h1 h2
    rfl
  · rename_i x' n' hr'
    rw [hr] at hr'
    cases hr'
theorem prs_ok (b : Bs) (p : Nat) (acc : List Pr) (h : p < b.length) (x : Pr) (n : Nat) (hr : rc1 (b.drop p) = .ok x n) : prs b p acc = prs b (p + n) (acc ++ [x]) := by
  conv => lhs; rw [prs]
  rw [dif_pos h]
  split
  · rename_i n' e' hr'
    rw [hr] at hr'
    cases hr'
  · rename_i x' n' hr'
    rw [hr] at hr'
    injection hr' with h1 h2
    subst h1 h2
    rfl
/-- A place of a fault lies in the bytes. -/
theorem rc1_bad {b : Bs} {n e : Nat} (h : rc1 b = .bad n e) : n ≤ b.length ∧ (e = 4 ∨ e = 140 ∨ e = 141 ∨ e = 142) := by
  unfold rc1 at h
  split at h
  · injection h with e1 e2; subst e1 e2; simp
  split at h
  · injection h with e1 e2; subst e1 e2; simp
  split at h
  · injection h with e1 e2; subst e1 e2; simp
  split at h
  · injection h with e1 e2; subst e1 e2; exact ⟨by omega, by simp⟩
  rename_i h1 h2 h3 h4
  have hg := la_good b (by omega)
  split at h
  · injection h with e1 e2; subst e1 e2; exact ⟨by omega, by simp⟩
  · split at h
    · cases h
    · injection h with e1 e2; subst e1 e2; exact ⟨by omega, by simp⟩
theorem prs_errno (b : Bs) (p : Nat) (acc : List Pr) : (prs b p acc).2.2 ≤ 142 ∧ (prs b p acc).2.1 ≤ b.length ∧ ((prs b p acc).2.2 ≠ 0 → (prs b p acc).1 = []) ∧ ((prs b p acc).2.2 = 0 → (prs b p acc).2.1 = 0) := by
  induction h : b.length - p using Nat.strongRecOn generalizing p acc with
  | _ k ih =>
    by_cases hp : p < b.length
    · cases hr : rc1 (b.drop p) with
      | bad n e =>
        rw [prs_bad b p acc hp n e hr]
        have := rc1_bad hr
        rw [List.length_drop] at this
        refine ⟨by show e ≤ 142; omega, by show p + n ≤ _; omega, fun _ => rfl, fun h0 => ?_⟩
        exfalso
        have h0 : e = 0 := h0
        omega
      | ok x n =>
        rw [prs_ok b p acc hp x n hr]
        have := rc1_ok hr
        rw [List.length_drop] at this
        exact ih (b.length - (p + n)) (by omega) (p + n) _ rfl
    · rw [prs_end b p acc hp]
      simp
end Go.Proofs.YtenkchhlaphocaaGreatDoor

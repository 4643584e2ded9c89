import Derived.Test.YtoplhkpbicgceaaPtA
namespace Go.Proofs.Ytoplhkpbicgceaa
open Go.RowKit
set_option linter.unusedVariables false
/-! ### The order of names -/
abbrev lt (a b : Tx) : Bool := Op.bytesLess a b
theorem lt_irrefl (a : Tx) : lt a a = false := by
  induction a with
  | nil => rfl
  | cons x r ih =>
    show (decide (x < x) || (x == x && Op.bytesLess r r)) = false
    rw [show Op.bytesLess r r = false from ih, decide_eq_false (UInt8.lt_irrefl x)]
    simp
theorem lt_cons (x y : UInt8) (a b : Tx) : lt (x :: a) (y :: b) = true ↔ x < y ∨ x = y ∧ lt a b = true := by
  show (decide (x < y) || (x == y && Op.bytesLess a b)) = true ↔ _
  simp
theorem lt_trans {a b c : Tx} (h : lt a b = true) (k : lt b c = true) : lt a c = true := by
  induction a generalizing b c with
  | nil => cases c with
    | nil => cases b <;> cases k
    | cons z c => rfl
  | cons x a ih =>
    cases b with
    | nil => cases h
    | cons y b =>
      cases c with
      | nil => cases k
      | cons z c =>
        rw [lt_cons] at h k ⊢
        rcases h with h | ⟨rfl, h⟩
        · rcases k with k | ⟨rfl, k⟩
          · exact .inl (UInt8.lt_trans h k)
          · exact .inl h
        · rcases k with k | ⟨rfl, k⟩
          · exact .inl k
          · exact .inr ⟨rfl, ih h k⟩
theorem lt_tri (a b : Tx) : lt a b = true ∨ a = b ∨ lt b a = true := by
  induction a generalizing b with
  | nil => cases b with
    | nil => exact .inr (.inl rfl)
    | cons y b => exact .inl rfl
  | cons x a ih =>
    cases b with
    | nil => exact .inr (.inr rfl)
    | cons y b =>
      rw [lt_cons, lt_cons]
      by_cases h1 : x < y
      · exact .inl (.inl h1)
      · by_cases h2 : y < x
        · exact .inr (.inr (.inl h2))
        · have e : x = y := UInt8.le_antisymm (UInt8.not_lt.1 h2) (UInt8.not_lt.1 h1)
          subst e
          rcases ih b with h | h | h
          · exact .inl (.inr ⟨rfl, h⟩)
          · exact .inr (.inl (by rw [h]))
          · exact .inr (.inr (.inr ⟨rfl, h⟩))
theorem lt_asymm {a b : Tx} (h : lt a b = true) : lt b a = false := by
  cases k : lt b a with
  | false => rfl
  | true => have := lt_trans h k; rw [lt_irrefl] at this; cases this
/-- Two texts: -1, 0, 1. -/
def cmT (a b : Tx) : Int := if lt a b = true then -1 else if a = b then 0 else 1
def cmL : List Tx → List Tx → Int
  | [], [] => 0
  | [], _ :: _ => -1
  | _ :: _, [] => 1
  | a :: x, b :: y => if cmT a b = 0 then cmL x y else cmT a b
theorem cmT_zero (a b : Tx) : cmT a b = 0 ↔ a = b := by
  unfold cmT
  constructor
  · intro h
    split at h
    · cases h
    · split at h
      · assumption
      · cases h
  · rintro rfl
    rw [lt_irrefl, if_neg (by decide), if_pos rfl]
theorem cmT_neg (a b : Tx) : cmT a b = -cmT b a := by
  unfold cmT
  rcases lt_tri a b with h | h | h
  · have k := lt_asymm h
    have e : b ≠ a := fun e => by subst e; rw [lt_irrefl] at h; cases h
    rw [if_pos h, k, if_neg (by decide), if_neg e]
  · subst h; rw [lt_irrefl]; simp
  · have k := lt_asymm h
    have e : a ≠ b := fun e => by subst e; rw [lt_irrefl] at h; cases h
    rw [if_pos h, k, if_neg (by decide), if_neg e]; rfl
theorem cmT_range (a b : Tx) : cmT a b = -1 ∨ cmT a b = 0 ∨ cmT a b = 1 := by
  unfold cmT
  split
  · simp
  · split <;> simp
theorem cmT_lt (a b : Tx) : cmT a b < 0 ↔ lt a b = true := by
  unfold cmT
  constructor
  · intro h
    split at h
    · assumption
    · split at h <;> omega
  · intro h; rw [if_pos h]; decide
theorem cmL_zero (x y : List Tx) : cmL x y = 0 ↔ x = y := by
  induction x generalizing y with
  | nil => cases y <;> simp [cmL]
  | cons a x ih =>
    cases y with
    | nil => simp [cmL]
    | cons b y =>
      rw [cmL]
      by_cases h : cmT a b = 0
      · rw [if_pos h, ih]
        rw [cmT_zero] at h
        simp [h]
      · rw [if_neg h]
        rw [cmT_zero] at h
        constructor
        · intro e; exact absurd ((cmT_zero a b).1 e) h
        · intro e; injection e with e1 e2; exact absurd e1 h
theorem cmL_neg (x y : List Tx) : cmL x y = -cmL y x := by
  induction x generalizing y with
  | nil => cases y <;> simp [cmL]
  | cons a x ih =>
    cases y with
    | nil => simp [cmL]
    | cons b y =>
      rw [cmL, cmL]
      have e := cmT_neg a b
      by_cases h : cmT a b = 0
      · rw [if_pos h, if_pos (by omega), ih]
      · rw [if_neg h, if_neg (by omega), e]
theorem cmL_range (x y : List Tx) : cmL x y = -1 ∨ cmL x y = 0 ∨ cmL x y = 1 := by
  induction x generalizing y with
  | nil => cases y <;> simp [cmL]
  | cons a x ih =>
    cases y with
    | nil => simp [cmL]
    | cons b y =>
      rw [cmL]
      split
      · exact ih y
      · exact cmT_range a b
theorem cmL_cons_lt (a b : Tx) (x y : List Tx) : cmL (a :: x) (b :: y) < 0 ↔ lt a b = true ∨ a = b ∧ cmL x y < 0 := by
  rw [cmL]
  by_cases h : cmT a b = 0
  · rw [if_pos h]
    rw [cmT_zero] at h
    subst h
    rw [lt_irrefl]; simp
  · rw [if_neg h, cmT_lt]
    rw [cmT_zero] at h
    simp [h]
theorem cmL_trans {x y z : List Tx} (h : cmL x y < 0) (k : cmL y z < 0) : cmL x z < 0 := by
  induction x generalizing y z with
  | nil => cases z with
    | nil => cases y <;> simp [cmL] at h k
    | cons c z => simp [cmL]
  | cons a x ih =>
    cases y with
    | nil => simp [cmL] at h
    | cons b y =>
      cases z with
      | nil => simp [cmL] at k
      | cons c z =>
        rw [cmL_cons_lt] at h k ⊢
        rcases h with h | ⟨rfl, h⟩
        · rcases k with k | ⟨rfl, k⟩
          · exact .inl (lt_trans h k)
          · exact .inl h
        · rcases k with k | ⟨rfl, k⟩
          · exact .inl k
          · exact .inr ⟨rfl, ih h k⟩
/-- a lies under b. -/
def und (a b : List Tx) : Bool := decide (b.length < a.length) && decide (a.take b.length = b)
theorem und_iff (a b : List Tx) : und a b = true ↔ ∃ c r, a = b ++ c :: r := by
  unfold und
  rw [Bool.and_eq_true, decide_eq_true_eq, decide_eq_true_eq]
  constructor
  · rintro ⟨h1, h2⟩
    have e := List.take_append_drop b.length a
    cases hd : a.drop b.length with
    | nil => have := congrArg List.length hd; simp at this; omega
    | cons c r => exact ⟨c, r, by rw [← e, h2, hd]⟩
  · rintro ⟨c, r, rfl⟩
    simp
theorem und_cm {a b : List Tx} (h : und a b = true) : cmL a b = 1 := by
  obtain ⟨c, r, rfl⟩ := (und_iff a b).1 h
  clear h
  induction b with
  | nil => rfl
  | cons x b ih => rw [List.cons_append, cmL, if_pos ((cmT_zero x x).2 rfl), ih]
theorem und_mid {x y z : List Tx} (h : und z x = true) (h1 : cmL x y < 0) (h2 : cmL y z < 0) : und y x = true := by
  obtain ⟨c, r, rfl⟩ := (und_iff z x).1 h
  clear h
  rw [und_iff]
  induction x generalizing y with
  | nil =>
    cases y with
    | nil => simp [cmL] at h1
    | cons b y => exact ⟨b, y, rfl⟩
  | cons a x ih =>
    cases y with
    | nil => simp [cmL] at h1
    | cons b y =>
      rw [List.cons_append] at h2
      rw [cmL_cons_lt] at h1 h2
      have e : a = b := by
        rcases h1 with h | ⟨h, _⟩
        · rcases h2 with k | ⟨k, _⟩
          · have := lt_asymm h; rw [k] at this; cases this
          · exact k.symm
        · exact h
      subst e
      rw [lt_irrefl] at h1 h2
      obtain ⟨c', r', e'⟩ := ih (y := y) (by simpa using h1) (by simpa using h2)
      exact ⟨c', r', by rw [e', List.cons_append]⟩
end Go.Proofs.Ytoplhkpbicgceaa

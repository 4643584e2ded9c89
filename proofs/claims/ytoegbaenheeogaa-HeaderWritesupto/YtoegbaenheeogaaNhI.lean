import Derived.Test.YtoegbaenheeogaaNhD
import Derived.Test.YtoegbaenheeogaaVfM
import Derived.StringKeys
import Derived.BigQuiet
namespace Go.Proofs.Ytoegbaenheeogaa
open Go.RowKit
set_option linter.unusedVariables false
/-! ### Small calls of header -/
def fn (f : FuncId) : Value := .func (.func f) #[] #[]
/-- A form as the program has it. -/
def fP (f : Nat) : Value := if f = 3 then fn 31 else fn 30
def fV (f : Nat) : Value := .agg #[.int .i64 f, .int .i64 (fE f : Nat), fP f]
set_option maxHeartbeats 1000000 in
theorem has_any (a b c d : Int) (F : Value) (w : World) : Calls Try.prog 34 #[.agg #[.int .i64 a, .int .i64 b, F], .agg #[.int .i64 c, .int .i64 d]] w fun e w' => e = .returned (.bool (decide (c < b))) ∧ Nw w w' := by
  obtain ⟨P, hP⟩ : ∃ P : Ending → World → Prop, P = fun e w' => e = .returned (.bool (decide (c < b))) ∧ Nw w w' := ⟨_, rfl⟩
  rw [← hP]
  have HF : Hid (∀ W, Nw w W → P (.returned (.bool (decide (c < b)))) W) := fun W hW => by rw [hP]; exact ⟨rfl, hW⟩
  clear hP
  go_enter Try.func34, Try.ntmps34
  go_wp2_with fail
  exact HF.out _ (((Fr.refl _ _).alloc _).alloc _)
set_option maxHeartbeats 1000000 in
theorem magicOf_any (z : Int) (w : World) : Calls Try.prog 17 #[.int .i64 z] w fun e w' => e = .returned (.string (if z = 1 then str (mg 1) else if z = 2 then str (mg 2) else if z = 3 then str (mg 3) else eS)) ∧ w = w' := by
  obtain ⟨P, hP⟩ : ∃ P : Ending → World → Prop, P = fun e w' => e = .returned (.string (if z = 1 then str (mg 1) else if z = 2 then str (mg 2) else if z = 3 then str (mg 3) else eS)) ∧ w = w' := ⟨_, rfl⟩
  rw [← hP]
  have HF : Hid (P (.returned (.string (if z = 1 then str (mg 1) else if z = 2 then str (mg 2) else if z = 3 then str (mg 3) else eS))) w) := by rw [hP]; exact ⟨rfl, rfl⟩
  clear hP
  have e1 : str (mg 1) = ⟨#[0, 0, 0, 0, 0, 0, 0, 0]⟩ := by decide
  have e2 : str (mg 2) = ⟨#[117, 115, 116, 97, 114, 0, 48, 48]⟩ := by decide
  have e3 : str (mg 3) = ⟨#[117, 115, 116, 97, 114, 32, 32, 0]⟩ := by decide
  rw [e1, e2, e3] at HF
  by_cases h1 : z = 1
  · rw [if_pos h1] at HF
    have q1 : (z == 1) = true := by simpa using h1
    clear h1
    go_enter Try.func17, Try.ntmps17
    go_wp2_with fail
    exact HF.out
  · rw [if_neg h1] at HF
    have q1 : (z == 1) = false := by simpa using h1
    clear h1
    by_cases h2 : z = 2
    · rw [if_pos h2] at HF
      have q2 : (z == 2) = true := by simpa using h2
      clear h2
      go_enter Try.func17, Try.ntmps17
      go_wp2_with fail
      exact HF.out
    · rw [if_neg h2] at HF
      have q2 : (z == 2) = false := by simpa using h2
      clear h2
      by_cases h3 : z = 3
      · rw [if_pos h3] at HF
        have q3 : (z == 3) = true := by simpa using h3
        clear h3
        go_enter Try.func17, Try.ntmps17
        go_wp2_with fail
        exact HF.out
      · rw [if_neg h3] at HF
        have q3 : (z == 3) = false := by simpa using h3
        clear h3
        go_enter Try.func17, Try.ntmps17
        go_wp2_with fail
        exact HF.out
theorem spanSize : (Try.prog.info? 66).map (·.size) = some (#[.int .i64 257, .int .i64 8] : Array Value).size := by kernel_rfl
set_option maxHeartbeats 1000000 in
set_option maxRecDepth 100000 in
theorem magic_any (w : World) : Calls Try.prog 36 #[] w fun e w' => e = .returned (.agg #[.int .i64 257, .int .i64 8]) ∧ w' = w.alloc (.cells #[.int .i64 257, .int .i64 8] 66) := by
  go_enter Try.func36, Try.ntmps36
  go_wp2_with fail
  refine bodyPost_ret (results_cell_row (p := 0) (ty := 66) rfl _ _ w.heap.size 66 _ _ _ rfl (newHeap _ _) Try.underlying66 rfl spanSize) rfl ?_
  exact ⟨rfl, rfl⟩
/-- The texts' rows. -/
def tX : Array Value := #[.int .i64 0, .int .i64 100, fn 50, .int .i64 157, .int .i64 100, fn 51, .int .i64 265, .int .i64 32, fn 52, .int .i64 297, .int .i64 32, fn 53, .int .i64 345, .int .i64 155, fn 54]
def nX : Array Value := #[.int .i64 100, .int .i64 8, fn 56, .bool false, .int .i64 108, .int .i64 8, fn 57, .bool false, .int .i64 116, .int .i64 8, fn 58, .bool false, .int .i64 124, .int .i64 12, fn 59, .bool false, .int .i64 136, .int .i64 12, fn 60, .bool true, .int .i64 329, .int .i64 8, fn 61, .bool false, .int .i64 337, .int .i64 8, fn 62, .bool false]
set_option maxHeartbeats 1000000 in
set_option maxRecDepth 100000 in
theorem texts_any (w : World) : Calls Try.prog 32 #[] w fun e w' => e = .returned (.slice (some ⟨w.heap.size, 0, none⟩) 5 5) ∧ w' = w.alloc (.cells tX 69) := by
  obtain ⟨P, hP⟩ : ∃ P : Ending → World → Prop, P = fun e w' => e = .returned (.slice (some ⟨w.heap.size, 0, none⟩) 5 5) ∧ w' = w.alloc (.cells tX 69) := ⟨_, rfl⟩
  rw [← hP]
  have HF : Hid (P (.returned (.slice (some ⟨w.heap.size, 0, none⟩) 5 5)) (w.alloc (.cells tX 69))) := by rw [hP]; exact ⟨rfl, rfl⟩
  clear hP
  go_enter Try.func32, Try.ntmps32
  go_wp2_with fail
  exact HF.out
set_option maxHeartbeats 1000000 in
set_option maxRecDepth 100000 in
theorem numbers_any (w : World) : Calls Try.prog 35 #[] w fun e w' => e = .returned (.slice (some ⟨w.heap.size, 0, none⟩) 7 7) ∧ w' = w.alloc (.cells nX 77) := by
  obtain ⟨P, hP⟩ : ∃ P : Ending → World → Prop, P = fun e w' => e = .returned (.slice (some ⟨w.heap.size, 0, none⟩) 7 7) ∧ w' = w.alloc (.cells nX 77) := ⟨_, rfl⟩
  rw [← hP]
  have HF : Hid (P (.returned (.slice (some ⟨w.heap.size, 0, none⟩) 7 7)) (w.alloc (.cells nX 77))) := by rw [hP]; exact ⟨rfl, rfl⟩
  clear hP
  go_enter Try.func35, Try.ntmps35
  go_wp2_with fail
  exact HF.out
theorem tx1_any (g : Nat) (w : World) : Calls Try.prog 50 #[.pointer (some ⟨g, 0, none⟩)] w fun e w' => e = .returned (.pointer (some ⟨g, 1, none⟩)) ∧ w' = w := by
  go_enter Try.func50, Try.ntmps50
  go_wp2_with fail
  first | exact ⟨rfl, rfl⟩ | (go_ret; exact ⟨rfl, rfl⟩)
theorem tx2_any (g : Nat) (w : World) : Calls Try.prog 51 #[.pointer (some ⟨g, 0, none⟩)] w fun e w' => e = .returned (.pointer (some ⟨g, 9, none⟩)) ∧ w' = w := by
  go_enter Try.func51, Try.ntmps51
  go_wp2_with fail
  first | exact ⟨rfl, rfl⟩ | (go_ret; exact ⟨rfl, rfl⟩)
theorem tx3_any (g : Nat) (w : World) : Calls Try.prog 52 #[.pointer (some ⟨g, 0, none⟩)] w fun e w' => e = .returned (.pointer (some ⟨g, 10, none⟩)) ∧ w' = w := by
  go_enter Try.func52, Try.ntmps52
  go_wp2_with fail
  first | exact ⟨rfl, rfl⟩ | (go_ret; exact ⟨rfl, rfl⟩)
theorem tx4_any (g : Nat) (w : World) : Calls Try.prog 53 #[.pointer (some ⟨g, 0, none⟩)] w fun e w' => e = .returned (.pointer (some ⟨g, 11, none⟩)) ∧ w' = w := by
  go_enter Try.func53, Try.ntmps53
  go_wp2_with fail
  first | exact ⟨rfl, rfl⟩ | (go_ret; exact ⟨rfl, rfl⟩)
theorem tx5_any (g : Nat) (w : World) : Calls Try.prog 54 #[.pointer (some ⟨g, 0, none⟩)] w fun e w' => e = .returned (.pointer (some ⟨g, 2, none⟩)) ∧ w' = w := by
  go_enter Try.func54, Try.ntmps54
  go_wp2_with fail
  first | exact ⟨rfl, rfl⟩ | (go_ret; exact ⟨rfl, rfl⟩)
theorem nx1_any (g : Nat) (w : World) : Calls Try.prog 56 #[.pointer (some ⟨g, 0, none⟩)] w fun e w' => e = .returned (.pointer (some ⟨g, 3, none⟩)) ∧ w' = w := by
  go_enter Try.func56, Try.ntmps56
  go_wp2_with fail
  first | exact ⟨rfl, rfl⟩ | (go_ret; exact ⟨rfl, rfl⟩)
theorem nx2_any (g : Nat) (w : World) : Calls Try.prog 57 #[.pointer (some ⟨g, 0, none⟩)] w fun e w' => e = .returned (.pointer (some ⟨g, 4, none⟩)) ∧ w' = w := by
  go_enter Try.func57, Try.ntmps57
  go_wp2_with fail
  first | exact ⟨rfl, rfl⟩ | (go_ret; exact ⟨rfl, rfl⟩)
theorem nx3_any (g : Nat) (w : World) : Calls Try.prog 58 #[.pointer (some ⟨g, 0, none⟩)] w fun e w' => e = .returned (.pointer (some ⟨g, 5, none⟩)) ∧ w' = w := by
  go_enter Try.func58, Try.ntmps58
  go_wp2_with fail
  first | exact ⟨rfl, rfl⟩ | (go_ret; exact ⟨rfl, rfl⟩)
theorem nx4_any (g : Nat) (w : World) : Calls Try.prog 59 #[.pointer (some ⟨g, 0, none⟩)] w fun e w' => e = .returned (.pointer (some ⟨g, 6, none⟩)) ∧ w' = w := by
  go_enter Try.func59, Try.ntmps59
  go_wp2_with fail
  first | exact ⟨rfl, rfl⟩ | (go_ret; exact ⟨rfl, rfl⟩)
theorem nx5_any (g : Nat) (w : World) : Calls Try.prog 60 #[.pointer (some ⟨g, 0, none⟩)] w fun e w' => e = .returned (.pointer (some ⟨g, 7, none⟩)) ∧ w' = w := by
  go_enter Try.func60, Try.ntmps60
  go_wp2_with fail
  first | exact ⟨rfl, rfl⟩ | (go_ret; exact ⟨rfl, rfl⟩)
theorem nx6_any (g : Nat) (w : World) : Calls Try.prog 61 #[.pointer (some ⟨g, 0, none⟩)] w fun e w' => e = .returned (.pointer (some ⟨g, 12, none⟩)) ∧ w' = w := by
  go_enter Try.func61, Try.ntmps61
  go_wp2_with fail
  first | exact ⟨rfl, rfl⟩ | (go_ret; exact ⟨rfl, rfl⟩)
theorem nx7_any (g : Nat) (w : World) : Calls Try.prog 62 #[.pointer (some ⟨g, 0, none⟩)] w fun e w' => e = .returned (.pointer (some ⟨g, 13, none⟩)) ∧ w' = w := by
  go_enter Try.func62, Try.ntmps62
  go_wp2_with fail
  first | exact ⟨rfl, rfl⟩ | (go_ret; exact ⟨rfl, rfl⟩)
end Go.Proofs.Ytoegbaenheeogaa

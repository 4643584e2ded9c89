import Derived.Test.YtoegbaenheeogaaGreatDoorNhT
import Derived.Test.YtoegbaenheeogaaGreatDoorNfW
namespace Go.Proofs.YtoegbaenheeogaaGreatDoor
open Go.RowKit
set_option linter.unusedVariables false
/-! ### The document's Decode: its parts -/
theorem fd_old (w : World) (g o n : Nat) (b : List By) (hb : b.length = 512) (hon : o + n ≤ 512) (h : RcH g b w) : Old w (.slice (some ⟨g, o, none⟩) n (512 - o)) (fd b o n) := by
  have hl : (fd b o n).length = n := by unfold fd; rw [List.length_take, List.length_drop]; omega
  have hlt := h.lt
  refine .inr ⟨g, by omega, o, 512 - o, by rw [hl], by rw [hl]; omega, by omega, ?_⟩
  have hr : Rd g 0 b w := fun j hj => by
    rw [Nat.zero_add]
    have := rc_at b j hj
    have hh : w.heap[g]? = some (.cells (rc b) 28) := h
    simp only [World.cell?, hh]
    simpa using this
  have := (hr.drop o).take n
  rw [Nat.zero_add] at this
  exact this
set_option maxHeartbeats 1000000 in
theorem rmagic_any (f : Nat) (w : World) : Calls Tryz.prog 19 #[.int .i64 (f : Nat)] w fun e w' => e = .returned (.string (str (mg f))) ∧ w' = w := by
  obtain ⟨P, hP⟩ : ∃ P : Ending → World → Prop, P = fun e w' => e = .returned (.string (str (mg f))) ∧ w' = w := ⟨_, rfl⟩
  rw [← hP]
  have HF : Hid (P (.returned (.string (str (mg f)))) w) := by rw [hP]; exact ⟨rfl, rfl⟩
  clear hP
  have e1 : str (mg 1) = ⟨#[0, 0, 0, 0, 0, 0, 0, 0]⟩ := by decide
  have e2 : str (mg 2) = ⟨#[117, 115, 116, 97, 114, 0, 48, 48]⟩ := by decide
  have e3 : str (mg 3) = ⟨#[117, 115, 116, 97, 114, 32, 32, 0]⟩ := by decide
  by_cases h2 : f = 2
  · subst h2
    rw [e2] at HF
    go_enter Tryz.func19, Tryz.ntmps19
    go_wp2_with fail
    exact HF.out
  · have q2 : ((f : Int) == 2) = false := by rw [beq_eq_false_iff_ne]; omega
    by_cases h3 : f = 3
    · subst h3
      rw [e3] at HF
      go_enter Tryz.func19, Tryz.ntmps19
      go_wp2_with fail
      exact HF.out
    · have q3 : ((f : Int) == 3) = false := by rw [beq_eq_false_iff_ne]; omega
      have em : mg f = mg 1 := by unfold mg; rw [if_neg h2, if_neg h3, if_neg (by decide), if_neg (by decide)]
      rw [em, e1] at HF
      go_enter Tryz.func19, Tryz.ntmps19
      go_wp2_with fail
      exact HF.out
set_option maxHeartbeats 1000000 in
theorem rhas_any (f : Nat) (w : World) : Calls Tryz.prog 21 #[.int .i64 (f : Nat)] w fun e w' => e = .returned (.int .i64 ((if f = 1 then 5 else 7 : Nat) : Int)) ∧ w' = w := by
  obtain ⟨P, hP⟩ : ∃ P : Ending → World → Prop, P = fun e w' => e = .returned (.int .i64 ((if f = 1 then 5 else 7 : Nat) : Int)) ∧ w' = w := ⟨_, rfl⟩
  rw [← hP]
  have HF : Hid (P (.returned (.int .i64 ((if f = 1 then 5 else 7 : Nat) : Int))) w) := by rw [hP]; exact ⟨rfl, rfl⟩
  clear hP
  by_cases h : f = 1
  · rw [if_pos h] at HF
    subst h
    go_enter Tryz.func21, Tryz.ntmps21
    go_wp2_with fail
    exact HF.out
  · rw [if_neg h] at HF
    have q : ((f : Int) == 1) = false := by rw [beq_eq_false_iff_ne]; omega
    go_enter Tryz.func21, Tryz.ntmps21
    go_wp2_with fail
    exact HF.out
/-- The document's row of numbers: j of them read. -/
def xN (b : List By) (f j : Nat) : Array Value := #[.int .i64 100, .int .i64 8, .int .i64 (dN b f j 0 100 8), .bool false, .int .i64 108, .int .i64 8, .int .i64 (dN b f j 1 108 8), .bool false, .int .i64 116, .int .i64 8, .int .i64 (dN b f j 2 116 8), .bool false, .int .i64 124, .int .i64 12, .int .i64 (dN b f j 3 124 12), .bool false, .int .i64 136, .int .i64 12, .int .i64 (dN b f j 4 136 12), .bool true, .int .i64 329, .int .i64 8, .int .i64 (dN b f j 5 329 8), .bool false, .int .i64 337, .int .i64 8, .int .i64 (dN b f j 6 337 8), .bool false]
def xN0 : Array Value := #[.int .i64 100, .int .i64 8, .int .i64 0, .bool false, .int .i64 108, .int .i64 8, .int .i64 0, .bool false, .int .i64 116, .int .i64 8, .int .i64 0, .bool false, .int .i64 124, .int .i64 12, .int .i64 0, .bool false, .int .i64 136, .int .i64 12, .int .i64 0, .bool true, .int .i64 329, .int .i64 8, .int .i64 0, .bool false, .int .i64 337, .int .i64 8, .int .i64 0, .bool false]
theorem xN_zero (b : List By) (f : Nat) : xN b f 0 = xN0 := by simp [xN, xN0, dN]
theorem xN_set (b : List By) (f j o n : Nat) (bl : Bool) (hi : nF[j]? = some (o, n, bl)) (ho : o < fE f) : xN b f (j + 1) = (xN b f j).setIfInBounds (j * 4 + 2) (.int .i64 (nmN (fd b o n))) := by
  have h5 : j < 7 := (List.getElem?_eq_some_iff.1 hi).1
  rcases seven h5 with rfl | rfl | rfl | rfl | rfl | rfl | rfl <;>
  · simp only [nF, List.getElem?_cons_zero, List.getElem?_cons_succ, Option.some.injEq, Prod.mk.injEq] at hi
    obtain ⟨rfl, rfl, rfl⟩ := hi
    simp [xN, dN, ho]
theorem xN_nset (b : List By) (f j o n : Nat) (bl : Bool) (hi : nF[j]? = some (o, n, bl)) (ho : ¬ o < fE f) : xN b f (j + 1) = xN b f j := by
  have h5 : j < 7 := (List.getElem?_eq_some_iff.1 hi).1
  rcases seven h5 with rfl | rfl | rfl | rfl | rfl | rfl | rfl <;>
  · simp only [nF, List.getElem?_cons_zero, List.getElem?_cons_succ, Option.some.injEq, Prod.mk.injEq] at hi
    obtain ⟨rfl, rfl, rfl⟩ := hi
    simp [xN, dN, ho]
theorem xN_at (b : List By) (f J j o n : Nat) (bl : Bool) (hi : nF[j]? = some (o, n, bl)) : (xN b f J)[j * 4]? = some (.int .i64 (o : Nat)) ∧ (xN b f J)[j * 4 + 1]? = some (.int .i64 (n : Nat)) ∧ (xN b f J)[j * 4 + 3]? = some (.bool bl) ∧ ∃ z : Int, (xN b f J)[j * 4 + 2]? = some (.int .i64 z) := by
  have h5 : j < 7 := (List.getElem?_eq_some_iff.1 hi).1
  rcases seven h5 with rfl | rfl | rfl | rfl | rfl | rfl | rfl <;>
  · simp only [nF, List.getElem?_cons_zero, List.getElem?_cons_succ, Option.some.injEq, Prod.mk.injEq] at hi
    obtain ⟨rfl, rfl, rfl⟩ := hi
    exact ⟨rfl, rfl, rfl, _, rfl⟩
/-- A header that says its form alone. -/
def hM (m : Nat) : Hr := { hZ with form := m }
set_option maxHeartbeats 2000000 in
set_option maxRecDepth 100000 in
theorem rnumbers_any (m : Nat) (w : World) : Calls Tryz.prog 20 #[.agg (hM m).C] w fun e w' => e = .returned (.slice (some ⟨w.heap.size + 1, 0, none⟩) 7 7) ∧ w' = (w.alloc (.cells (hM m).C 24)).alloc (.cells xN0 70) := by
  obtain ⟨P, hP⟩ : ∃ P : Ending → World → Prop, P = fun e w' => e = .returned (.slice (some ⟨w.heap.size + 1, 0, none⟩) 7 7) ∧ w' = (w.alloc (.cells (hM m).C 24)).alloc (.cells xN0 70) := ⟨_, rfl⟩
  rw [← hP]
  have HF : Hid (P (.returned (.slice (some ⟨w.heap.size + 1, 0, none⟩) 7 7)) ((w.alloc (.cells (hM m).C 24)).alloc (.cells xN0 70))) := by rw [hP]; exact ⟨rfl, rfl⟩
  clear hP
  have hC : (hM m).C = #[.int .i64 (m : Nat), .string ⟨#[]⟩, .string ⟨#[]⟩, .int .i64 0, .int .i64 0, .int .i64 0, .int .i64 0, .int .i64 0, .int .u8 0, .string ⟨#[]⟩, .string ⟨#[]⟩, .string ⟨#[]⟩, .int .i64 0, .int .i64 0] := rfl
  rw [hC] at HF ⊢
  go_enter Tryz.func20, Tryz.ntmps20
  go_wp2_with fail
  exact HF.out
end Go.Proofs.YtoegbaenheeogaaGreatDoor

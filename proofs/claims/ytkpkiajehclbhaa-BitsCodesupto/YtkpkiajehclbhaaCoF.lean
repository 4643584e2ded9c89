import Derived.Test.YtkpkiajehclbhaaCoE
namespace Go.Proofs.Ytkpkiajehclbhaa
open Go.RowKit
set_option linter.unusedVariables false
theorem box_cell (w : World) (f : Nat → Nat → Nat) (n j : Nat) (hn : n < 16) (hj : j < 3) : (w.alloc (.cells (rowC f) 90)).cell? ⟨w.heap.size, n * 3 + j, none⟩ = some (.int .i64 (f n j)) := (row_cell (new_heap w _) _ _ (rowC_at f n j hn hj)).1
set_option maxHeartbeats 8000000 in
theorem room_any (w : World) (f : Nat → Nat → Nat) (h : f 15 1 + f 15 0 ≤ 1000000000) : Calls Try.prog 48 #[.agg (rowC f)] w fun e w' => e = .returned (.int .i64 (f 15 1 + f 15 0 : Nat)) ∧ Nw w w' := by
  obtain ⟨P, hP⟩ : ∃ P : Ending → World → Prop, P = fun e w' => e = .returned (.int .i64 (f 15 1 + f 15 0 : Nat)) ∧ Nw w w' := ⟨_, rfl⟩
  rw [← hP]
  have HF : Hid (P (.returned (.int .i64 (f 15 1 + f 15 0 : Nat))) (w.alloc (.cells (rowC f) 90))) := by
    show P _ _
    rw [hP]; exact ⟨rfl, (Fr.refl _ _).alloc _⟩
  have c1 := box_cell w f 15 1 (by decide) (by decide)
  have c0 := box_cell w f 15 0 (by decide) (by decide)
  have hi : ((f 15 1 : Nat) : Int) + ((f 15 0 : Nat) : Int) = ((f 15 1 + f 15 0 : Nat) : Int) := by omega
  clear hP
  generalize f 15 1 + f 15 0 = s at *
  generalize f 15 1 = x at *
  generalize f 15 0 = y at *
  generalize rowC f = A at *
  go_enter Try.func48, Try.ntmps48
  go_wp2
  exact HF.out
set_option maxHeartbeats 8000000 in
theorem nwords_any (w : World) (f : Nat → Nat → Nat) (h : f 15 2 + f 15 0 ≤ 1000000000) : Calls Try.prog 49 #[.agg (rowC f)] w fun e w' => e = .returned (.int .i64 (f 15 2 + f 15 0 : Nat)) ∧ w' = w.alloc (.cells (rowC f) 90) := by
  obtain ⟨P, hP⟩ : ∃ P : Ending → World → Prop, P = fun e w' => e = .returned (.int .i64 (f 15 2 + f 15 0 : Nat)) ∧ w' = w.alloc (.cells (rowC f) 90) := ⟨_, rfl⟩
  rw [← hP]
  have HF : Hid (P (.returned (.int .i64 (f 15 2 + f 15 0 : Nat))) (w.alloc (.cells (rowC f) 90))) := by
    show P _ _
    rw [hP]; exact ⟨rfl, rfl⟩
  have c1 := box_cell w f 15 2 (by decide) (by decide)
  have c0 := box_cell w f 15 0 (by decide) (by decide)
  have hi : ((f 15 2 : Nat) : Int) + ((f 15 0 : Nat) : Int) = ((f 15 2 + f 15 0 : Nat) : Int) := by omega
  clear hP
  generalize f 15 2 + f 15 0 = s at *
  generalize f 15 2 = x at *
  generalize f 15 0 = y at *
  generalize rowC f = A at *
  go_enter Try.func49, Try.ntmps49
  go_wp2
  exact HF.out
end Go.Proofs.Ytkpkiajehclbhaa

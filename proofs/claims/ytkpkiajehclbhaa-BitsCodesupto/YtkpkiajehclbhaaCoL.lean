import Derived.Test.YtkpkiajehclbhaaCoK
namespace Go.Proofs.Ytkpkiajehclbhaa
open Go.RowKit
set_option linter.unusedVariables false
variable {cb gw gs : Nat} {ls : List Nat} {ws : List (Nat × Nat)} {ss : List Int} {w : World}
theorem CodeI.range (h : CodeI cb gw gs ls ws ss w) : w.rangeAt cb 2 (rowC (fr ls)).toList := fun j v hv => by
  have hr := h.c.row
  refine (row_cell hr (2 + j) v ?_).1
  rw [codeC, Array.getElem?_append_right (by simp)]
  simpa using hv
set_option maxHeartbeats 8000000 in
theorem whole_any (h : CodeI cb gw gs ls ws ss w) (hk : Cod ls) : Calls Try.prog 34 #[.pointer (some ⟨cb, 0, none⟩)] w fun e w' => e = .returned (.bool (decide (room ls = 32768))) ∧ Nw w w' := by
  obtain ⟨P, hP⟩ : ∃ P : Ending → World → Prop, P = fun e w' => e = .returned (.bool (decide (room ls = 32768))) ∧ Nw w w' := ⟨_, rfl⟩
  rw [← hP]
  have hfit := hk.fit
  have HC : Hid (Calls Try.prog 48 #[.agg (rowC (fr ls)).toList.toArray] w fun e w' => e = .returned (.int .i64 (room ls)) ∧ Hid (P (.returned (.bool (decide (room ls = 32768)))) w')) := by
    rw [show (rowC (fr ls)).toList.toArray = rowC (fr ls) by simp]
    refine (room_any w (fr ls) (by show room ls ≤ _; omega)).mono ?_
    rintro e w' ⟨rfl, hN⟩
    refine ⟨rfl, ?_⟩
    show P _ _
    rw [hP]; exact ⟨rfl, hN⟩
  have hr := h.range
  have hsz : (Try.prog.info? 90).map (·.size) = some (rowC (fr ls)).toList.length := by rw [size90]; simp [rowC_size]
  have hd : ((room ls : Int) == 32768) = decide (room ls = 32768) := by
    by_cases e : room ls = 32768
    · simp [e]
    · rw [decide_eq_false e]; simp; omega
  clear hP h hk
  generalize (rowC (fr ls)).toList = AL at *
  generalize decide (room ls = 32768) = B at *
  generalize room ls = R at *
  go_enter Try.func34, Try.ntmps34
  go_wp2_with (first | (refine wpList_load_mid rfl 90 _ rfl cb 2 (by first | rfl | simp [Act.eval]) AL _ hr Try.underlying90 rfl hsz ?_) | (go_at_call 48; (with_reducible refine HC.out.mono ?_); rintro e w4 ⟨rfl, H4⟩))
  exact H4.out
end Go.Proofs.Ytkpkiajehclbhaa

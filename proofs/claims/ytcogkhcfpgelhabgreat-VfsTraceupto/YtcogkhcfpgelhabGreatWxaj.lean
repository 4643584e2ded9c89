import Derived.Test.YtcogkhcfpgelhabGreatWxad
import Derived.Lib.Bytealg
import Derived.Sort.Grow
namespace Go.Proofs.YtcogkhcfpgelhabGreat
open Go.RowKit
set_option linter.unusedVariables false
set_option maxRecDepth 100000
theorem cmpb_lt : ∀ a b : Tx, (Lib.compareBytes a b < 0) ↔ lt a b = true
  | [], [] => by simp [Lib.compareBytes, lt, Op.bytesLess]
  | [], _ :: _ => by simp [Lib.compareBytes, lt, Op.bytesLess]
  | _ :: _, [] => by simp [Lib.compareBytes, lt, Op.bytesLess]
  | x :: a, y :: b => by
    rw [lt_cons]
    unfold Lib.compareBytes
    by_cases h1 : x < y
    · simp [h1]
    · rw [if_neg h1]
      by_cases h2 : y < x
      · rw [if_pos h2]
        have hne : x ≠ y := fun e => by rw [e] at h2; exact UInt8.lt_irrefl _ h2
        simp [h1, hne]
      · rw [if_neg h2]
        have he : x = y := UInt8.le_antisymm (UInt8.not_lt.1 h2) (UInt8.not_lt.1 h1)
        rw [cmpb_lt a b]
        simp [he]
set_option maxHeartbeats 1000000 in
theorem cmpString_any (a b : ByteArray) (w : World) : Calls Tryz.prog 84 #[.string a, .string b] w fun e w' => e = .returned (.int .i64 (Lib.compareBytes a.data.toList b.data.toList)) ∧ w = w' := by
  go_enter Tryz.func84, Tryz.ntmps84
  go_wp2
  rw [run_callFunc_extern Tryz.func112 (by kernel_rfl) (by kernel_rfl) (by kernel_rfl) (e := Extern.BytealgCompare.compare) (by kernel_rfl), Lib.run_compareString]
  simp only [Result.andThen]
  rw [Oper.upon_value]
  go_wp2
  go_ret
  exact ⟨rfl, rfl⟩
set_option maxHeartbeats 1000000 in
theorem sCompare_any (a b : ByteArray) (w : World) : Calls Tryz.prog 69 #[.string a, .string b] w fun e w' => e = .returned (.int .i64 (Lib.compareBytes a.data.toList b.data.toList)) ∧ w = w' := by
  have HC := tHid (cmpString_any a b w)
  generalize Lib.compareBytes a.data.toList b.data.toList = r at *
  go_enter Tryz.func69, Tryz.ntmps69
  go_wp2_with (first | (go_at_call 84; with_reducible refine HC.out.mono ?_; rintro e w2 ⟨rfl, rfl⟩))
  go_ret
  exact ⟨rfl, rfl⟩
/-- The function that entries are sorted by. -/
theorem cmpN_any (x y : Tx × Int) (w : World) : Calls Tryz.prog 68 #[.agg #[.string (mk x.1), .int .i64 x.2], .agg #[.string (mk y.1), .int .i64 y.2]] w fun e w' => e = .returned (.int .i64 (Lib.compareBytes x.1 y.1)) ∧ ∃ k os, w' = Sort.grow (w.drewN k) os := by
  obtain ⟨P, hP⟩ : ∃ P : Ending → World → Prop, P = fun e w' => e = .returned (.int .i64 (Lib.compareBytes x.1 y.1)) ∧ ∃ k os, w' = Sort.grow (w.drewN k) os := ⟨_, rfl⟩
  rw [← hP]
  obtain ⟨V, hV⟩ : ∃ V, (w.alloc (.cells #[.string (mk x.1), .int .i64 x.2] 57)).alloc (.cells #[.string (mk y.1), .int .i64 y.2] 57) = V := ⟨_, rfl⟩
  have HF : Hid (P (.returned (.int .i64 (Lib.compareBytes x.1 y.1))) V) := by
    rw [hP]
    refine ⟨rfl, 0, #[.cells #[.string (mk x.1), .int .i64 x.2] 57] ++ #[.cells #[.string (mk y.1), .int .i64 y.2] 57], ?_⟩
    rw [← hV, Sort.alloc_eq_grow, Sort.alloc_eq_grow, Sort.grow_grow]
    rfl
  have HC : Hid (Calls Tryz.prog 69 #[.string (mk x.1), .string (mk y.1)] V fun e w' => e = .returned (.int .i64 (Lib.compareBytes x.1 y.1)) ∧ V = w') := sCompare_any (mk x.1) (mk y.1) V
  have c0 : V.cell? ⟨w.heap.size, 0, none⟩ = some (.string (mk x.1)) := by
    have hn : Nw (w.alloc (.cells #[.string (mk x.1), .int .i64 x.2] 57)) V := by rw [← hV]; exact (Fr.refl _ _).alloc _
    exact hn.cell (rc (nh w _) 0 _ rfl).1
  have hs : (w.alloc (.cells #[.string (mk x.1), .int .i64 x.2] 57)).heap.size = w.heap.size + 1 := by simp
  have c1 : V.cell? ⟨w.heap.size + 1, 0, none⟩ = some (.string (mk y.1)) := by
    rw [← hV, ← hs]
    exact (rc (nh (w.alloc (.cells #[.string (mk x.1), .int .i64 x.2] 57)) _) 0 _ rfl).1
  have HV := tHid hV
  clear hP hV hs
  generalize Lib.compareBytes x.1 y.1 = r at *
  generalize mk x.1 = sx at *
  generalize mk y.1 = sy at *
  go_enter Tryz.func68, Tryz.ntmps68
  go_upto_region 1 with fail
  rw [HV.out]
  clear HV
  go_wp2_with (first | (go_at_call 69; with_reducible refine HC.out.mono ?_; rintro e w2 ⟨rfl, rfl⟩))
  exact HF.out
end Go.Proofs.YtcogkhcfpgelhabGreat

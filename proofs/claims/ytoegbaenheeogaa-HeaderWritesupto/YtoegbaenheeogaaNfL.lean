import Derived.Test.YtoegbaenheeogaaNfC
import Derived.Lib.Bytealg
import Derived.Lib.MinMax
namespace Go.Proofs.Ytoegbaenheeogaa
open Go.RowKit
set_option linter.unusedVariables false
variable {w : World}
set_option maxHeartbeats 1000000 in
set_option maxRecDepth 100000 in
theorem slindexb_any (s : ByteArray) (c : Int) (w : World) : Calls Try.prog 77 #[.string s, .int .u8 c] w fun e w' => e = .returned (.int .i64 (Lib.indexByte s.data.toList c.toNat.toUInt8)) ∧ w = w' := by
  obtain ⟨P, hP⟩ : ∃ P : Ending → World → Prop, P = fun e w' => e = .returned (.int .i64 (Lib.indexByte s.data.toList c.toNat.toUInt8)) ∧ w = w' := ⟨_, rfl⟩
  rw [← hP]
  have HF : Hid (P (.returned (.int .i64 (Lib.indexByte s.data.toList c.toNat.toUInt8))) w) := by rw [hP]; exact ⟨rfl, rfl⟩
  clear hP
  go_enter Try.func77, Try.ntmps77
  go_wp2
  rw [run_callFunc_extern Try.func86 (by kernel_rfl) (by kernel_rfl) (by kernel_rfl) (e := Extern.BytealgIndexByte.indexByte) (by kernel_rfl), Lib.run_indexByteString]
  simp only [Result.andThen]
  rw [Oper.upon_value]
  go_wp2
  first | exact HF.out | (go_ret; exact HF.out)
set_option maxHeartbeats 4000000 in
set_option maxRecDepth 100000 in
theorem slindex_one (s : ByteArray) (w : World) (hs : s.size ≤ 140737488351232) : Calls Try.prog 69 #[.string s, .string ⟨#[0]⟩] w fun e w' => e = .returned (.int .i64 (Lib.indexByte s.data.toList 0)) ∧ w = w' := by
  obtain ⟨P, hP⟩ : ∃ P : Ending → World → Prop, P = fun e w' => e = .returned (.int .i64 (Lib.indexByte s.data.toList 0)) ∧ w = w' := ⟨_, rfl⟩
  rw [← hP]
  have HF : Hid (P (.returned (.int .i64 (Lib.indexByte s.data.toList 0))) w) := by rw [hP]; exact ⟨rfl, rfl⟩
  have HI : Hid (Calls Try.prog 77 #[.string s, .int .u8 0] w fun e w' => e = .returned (.int .i64 (Lib.indexByte s.data.toList 0)) ∧ w = w') := slindexb_any s 0 w
  clear hP
  by_cases h0 : s = ⟨#[0]⟩
  · subst h0
    have e : Lib.indexByte (⟨#[0]⟩ : ByteArray).data.toList 0 = 0 := by decide
    rw [e] at HF
    clear HI
    go_enter Try.func69, Try.ntmps69
    go_wp2
    exact HF.out
  · have h1 : (([0] : List UInt8) == s.toList) = false := by
      rw [beq_eq_false_iff_ne]
      intro e
      apply h0
      rw [ByteArray.toList_eq] at e
      apply ByteArray.ext
      apply Array.ext'
      exact e.symm
    generalize Lib.indexByte s.data.toList 0 = r at *
    go_enter Try.func69, Try.ntmps69
    go_wp2_with (first | (go_at_call 77; refine HI.out.mono ?_; rintro e w1 ⟨rfl, rfl⟩))
    exact HF.out
theorem contains_any (s : ByteArray) (w : World) (hs : s.size ≤ 140737488351232) : Calls Try.prog 33 #[.string s, .string ⟨#[0]⟩] w fun e w' => e = .returned (.bool (decide (0 ≤ Lib.indexByte s.data.toList 0))) ∧ w = w' := by
  obtain ⟨P, hP⟩ : ∃ P : Ending → World → Prop, P = fun e w' => e = .returned (.bool (decide (0 ≤ Lib.indexByte s.data.toList 0))) ∧ w = w' := ⟨_, rfl⟩
  rw [← hP]
  have HF : Hid (P (.returned (.bool (decide (0 ≤ Lib.indexByte s.data.toList 0)))) w) := by rw [hP]; exact ⟨rfl, rfl⟩
  have HI : Hid (Calls Try.prog 55 #[.string s, .string ⟨#[0]⟩] w fun e w' => e = .returned (.int .i64 (Lib.indexByte s.data.toList 0)) ∧ w = w') := by
    obtain ⟨Q, hQ⟩ : ∃ Q : Ending → World → Prop, Q = fun e w' => e = .returned (.int .i64 (Lib.indexByte s.data.toList 0)) ∧ w = w' := ⟨_, rfl⟩
    show Calls _ _ _ _ _
    rw [← hQ]
    have HF : Hid (Q (.returned (.int .i64 (Lib.indexByte s.data.toList 0))) w) := by rw [hQ]; exact ⟨rfl, rfl⟩
    have HJ : Hid (Calls Try.prog 69 #[.string s, .string ⟨#[0]⟩] w fun e w' => e = .returned (.int .i64 (Lib.indexByte s.data.toList 0)) ∧ w = w') := slindex_one s w hs
    clear hQ hP
    go_enter Try.func55, Try.ntmps55
    go_wp2_with (first | (go_at_call 69; with_reducible refine HJ.out.mono ?_; rintro e w1 ⟨rfl, rfl⟩))
    exact HF.out
  clear hP
  generalize Lib.indexByte s.data.toList 0 = r at *
  by_cases hr : 0 ≤ r
  · rw [decide_eq_true hr] at HF
    have hd := decide_eq_true hr
    go_enter Try.func33, Try.ntmps33
    go_wp2_with (first | (go_at_call 55; with_reducible refine HI.out.mono ?_; rintro e w1 ⟨rfl, rfl⟩))
    exact HF.out
  · rw [decide_eq_false hr] at HF
    have hd := decide_eq_false hr
    go_enter Try.func33, Try.ntmps33
    go_wp2_with (first | (go_at_call 55; with_reducible refine HI.out.mono ?_; rintro e w1 ⟨rfl, rfl⟩))
    exact HF.out
end Go.Proofs.Ytoegbaenheeogaa

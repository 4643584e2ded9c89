import Derived.Test.YtcogkhcfpgelhabVgL
namespace Go.Proofs.Ytcogkhcfpgelhab
open Go.RowKit
set_option linter.unusedVariables false
set_option maxRecDepth 100000
theorem xy_str : str [0#8, 0#8, 120#8, 121#8] = ⟨#[0, 0, 120, 121]⟩ := rfl
set_option maxHeartbeats 8000000 in
theorem lives_any (w : World) : Calls Try.prog 4 #[] w fun e w' => e = .returned (.bool true) ∧ Nw w w' := by
  obtain ⟨P, hP⟩ : ∃ P : Ending → World → Prop, P = fun e w' => e = .returned (.bool true) ∧ Nw w w' := ⟨_, rfl⟩
  rw [← hP]
  have HF : Hid (∀ V, Nw w V → P (.returned (.bool true)) V) := fun V hV => by rw [hP]; exact ⟨rfl, hV⟩
  clear hP
  have C0 := tHid (lv0 w)
  go_enter Try.func4, Try.ntmps4
  go_upto_region 2 with (first | (go_at_call 5; with_reducible refine C0.out.mono ?_; rintro e w1 ⟨fb, mb, rfl, H0⟩))
  clear C0
  have C1 := tHid (lv1 H0.out)
  go_upto_region 5 with (first | (go_at_call 11; with_reducible refine C1.out.mono ?_; rintro e w2 ⟨rfl, H1⟩))
  clear C1 H0
  have C2 := tHid (lv2 H1.out)
  go_upto_region 6 with (first | (go_at_call 6; with_reducible refine C2.out.mono ?_; rintro e w3 ⟨rfl, H2⟩))
  clear C2 H1
  have C3 := tHid (lv3 H2.out)
  go_upto_region 7 with (first | (go_at_call 6; with_reducible refine C3.out.mono ?_; rintro e w4 ⟨rfl, H3⟩))
  clear C3 H2
  have C4 := tHid (lv4 H3.out)
  have C5 : Hid (∀ V, Hid (FsD w Nox fb mb ⟨3, 10, 4, 4⟩ lQ3 3 lT3 V) → Calls Try.prog 12 #[.pointer (some ⟨fb, 0, none⟩), .int .i64 1, .string ⟨#[104]⟩, .int .i64 3] V fun e w' => e = .returned (.int .i64 0) ∧ Hid (FsD w Nox fb mb ⟨3, 10, 4, 4⟩ lQ4 3 lT4 w')) := fun V h => lv5 h.out
  have hcv : (convert 22 22 (.slice (some ⟨w4.heap.size, 0, none⟩) 2 2)).run Try.prog (w4.alloc (.cells #[.int .u8 120, .int .u8 121] 5)) = .ok (.slice (some ⟨w4.heap.size, 0, none⟩) 2 2) (w4.alloc (.cells #[.int .u8 120, .int .u8 121] 5 (2, 3))) := Lib.run_convert_bytes_const w4 22 5 #[.int .u8 120, .int .u8 121] 2 2 Try.underlying22 Try.underlying5
  go_upto_region 9 with (first | (go_at_call 7; with_reducible refine C4.out.mono ?_; rintro e w5 ⟨rfl, H4⟩) | (go_at_call 12; with_reducible refine (C5.out _ H4).mono ?_; rintro e w6 ⟨rfl, H5⟩))
  clear C4 C5 hcv H3 H4
  have C6 := tHid (lv6 H5.out)
  go_upto_region 10 with (first | (go_at_call 9; with_reducible refine C6.out.mono ?_; rintro e w7 ⟨a', c', rfl, HS, H6⟩))
  clear C6 H5
  have C7 := tHid (lv7 H6.out)
  go_upto_region 11 with (first | (go_at_call 10; with_reducible refine C7.out.mono ?_; rintro e w8 ⟨rfl, H7⟩))
  clear C7 H6
  obtain ⟨V, hV⟩ : ∃ V, w8.alloc (.cells #[.int .i64 3, .int .i64 2, .int .u32 0, .int .u32 0, .int .u32 0, .int .i64 0, .int .i32 0, .int .i64 2, .int .i64 4] 38) = V := ⟨_, rfl⟩
  have hN : Nw w8 V := by rw [← hV]; exact (Fr.refl _ _).alloc _
  have s7 : V.cell? ⟨w8.heap.size, 7, none⟩ = some (.int .i64 2) := by rw [← hV]; exact (rc (nh w8 _) 7 _ rfl).1
  have hcs : (convert 22 9 (.slice a' 4 c')).run Try.prog V = .ok (.string ⟨#[0, 0, 120, 121]⟩) V := by
    have := conv_any ((HS.out.nw H7.out.2).nw hN)
    rw [xy_str] at this
    exact this
  have C8 := tHid (lv8 (H7.out.1.nw hN))
  have C9 : Hid (∀ V, Hid (FsD w Nox fb mb ⟨3, 10, 4, 4⟩ lQ5 3 lT5 V) → Calls Try.prog 14 #[.pointer (some ⟨fb, 0, none⟩), .int .i64 1, .string ⟨#[97]⟩] V fun e w' => e = .returned (.int .i64 0) ∧ Hid (FsD w Nox fb mb ⟨3, 10, 4, 4⟩ lQ6 2 lT6 w')) := fun V h => lv9 h.out
  rw [hV]
  clear hV HS H7 hN
  go_upto_region 13 with (first | (go_at_call 13; with_reducible refine C8.out.mono ?_; rintro e w9 ⟨rfl, H8⟩) | (go_at_call 14; with_reducible refine (C9.out _ H8).mono ?_; rintro e wA ⟨rfl, H9⟩))
  clear C8 C9 H8 s7 hcs
  have CA := tHid (lv10 H9.out)
  go_upto_region 14 with (first | (go_at_call 6; with_reducible refine CA.out.mono ?_; rintro e wB ⟨rfl, HA⟩))
  have CB := tHid (lv11 HA.out)
  clear CA H9 HA
  go_wp2_with (first | (go_at_call 15; with_reducible refine CB.out.mono ?_; rintro e wC ⟨a2, c2, rfl, HB⟩))
  exact HF.out _ HB.out
end Go.Proofs.Ytcogkhcfpgelhab

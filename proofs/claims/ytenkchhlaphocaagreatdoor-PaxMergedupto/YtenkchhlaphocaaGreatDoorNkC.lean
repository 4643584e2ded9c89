import Derived.Test.YtenkchhlaphocaaGreatDoorNkB
namespace Go.Proofs.YtenkchhlaphocaaGreatDoor
open Go.RowKit
set_option linter.unusedVariables false
theorem lit5 (w : World) : Sl (fun _ => False) (.slice (some ⟨w.heap.size, 0, none⟩) 5 5) [53#8, 32#8, 97#8, 61#8, 10#8] (w.alloc (.cells #[.int .u8 53, .int .u8 32, .int .u8 97, .int .u8 61, .int .u8 10] 5 (5, 6))) := by
  refine .inr ⟨w.heap.size, fun h => h, 0, 5, rfl, by decide, by decide, fun j hj => ?_⟩
  have hh := newHeap w (.cells #[.int .u8 53, .int .u8 32, .int .u8 97, .int .u8 61, .int .u8 10] 5 (5, 6))
  have hj5 : j < 5 := hj
  unfold World.cell?
  rw [hh, Nat.zero_add]
  rcases (show j = 0 ∨ j = 1 ∨ j = 2 ∨ j = 3 ∨ j = 4 by omega) with rfl | rfl | rfl | rfl | rfl <;> rfl
set_option maxHeartbeats 8000000 in
set_option maxRecDepth 100000 in
theorem lives_any (w : World) (hE : Env w) : Calls Tryz.prog 4 #[] w fun e w' => e = .returned (.bool true) ∧ Nw w w' := by
  obtain ⟨P, hP⟩ : ∃ P : Ending → World → Prop, P = fun e w' => e = .returned (.bool true) ∧ Nw w w' := ⟨_, rfl⟩
  rw [← hP]
  have HF : Hid (∀ V, Nw w V → P (.returned (.bool true)) V) := fun V hV => by rw [hP]; exact ⟨rfl, hV⟩
  clear hP
  obtain ⟨W0, hW0⟩ : ∃ W0, w.alloc (.cells #[.string ⟨#[112, 97, 116, 104]⟩, .string ⟨#[97]⟩] 28) = W0 := ⟨_, rfl⟩
  have hN0 : Nw w W0 := by rw [← hW0]; exact (Fr.refl _ _).alloc _
  have hlit := litP w LX
  have hpc : prC LX = #[.string ⟨#[112, 97, 116, 104]⟩, .string ⟨#[97]⟩] := rfl
  rw [hpc, hW0] at hlit
  have HPR : Hid (Calls Tryz.prog 9 #[.slice (some ⟨w.heap.size, 0, none⟩) 1 1] W0 fun e V => ∃ v, e = .returned (.tuple #[v, .int .i64 0]) ∧ Hid (Nw W0 V ∧ ∀ V', Nw V V' → (convert 32 9 v).run Tryz.prog V' = .ok (.string ⟨#[57, 32, 112, 97, 116, 104, 61, 97, 10]⟩) V')) := by
    refine (print_any W0 (hE.nw hN0) _ _ _ [LX] (hlit.slr rpOk) (by decide)).mono ?_
    rintro e V ⟨v, rfl, H⟩
    obtain ⟨h1, h2, _⟩ := H.out
    rw [lx_e]
    refine ⟨v, rfl, h1, fun V' hV' => ?_⟩
    have hs := h2 lx_e
    rw [lx_p] at hs
    exact conv_any (hs.nw hV')
  have HPA : Hid (∀ V, Calls Tryz.prog 10 #[.slice (some ⟨V.heap.size, 0, none⟩) 5 5] (V.alloc (.cells #[.int .u8 53, .int .u8 32, .int .u8 97, .int .u8 61, .int .u8 10] 5 (5, 6))) fun e V2 => ∃ g o c, e = .returned (.tuple #[.slice (some ⟨g, o, none⟩) 1 c, .int .i64 0, .int .i64 0]) ∧ Hid (Nw V V2 ∧ ∀ V3, Nw V2 V3 → V3.cell? ⟨g, o, none⟩ = some (.string ⟨#[97]⟩) ∧ V3.cell? ⟨g, o + 1, none⟩ = some (.string ⟨#[]⟩))) := fun V => by
    refine (parse_any _ _ _ _ _ (lit5 V) (by decide)).mono ?_
    rintro e V2 ⟨v, rfl, H⟩
    obtain ⟨h1, og, h2, h3⟩ := H.out
    rw [lb_p] at h2 ⊢
    obtain ⟨a', c', rfl, _, _⟩ := h2.form
    have hs := h2.slr rpOk
    obtain ⟨g, o, rfl, _, x0, x1⟩ := rp_at hs 0 (by decide)
    rw [Nat.zero_mul, Nat.add_zero] at x0 x1
    exact ⟨g, o, c', rfl, ((Fr.refl _ _).alloc _).trans h1, fun V3 h => ⟨h.cell x0, h.cell x1⟩⟩
  have HTM : Hid (∀ V, Nw w V → Calls Tryz.prog 11 #[.string ⟨#[45, 49, 46, 53]⟩] V fun e V2 => e = .returned (.tuple #[.int .i64 (-2), .int .i32 500000000, .int .i64 0]) ∧ Nw V V2) := fun V hV => by
    refine (time_any [45#8, 49#8, 46#8, 53#8] (by decide) V (hE.nw hV)).mono ?_
    rintro e V2 ⟨rfl, h⟩
    refine ⟨?_, h⟩
    unfold tmV
    rw [lt_v]
    rfl
  have HPT : Hid (∀ V, Nw w V → Calls Tryz.prog 12 #[.int .i64 (-1), .int .i32 500000000] V fun e V2 => e = .returned (.tuple #[.string ⟨#[45, 48, 46, 53]⟩, .int .i64 0]) ∧ Nw V V2) := fun V hV => by
    refine (putt_any (-1) 500000000 (by decide) (by decide) (by decide) (by decide) V (hE.nw hV)).mono ?_
    rintro e V2 ⟨rfl, h⟩
    refine ⟨?_, h⟩
    unfold ptV
    rw [lp_v]
    rfl
  have HCV : Hid (∀ V : World, (convert 32 32 (.slice (some ⟨V.heap.size, 0, none⟩) 5 5)).run Tryz.prog (V.alloc (.cells #[.int .u8 53, .int .u8 32, .int .u8 97, .int .u8 61, .int .u8 10] 5)) = .ok (.slice (some ⟨V.heap.size, 0, none⟩) 5 5) (V.alloc (.cells #[.int .u8 53, .int .u8 32, .int .u8 97, .int .u8 61, .int .u8 10] 5 (5, 6)))) := fun V => Lib.run_convert_bytes_const V 32 5 _ 5 5 Tryz.underlying32 Tryz.underlying5
  have HN0 := tHid hN0
  have HW0 := tHid hW0
  clear hlit hpc hE hN0 hW0
  go_enter Tryz.func4, Tryz.ntmps4
  go_upto_region 2 with (first | (rw [HW0.out]; go_at_call 9; with_reducible refine HPR.out.mono ?_; rintro e w1 ⟨v1, rfl, H1⟩))
  have hcv := HCV.out w1
  go_upto_region 3 with (first | (go_at_call 10; with_reducible refine (HPA.out _).mono ?_; rintro e w2 ⟨g2, o2, c2, rfl, H2⟩))
  obtain ⟨n1, p1⟩ := H1.out
  obtain ⟨n2, p2⟩ := H2.out
  have HN2 := tHid (HN0.out.trans (n1.trans n2))
  clear n1 n2 hcv HCV HPR HPA HW0
  go_upto_region 5 with (first
    | (go_at_call 11; with_reducible refine (HTM.out _ HN2.out).mono ?_; rintro e w3 ⟨rfl, H3⟩; have H3 := tHid H3)
    | (go_at_call 12; with_reducible refine (HPT.out _ (Nw.trans HN2.out H3.out)).mono ?_; rintro e w4 ⟨rfl, H4⟩; have H4 := tHid H4))
  have hcv1 := p1 w4 (H2.out.1.trans (H3.out.trans H4.out))
  obtain ⟨d0, d1⟩ := p2 w4 (H3.out.trans H4.out)
  have HF2 := tHid (HF.out w4 ((HN2.out.trans H3.out).trans H4.out))
  clear p1 p2 H1 H2 HF HTM HPT
  go_wp2_with fail
  first | exact HF2.out | (go_ret; exact HF2.out)
end Go.Proofs.YtenkchhlaphocaaGreatDoor

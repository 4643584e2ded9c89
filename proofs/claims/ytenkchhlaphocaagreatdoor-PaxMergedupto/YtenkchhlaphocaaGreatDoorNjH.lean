import Derived.Test.YtenkchhlaphocaaGreatDoorNjG
import Derived.WalkMore
namespace Go.Proofs.YtenkchhlaphocaaGreatDoor
open Go.RowKit
set_option linter.unusedVariables false
theorem nw_iterAt {w W : World} (h : Nw w W) (s : ByteArray) (pos : Nat) {k : Nat} (hk : w.heap.size ≤ k) : Nw w (W.iterAt k s pos) :=
  ⟨h.os, h.tape, h.output, by rw [Lib.iterAt_size]; exact h.size, fun i hi hx => (Lib.iterAt_other W k i s pos (by omega)).trans (h.block i hi hx)⟩
theorem q_ez : ∀ c : By, (0 ≤ Lib.indexByte EZ.data.toList (UInt8.ofBitVec c)) ↔ c = 61#8 ∨ c = 0#8 := by
  decide +kernel
theorem ix_ez (r : Nat) (h : r < 128) : 0 ≤ Lib.indexByte EZ.data.toList ((r : Int)).toNat.toUInt8 ↔ r = 61 ∨ r = 0 := by
  have e : ((r : Int)).toNat.toUInt8 = UInt8.ofBitVec (BitVec.ofNat 8 r) := by
    rw [Int.toNat_natCast]; rfl
  rw [e, q_ez]
  constructor
  · rintro (h | h)
    · left
      have := congrArg BitVec.toNat h
      rw [BitVec.toNat_ofNat, Nat.mod_eq_of_lt (by omega)] at this
      exact this
    · right
      have := congrArg BitVec.toNat h
      rw [BitVec.toNat_ofNat, Nat.mod_eq_of_lt (by omega)] at this
      exact this
  · rintro (rfl | rfl)
    · left; rfl
    · right; rfl
theorem ix_nil (c : UInt8) : Lib.indexByte (⟨#[]⟩ : ByteArray).data.toList c = -1 := by simp [Lib.indexByte]
theorem ez_dec (pos : Nat) (h : pos < 2) : Utf8.decode EZ pos = (if pos = 0 then 61 else 0, 1) := by
  have : pos = 0 ∨ pos = 1 := by omega
  rcases this with rfl | rfl
  · exact decode_ascii EZ 0 (by decide) (by decide)
  · exact decode_ascii EZ 1 (by decide) (by decide)
set_option maxHeartbeats 4000000 in
set_option maxRecDepth 100000 in
theorem irune_any (r : Nat) (h : r < 128 ∨ (128 ≤ r ∧ r ≤ 1114111 ∧ Utf8.valid (r : Int) = true)) (w : World) : Calls Tryz.prog 79 #[.string EZ, .int .i32 r] w fun e w' => ∃ v : Int, e = .returned (.int .i64 v) ∧ Hid ((0 ≤ v ↔ r = 61 ∨ r = 0) ∧ Nw w w') := by
  obtain ⟨P, hP⟩ : ∃ P : Ending → World → Prop, P = fun e w' => ∃ v : Int, e = .returned (.int .i64 v) ∧ Hid ((0 ≤ v ↔ r = 61 ∨ r = 0) ∧ Nw w w') := ⟨_, rfl⟩
  rw [← hP]
  have HF : Hid (∀ v W, (0 ≤ v ↔ r = 61 ∨ r = 0) → Nw w W → P (.returned (.int .i64 v)) W) := fun v W h1 h2 => by rw [hP]; exact ⟨v, rfl, h1, h2⟩
  clear hP
  have z0 : (0 : Int) ≤ (r : Int) := by omega
  by_cases h128 : r < 128
  · have HJ := tHid (sIb_any EZ (r : Int) w)
    have HF2 := tHid (HF.out _ w (ix_ez r h128) (Fr.refl _ _))
    have z1 : (r : Int) < 128 := by omega
    clear HF h
    generalize Lib.indexByte EZ.data.toList (r : Int).toNat.toUInt8 = v at *
    go_enter Tryz.func79, Tryz.ntmps79
    go_wp2_with (first | (go_at_call 105; with_reducible refine HJ.out.mono ?_; rintro e w1 ⟨rfl, rfl⟩))
    first | exact HF2.out | (go_ret; exact HF2.out)
  · obtain ⟨k1, k2, k3⟩ : 128 ≤ r ∧ r ≤ 1114111 ∧ Utf8.valid (r : Int) = true := by
      rcases h with h | h
      · omega
      · exact h
    have HF1 : Hid (∀ W, Nw w W → P (.returned (.int .i64 (-1))) W) := fun W hW => HF.out (-1) W ⟨fun q => by omega, fun q => by omega⟩ hW
    clear HF h
    have z1 : ¬ ((r : Int) < 128) := by omega
    have z2 : (r : Int) ≤ 1114111 := by omega
    by_cases he : r = 65533
    · subst he
      clear k1 k2 k3 z0 z1 z2 h128
      go_enter Tryz.func79, Tryz.ntmps79
      go_wp2_with fail
      go_loopg [] 2 (fun g wx => ∃ pos : Nat, pos ≤ 2 ∧ 2 ≤ pos + g ∧ Hid (wx.heap[w.heap.size]? = some (.stringIter EZ pos) ∧ Nw w wx))
      case atStart => exact ⟨0, by omega, by omega, World.iter_heap w EZ 0, (Fr.refl _ _).alloc _⟩
      case round =>
        obtain ⟨pos, hp, hfu, HV⟩ := hrel
        obtain ⟨hit, hbw⟩ := HV.out
        by_cases hlt : pos < 2
        · have hnx : ∀ ty, (Instr.next (.pointer (some ⟨w.heap.size, 0, none⟩)) true ty).run Tryz.prog wr = _ := fun ty => Lib.run_next_any_at wr w.heap.size EZ pos ty hit hlt
          rw [ez_dec pos hlt] at hnx
          have hit2 := Lib.iterAt_heap wr w.heap.size EZ pos (pos + 1) hit
          have hbw2 := nw_iterAt hbw EZ (pos + 1) (Nat.le_refl _)
          obtain ⟨W, hWd⟩ : ∃ W, wr.iterAt w.heap.size EZ (pos + 1) = W := ⟨_, rfl⟩
          obtain ⟨R, hR⟩ : ∃ R : Nat, (if pos = 0 then 61 else 0) = R := ⟨_, rfl⟩
          simp only at hnx
          rw [hWd, hR] at hnx
          rw [hWd] at hit2 hbw2
          have hRl : R ≤ 61 := by rw [← hR]; split <;> omega
          have hRn : ¬ ((R : Int) = 65533) := by omega
          have HV2 := tHid (And.intro hit2 hbw2)
          clear HV hit hbw hit2 hbw2 hWd hR HF1
          go_wp2_with fail
          go_roundg (2 - (pos + 1))
          case measure => omega
          case rel => exact ⟨pos + 1, by omega, by omega, HV2⟩
        · have hnx : ∀ ty, (Instr.next (.pointer (some ⟨w.heap.size, 0, none⟩)) true ty).run Tryz.prog wr = _ := fun ty => Lib.run_next_end_at wr w.heap.size EZ pos ty hit hlt
          have HF2 := tHid (HF1.out wr hbw)
          clear HV hit hbw HF1
          go_wp2_with fail
          first | exact HF2.out | (go_ret; exact HF2.out)
    · have z3 : ¬ ((r : Int) = 65533) := by omega
      have HVr := tHid (vrune_any r k3 w)
      have hE := enc_of r k1 k2 k3
      generalize hT : Utf8.encode (r : Int) = T at hE
      have hcv : (convert 21 9 (.int .i32 (r : Int))).run Tryz.prog w = .ok (.string T) w := by
        rw [← hT]
        simp [convert, run_underlying Tryz.underlying21, run_underlying Tryz.underlying9, Conv.intToString]
      clear hT k1 k2 k3
      rcases hE with ⟨x, y, rfl, hy⟩ | hE | hE
      · obtain ⟨T, hT⟩ : ∃ T : ByteArray, T = ⟨#[x, y]⟩ := ⟨_, rfl⟩
        have hsz : T.size = 2 := by rw [hT]; rfl
        have e1 : ∀ h, (T[1]'h).toNat = y.toNat := by subst hT; intro h; rfl
        rw [← hT] at hcv
        clear hT
        have hyn : ¬ ((0 : Int) = (y.toNat : Int)) := by omega
        have hyn2 : ¬ ((y.toNat : Int) = 0) := by omega
        have hez := ez_1 (by decide)
        have hex : EZ.extract 2 EZ.size = ⟨#[]⟩ := by decide +kernel
        have hezs := ez_size
        have hex2 : EZ.extract 2 2 = ⟨#[]⟩ := by decide +kernel
        have hz2 : decide ((2 : Int) ≤ (EZ.size : Int)) = true := by decide +kernel
        have hw2 : IntKind.i64.wrap 2 = 2 := by decide +kernel
        have hz3 : (2 : Nat) ≤ EZ.size := by decide +kernel
        have hz4 : (2 : Int) ≤ (EZ.size : Int) := by decide +kernel
        have HJ : Hid (∀ V, Calls Tryz.prog 105 #[.string ByteArray.empty, .int .u8 (y.toNat : Int)] V fun e w' => e = .returned (.int .i64 (-1)) ∧ w' = V) := fun V => (sIb_any ⟨#[]⟩ (y.toNat : Int) V).mono (fun e w' h => ⟨h.1, h.2.symm⟩)
        generalize y.toNat = Y at *
        clear hy x y
        go_enter Tryz.func79, Tryz.ntmps79
        go_wp2_with (first | (go_at_call 106; with_reducible refine HVr.out.mono ?_; rintro e w1 ⟨rfl, rfl⟩))
        go_step3
        go_wp2_with fail
        go_loopg [9] 1 (fun g v wx => v = .int .i64 1 ∧ wx = w)
        case atStart => exact ⟨rfl, rfl⟩
        case round =>
          obtain ⟨rfl, hw⟩ := hrel
          have hw' := hw.symm
          subst hw'
          clear hw HVr
          go_wp2_with fail
          go_step3
          go_upto_region 6 with fail
          go_quiet (fail)
          have HNV := tHid ((Fr.refl (fun _ => False) w).drewN nq)
          generalize w.drewN nq = V at *
          go_upto_region 7 with fail
          go_quiet (first | (go_at_call 105; refine Calls.quiet_of_same (HJ.out _)))
          go_wp2_with fail
          (try rw [Exit.noGoto_ret])
          first | exact HF1.out _ (HNV.out.drewN _) | (go_ret; exact HF1.out _ (HNV.out.drewN _))
      all_goals
        have hezs := ez_size
        go_enter Tryz.func79, Tryz.ntmps79
        go_wp2_with (first | (go_at_call 106; with_reducible refine HVr.out.mono ?_; rintro e w1 ⟨rfl, rfl⟩))
        go_step3
        go_wp2_with fail
        go_loopg [9] 1 (fun g v wx => v = .int .i64 ((T.size : Int) - 1) ∧ wx = w)
        case atStart => exact ⟨by rw [hE]; rfl, rfl⟩
        case round =>
          obtain ⟨hv, hw⟩ := hrel
          rw [hE] at hv
          have hw' := hw.symm
          subst hw'
          subst hv
          clear hw HVr
          go_wp2_with fail
          (try rw [Exit.noGoto_ret])
          first | exact HF1.out _ (Fr.refl _ _) | (go_ret; exact HF1.out _ (Fr.refl _ _))
end Go.Proofs.YtenkchhlaphocaaGreatDoor

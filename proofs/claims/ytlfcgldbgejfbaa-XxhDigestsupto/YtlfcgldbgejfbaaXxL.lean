import Derived.Test.YtlfcgldbgejfbaaXxJ
namespace Go.Proofs.Ytlfcgldbgejfbaa
open Go.RowKit
set_option linter.unusedVariables false
set_option maxHeartbeats 40000000 in
set_option maxRecDepth 100000 in
theorem joined32_any (d : Nat) (s : BitVec 32) (l : List By) (w : World) (h : Took32 d s l w) (hl : l.length < 18446744073709551616) :
    Calls Try.prog 42 #[.pointer (some ⟨d, 0, none⟩)] w fun e w' => e = .returned (.int .u32 (beg32 s l).toNat) ∧ Nw w w' := by
  obtain ⟨rest, h1, h2, h3⟩ := h
  rw [Nat.mod_eq_of_lt hl] at h2
  have c0 := h2.tot
  by_cases hs : l.length < 16
  · have cs := h2.ext h1 0 _ rfl
    rw [Nat.add_zero] at cs
    have e : Hid (((beg32 s l).toNat : Int) = ((s.toNat : Int) + 374761393) % 4294967296) := by show _ = _; rw [beg32, if_pos hs, i_add32]; rfl
    have hz : (l.length : Int) < 16 := by omega
    generalize l.length = n at *
    clear h2 h3
    go_enter Try.func42, Try.ntmps42
    go_wp2
    go_ret
    exact ⟨congrArg (fun z => Ending.returned (.int .u32 z)) (by have := e.out; omega), Fr.refl _ _⟩
  · have e : Hid (beg32 s l = join32 (str32 s l)) := by show _ = _; rw [beg32, if_neg hs]
    have hz : ¬ (l.length : Int) < 16 := by omega
    have l0 := h2.ext h1 1 _ (ext32_at0 _ _)
    have l1 := h2.ext h1 2 _ (ext32_at1 _ _)
    have l2 := h2.ext h1 3 _ (ext32_at2 _ _)
    have l3 := h2.ext h1 4 _ (ext32_at3 _ _)
    simp only [Nat.reduceAdd] at l0 l1 l2 l3
    generalize str32 s l = x at *
    have KEY : Hid (∀ w', Nw w w' → w'.cell? ⟨d, 34, none⟩ = some (.int .u32 x.a.toNat) ∧ w'.cell? ⟨d, 35, none⟩ = some (.int .u32 x.b.toNat) ∧ w'.cell? ⟨d, 36, none⟩ = some (.int .u32 x.c.toNat) ∧ w'.cell? ⟨d, 37, none⟩ = some (.int .u32 x.d.toNat)) := fun w' hN => ⟨hN.cell l0, hN.cell l1, hN.cell l2, hN.cell l3⟩
    have H0 : Hid (∀ W, Nw w W → Calls Try.prog 37 #[.int .u32 x.a.toNat, .int .i64 1] W fun e w' => e = .returned (.int .u32 (x.a.rotateLeft 1).toNat) ∧ Nw w w') := fun W hW => cbase hW (rot32_at x.a 1 _ rfl (by decide) (by decide) W)
    have H1 : Hid (∀ W, Nw w W → Calls Try.prog 37 #[.int .u32 x.b.toNat, .int .i64 7] W fun e w' => e = .returned (.int .u32 (x.b.rotateLeft 7).toNat) ∧ Nw w w') := fun W hW => cbase hW (rot32_at x.b 7 _ rfl (by decide) (by decide) W)
    have H2 : Hid (∀ W, Nw w W → Calls Try.prog 37 #[.int .u32 x.c.toNat, .int .i64 12] W fun e w' => e = .returned (.int .u32 (x.c.rotateLeft 12).toNat) ∧ Nw w w') := fun W hW => cbase hW (rot32_at x.c 12 _ rfl (by decide) (by decide) W)
    have H3 : Hid (∀ W, Nw w W → Calls Try.prog 37 #[.int .u32 x.d.toNat, .int .i64 18] W fun e w' => e = .returned (.int .u32 (x.d.rotateLeft 18).toNat) ∧ Nw w w') := fun W hW => cbase hW (rot32_at x.d 18 _ rfl (by decide) (by decide) W)
    have hE : Hid (((join32 x).toNat : Int) = ((((x.a.rotateLeft 1).toNat + (x.b.rotateLeft 7).toNat : Int) % 4294967296 + (x.c.rotateLeft 12).toNat) % 4294967296 + (x.d.rotateLeft 18).toNat) % 4294967296) := by show _ = _; rw [join32, i_add32, i_add32, i_add32]
    have e2 : Hid (beg32 s l = join32 x) := e
    generalize beg32 s l = G at *
    generalize join32 x = J at *
    generalize x.a.rotateLeft 1 = R0 at *
    generalize x.b.rotateLeft 7 = R1 at *
    generalize x.c.rotateLeft 12 = R2 at *
    generalize x.d.rotateLeft 18 = R3 at *
    generalize l.length = n at *
    clear h2 h3 e
    go_enter Try.func42, Try.ntmps42
    go_wp2_with fail
    go_region_held3 (fun w' => w'.cell? ⟨d, 34, none⟩ = some (.int .u32 x.a.toNat) ∧ w'.cell? ⟨d, 35, none⟩ = some (.int .u32 x.b.toNat) ∧ w'.cell? ⟨d, 36, none⟩ = some (.int .u32 x.c.toNat) ∧ w'.cell? ⟨d, 37, none⟩ = some (.int .u32 x.d.toNat))
      (first | exact KEY.out _ (by assumption) | exact KEY.out _ (Fr.refl _ _).drew | exact KEY.out _ (Fr.refl _ _))
      (first
        | (go_at_call 37; with_reducible refine (H0.out _ ?_).mono ?_; (first | assumption | exact (Fr.refl _ _).drew | exact Fr.refl _ _ | exact (Fr.refl _ _).drewN _); rintro e w1 ⟨rfl, hN1⟩)
        | (go_at_call 37; with_reducible refine (H1.out _ ?_).mono ?_; (first | assumption | exact (Fr.refl _ _).drew | exact Fr.refl _ _ | exact (Fr.refl _ _).drewN _); rintro e w2 ⟨rfl, hN2⟩)
        | (go_at_call 37; with_reducible refine (H2.out _ ?_).mono ?_; (first | assumption | exact (Fr.refl _ _).drew | exact Fr.refl _ _ | exact (Fr.refl _ _).drewN _); rintro e w3 ⟨rfl, hN3⟩)
        | (go_at_call 37; with_reducible refine (H3.out _ ?_).mono ?_; (first | assumption | exact (Fr.refl _ _).drew | exact Fr.refl _ _ | exact (Fr.refl _ _).drewN _); rintro e w4 ⟨rfl, hN4⟩))
    go_wp2
    go_ret
    exact ⟨congrArg (fun z => Ending.returned (.int .u32 z)) (by have := hE.out; rw [e2.out, this]; simp only [IntKind.wrap_u32]), by assumption⟩
set_option maxHeartbeats 40000000 in
set_option maxRecDepth 100000 in
theorem joined64_any (d : Nat) (s : BitVec 64) (l : List By) (w : World) (h : Took64 d s l w) (hl : l.length < 18446744073709551616) :
    Calls Try.prog 47 #[.pointer (some ⟨d, 0, none⟩)] w fun e w' => e = .returned (.int .u64 (beg64 s l).toNat) ∧ Nw w w' := by
  obtain ⟨rest, h1, h2, h3⟩ := h
  rw [Nat.mod_eq_of_lt hl] at h2
  have c0 := h2.tot
  by_cases hs : l.length < 32
  · have cs := h2.ext h1 0 _ rfl
    rw [Nat.add_zero] at cs
    have e : Hid (((beg64 s l).toNat : Int) = ((s.toNat : Int) + 2870177450012600261) % 18446744073709551616) := by show _ = _; rw [beg64, if_pos hs, i_add64]; rfl
    have hz : (l.length : Int) < 32 := by omega
    generalize l.length = n at *
    clear h2 h3
    go_enter Try.func47, Try.ntmps47
    go_wp2
    go_ret
    exact ⟨congrArg (fun z => Ending.returned (.int .u64 z)) (by have := e.out; simp only [IntKind.wrap_u64]; omega), Fr.refl _ _⟩
  · have e : Hid (beg64 s l = join64 (str64 s l)) := by show _ = _; rw [beg64, if_neg hs]
    have hz : ¬ (l.length : Int) < 32 := by omega
    have l0 := h2.ext h1 1 _ (ext64_at0 _ _)
    have l1 := h2.ext h1 2 _ (ext64_at1 _ _)
    have l2 := h2.ext h1 3 _ (ext64_at2 _ _)
    have l3 := h2.ext h1 4 _ (ext64_at3 _ _)
    simp only [Nat.reduceAdd] at l0 l1 l2 l3
    generalize str64 s l = x at *
    have KEY : Hid (∀ w', Nw w w' → w'.cell? ⟨d, 34, none⟩ = some (.int .u64 x.a.toNat) ∧ w'.cell? ⟨d, 35, none⟩ = some (.int .u64 x.b.toNat) ∧ w'.cell? ⟨d, 36, none⟩ = some (.int .u64 x.c.toNat) ∧ w'.cell? ⟨d, 37, none⟩ = some (.int .u64 x.d.toNat)) := fun w' hN => ⟨hN.cell l0, hN.cell l1, hN.cell l2, hN.cell l3⟩
    have H0 : Hid (∀ W, Nw w W → Calls Try.prog 49 #[.int .u64 x.a.toNat, .int .i64 1] W fun e w' => e = .returned (.int .u64 (x.a.rotateLeft 1).toNat) ∧ Nw w w') := fun W hW => cbase hW (rot64_at x.a 1 _ rfl (by decide) (by decide) W)
    have H1 : Hid (∀ W, Nw w W → Calls Try.prog 49 #[.int .u64 x.b.toNat, .int .i64 7] W fun e w' => e = .returned (.int .u64 (x.b.rotateLeft 7).toNat) ∧ Nw w w') := fun W hW => cbase hW (rot64_at x.b 7 _ rfl (by decide) (by decide) W)
    have H2 : Hid (∀ W, Nw w W → Calls Try.prog 49 #[.int .u64 x.c.toNat, .int .i64 12] W fun e w' => e = .returned (.int .u64 (x.c.rotateLeft 12).toNat) ∧ Nw w w') := fun W hW => cbase hW (rot64_at x.c 12 _ rfl (by decide) (by decide) W)
    have H3 : Hid (∀ W, Nw w W → Calls Try.prog 49 #[.int .u64 x.d.toNat, .int .i64 18] W fun e w' => e = .returned (.int .u64 (x.d.rotateLeft 18).toNat) ∧ Nw w w') := fun W hW => cbase hW (rot64_at x.d 18 _ rfl (by decide) (by decide) W)
    have hE : Hid (((joi64 x).toNat : Int) = ((((x.a.rotateLeft 1).toNat + (x.b.rotateLeft 7).toNat : Int) % 18446744073709551616 + (x.c.rotateLeft 12).toNat) % 18446744073709551616 + (x.d.rotateLeft 18).toNat) % 18446744073709551616) := by show _ = _; rw [joi64, i_add64, i_add64, i_add64]
    have e2 : Hid (beg64 s l = jo64 (jo64 (jo64 (jo64 (joi64 x) x.a) x.b) x.c) x.d) := e
    generalize beg64 s l = G at *
    generalize joi64 x = J at *
    generalize x.a.rotateLeft 1 = R0 at *
    generalize x.b.rotateLeft 7 = R1 at *
    generalize x.c.rotateLeft 12 = R2 at *
    generalize x.d.rotateLeft 18 = R3 at *
    generalize l.length = n at *
    clear h2 h3 e
    go_enter Try.func47, Try.ntmps47
    go_wp2_with fail
    go_region_held3 (fun w' => w'.cell? ⟨d, 34, none⟩ = some (.int .u64 x.a.toNat) ∧ w'.cell? ⟨d, 35, none⟩ = some (.int .u64 x.b.toNat) ∧ w'.cell? ⟨d, 36, none⟩ = some (.int .u64 x.c.toNat) ∧ w'.cell? ⟨d, 37, none⟩ = some (.int .u64 x.d.toNat))
      (first | exact KEY.out _ (by assumption) | exact KEY.out _ (Fr.refl _ _).drew | exact KEY.out _ (Fr.refl _ _))
      (first
        | (go_at_call 49; with_reducible refine (H0.out _ ?_).mono ?_; (first | assumption | exact (Fr.refl _ _).drew | exact Fr.refl _ _ | exact (Fr.refl _ _).drewN _); rintro e w1 ⟨rfl, hN1⟩)
        | (go_at_call 49; with_reducible refine (H1.out _ ?_).mono ?_; (first | assumption | exact (Fr.refl _ _).drew | exact Fr.refl _ _ | exact (Fr.refl _ _).drewN _); rintro e w2 ⟨rfl, hN2⟩)
        | (go_at_call 49; with_reducible refine (H2.out _ ?_).mono ?_; (first | assumption | exact (Fr.refl _ _).drew | exact Fr.refl _ _ | exact (Fr.refl _ _).drewN _); rintro e w3 ⟨rfl, hN3⟩)
        | (go_at_call 49; with_reducible refine (H3.out _ ?_).mono ?_; (first | assumption | exact (Fr.refl _ _).drew | exact Fr.refl _ _ | exact (Fr.refl _ _).drewN _); rintro e w4 ⟨rfl, hN4⟩))
    have HJ : Hid (∀ (v : BitVec 64) W, Nw w W → Calls Try.prog 40 #[.int .u64 0, .int .u64 v.toNat] W fun e w' => e = .returned (.int .u64 (rd64 0#64 v).toNat) ∧ Nw w w') := fun v W hW => cbase hW (round_at 0#64 v _ _ rfl rfl W)
    have HS : Hid (∀ (h v : BitVec 64), ((jo64 h v).toNat : Int) = IntKind.u64.wrap (IntKind.u64.wrap (bits .xor .u64 (h.toNat : Int) ((rd64 0#64 v).toNat : Int) * 11400714785074694791) + 9650029242287828579)) := by
      intro h v
      rw [jo64, i_add64, i_mul64, i_xor64, IntKind.wrap_u64, IntKind.wrap_u64]; rfl
    have hJ : Hid ((J.toNat : Int) = IntKind.u64.wrap (IntKind.u64.wrap (IntKind.u64.wrap ((R0.toNat : Int) + R1.toNat) + R2.toNat) + R3.toNat)) := by
      show _ = _
      rw [IntKind.wrap_u64, IntKind.wrap_u64, IntKind.wrap_u64]; exact hE.out
    have hix0 : ∀ w, (Instr.index 58 (.agg #[.int .u64 x.a.toNat, .int .u64 x.b.toNat, .int .u64 x.c.toNat, .int .u64 x.d.toNat]) (.int .i64 0)).run Try.prog w = .ok (.int .u64 x.a.toNat) w := fun _ => by kernel_rfl
    have hix1 : ∀ w, (Instr.index 58 (.agg #[.int .u64 x.a.toNat, .int .u64 x.b.toNat, .int .u64 x.c.toNat, .int .u64 x.d.toNat]) (.int .i64 1)).run Try.prog w = .ok (.int .u64 x.b.toNat) w := fun _ => by kernel_rfl
    have hix2 : ∀ w, (Instr.index 58 (.agg #[.int .u64 x.a.toNat, .int .u64 x.b.toNat, .int .u64 x.c.toNat, .int .u64 x.d.toNat]) (.int .i64 2)).run Try.prog w = .ok (.int .u64 x.c.toNat) w := fun _ => by kernel_rfl
    have hix3 : ∀ w, (Instr.index 58 (.agg #[.int .u64 x.a.toNat, .int .u64 x.b.toNat, .int .u64 x.c.toNat, .int .u64 x.d.toNat]) (.int .i64 3)).run Try.prog w = .ok (.int .u64 x.d.toNat) w := fun _ => by kernel_rfl
    rw [← hJ.out]
    obtain ⟨m0, m1, m2, m3⟩ := KEY.out w4 hN4
    go_wp2
    have HN4 : Hid (Nw w w4) := hN4
    clear m0 m1 m2 m3 hN1 hN2 hN3 hN4 l0 l1 l2 l3 c0
    go_loopg [3, 48] 4 (fun kx h t wr => ∃ (i : Nat) (z : Int) (H : BitVec 64), i ≤ 4 ∧ 4 - i ≤ kx ∧ t = .int .i64 z ∧ z = i ∧ h = .int .u64 H.toNat ∧ Hid (H = joN x J i) ∧ Nw w wr)
    case atStart => exact ⟨0, 0, J, by decide, by decide, rfl, rfl, rfl, rfl, HN4.out⟩
    case round =>
      obtain ⟨i, z, H, hi, hkx, rfl, hz', rfl, hH, hN⟩ := hrel
      by_cases hlt : i < 4
      · obtain rfl | rfl | rfl | rfl : i = 0 ∨ i = 1 ∨ i = 2 ∨ i = 3 := by omega
        · obtain rfl : z = 0 := hz'
          go_wp2_with (go_at_call 40; with_reducible refine (HJ.out x.a _ hN).mono ?_; rintro e w5 ⟨rfl, hN5⟩)
          go_roundg 3
          case measure => omega
          case rel => exact ⟨1, 1, jo64 H x.a, by decide, by decide, rfl, rfl, by rw [HS.out H x.a], (by show _ = _; rw [hH.out]; rfl), hN5⟩
        · obtain rfl : z = 1 := hz'
          go_wp2_with (go_at_call 40; with_reducible refine (HJ.out x.b _ hN).mono ?_; rintro e w5 ⟨rfl, hN5⟩)
          go_roundg 2
          case measure => omega
          case rel => exact ⟨2, 2, jo64 H x.b, by decide, by decide, rfl, rfl, by rw [HS.out H x.b], (by show _ = _; rw [hH.out]; rfl), hN5⟩
        · obtain rfl : z = 2 := hz'
          go_wp2_with (go_at_call 40; with_reducible refine (HJ.out x.c _ hN).mono ?_; rintro e w5 ⟨rfl, hN5⟩)
          go_roundg 1
          case measure => omega
          case rel => exact ⟨3, 3, jo64 H x.c, by decide, by decide, rfl, rfl, by rw [HS.out H x.c], (by show _ = _; rw [hH.out]; rfl), hN5⟩
        · obtain rfl : z = 3 := hz'
          go_wp2_with (go_at_call 40; with_reducible refine (HJ.out x.d _ hN).mono ?_; rintro e w5 ⟨rfl, hN5⟩)
          go_roundg 0
          case measure => omega
          case rel => exact ⟨4, 4, jo64 H x.d, by decide, by decide, rfl, rfl, by rw [HS.out H x.d], (by show _ = _; rw [hH.out]; rfl), hN5⟩
      · obtain rfl : i = 4 := by omega
        obtain rfl : z = 4 := hz'
        go_wp2
        go_ret
        exact ⟨by have := hH.out; rw [e2.out, this]; rfl, hN⟩
end Go.Proofs.Ytlfcgldbgejfbaa

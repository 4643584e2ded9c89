import Derived.Test.YtlfcgldbgejfbaaXxE
namespace Go.Proofs.Ytlfcgldbgejfbaa
open Go.RowKit
set_option linter.unusedVariables false

set_option maxHeartbeats 40000000 in
set_option maxRecDepth 100000 in
theorem mix64_any (bx d tot : Nat) (rest : List By) (hr : rest.length = 32) (s : BitVec 64) (x : La 64) (g : Nat) (u : Value) (p : List By) (hp : p.length = 32) (w : World)
    (hb : w.cell? ⟨bx, 0, none⟩ = some (.pointer (some ⟨d, 0, none⟩))) (hbd : bx ≠ d) (h : DB 68 d tot rest (ext64 s x) w) (hu : Rp d g u p w) :
    Calls Try.prog 39 #[u, .pointer (some ⟨bx, 0, none⟩)] w fun e w' => (∃ r, e = .returned r) ∧ DB 68 d tot rest (ext64 s (mix64 x p)) w' ∧ Fr (fun k => k = d) w w' := by
  obtain ⟨o, c, rfl, hc, hc2, hrd, hap⟩ := hu
  have l0 := h.ext hr 1 _ (ext64_at0 _ _)
  have l1 := h.ext hr 2 _ (ext64_at1 _ _)
  have l2 := h.ext hr 3 _ (ext64_at2 _ _)
  have l3 := h.ext hr 4 _ (ext64_at3 _ _)
  simp only [Nat.reduceAdd] at l0 l1 l2 l3
  have HB : Hid (∀ W, Fr (fun k => k = d) w W → W.cell? ⟨bx, 0, none⟩ = some (.pointer (some ⟨d, 0, none⟩))) := fun W hW => hW.cellv hb hbd
  have HRD : Hid (∀ W e, Fr (fun k => k = d) w W → DB 68 d tot rest e W → Rd g o p W) := fun W e hW hd => Rd.lane hr h hd hW hrd hap
  have H0 : Hid (DB 68 d tot rest (ext64 s (La.upto x (mix64 x p) 0)) w ∧ Fr (fun k => k = d) w w) := ⟨by rw [La.upto0]; exact h, Fr.refl _ _⟩
  rw [hp] at hc ⊢
  have hap' : Hid (g ≠ d ∨ o + p.length ≤ 33) := hap
  have hr' : Hid (rest.length = 32) := hr
  have hp' : Hid (p.length = 32) := hp
  clear h hrd hap hr hp
  generalize hy : mix64 x p = y at *
  have hy : Hid (mix64 x p = y) := hy
  go_enter Try.func39, Try.ntmps39
  go_wp2
  clear l0 l1 l2 l3 hb
  go_loopg [9] 4 (fun kx t wr => ∃ (i : Nat) (z : Int), i ≤ 4 ∧ 4 - i ≤ kx ∧ t = .int .i64 z ∧ z = i ∧ Hid (DB 68 d tot rest (ext64 s (La.upto x y i)) wr ∧ Fr (fun k => k = d) w wr))
  case atStart => exact ⟨0, 0, by decide, by decide, rfl, rfl, H0⟩
  case round =>
    obtain ⟨i, z, hi, hkx, rfl, hz, HI⟩ := hrel
    obtain ⟨hD, hF⟩ := HI.out
    have hb := HB.out wr hF
    have hrd := HRD.out wr _ hF hD
    by_cases hlt : i < 4
    · obtain rfl | rfl | rfl | rfl : i = 0 ∨ i = 1 ∨ i = 2 ∨ i = 3 := by omega
      · obtain rfl : z = 0 := hz
        have hl0 := hD.ext hr'.out 1 _ (ext64_at0 _ _)
        simp only [Nat.reduceAdd] at hl0
        rw [upto_at0] at hl0
        have KEY : Hid (∀ w', Nw wr w' → w'.cell? ⟨bx, 0, none⟩ = some (.pointer (some ⟨d, 0, none⟩)) ∧ w'.frozen? ⟨d, 34, none⟩ = false ∧ w'.cell? ⟨d, 34, none⟩ = some (ldc w' ⟨d, 34, none⟩)) := fun w' hN => ⟨hN.cell hb, (hD.nw hN).frozen _, ldc_of (hN.cell hl0)⟩
        have KEY2 : Hid (∀ w' v, Nw wr w' → (w'.setCell ⟨d, 34, none⟩ v).cell? ⟨bx, 0, none⟩ = some (.pointer (some ⟨d, 0, none⟩)) ∧ (w'.setCell ⟨d, 34, none⟩ v).frozen? ⟨d, 34, none⟩ = false ∧ (w'.setCell ⟨d, 34, none⟩ v).cell? ⟨d, 34, none⟩ = some (ldc (w'.setCell ⟨d, 34, none⟩ v) ⟨d, 34, none⟩)) := fun w' v hN => ⟨((Fr.refl (fun k => k = d) w').setCell ⟨d, 34, none⟩ v (.inl rfl)).cellv (hN.cell hb) hbd, ((hD.nw hN).set hr'.out 1 v).frozen _, ldc_of (((hD.nw hN).set hr'.out 1 v).ext hr'.out 1 _ (ext64_get0 _ _ _))⟩
        have hnc : ¬ c = 0 := by omega
        have hwr : IntKind.i64.wrap 0 = 0 := by decide
        have hcz : (0 : Int) ≤ (c : Int) := by omega
        have HL : Hid (∀ W, Nw wr W → Calls Try.prog 41 #[.slice (some ⟨g, o, none⟩) 32 c] W fun e w' => e = .returned (.int .u64 (lo64 (p.drop 0)).toNat) ∧ Nw wr w') := fun W hW => cbase hW (low64_any g _ _ _ ⟨o, c, by simp [hp'.out], by simp [hp'.out]; omega, by omega, hrd.nw hW⟩ (by simp [hp'.out]))
        have HR : Hid (∀ W, Nw wr W → Calls Try.prog 40 #[.int .u64 x.a.toNat, .int .u64 (lo64 (p.drop 0)).toNat] W fun e w' => e = .returned (.int .u64 (rd64 x.a (lo64 (p.drop 0))).toNat) ∧ Nw wr w') := fun W hW => cbase hW (round_at _ _ _ _ rfl rfl W)
        have hE : Hid ((y.a.toNat : Int) = (rd64 x.a (lo64 (p.drop 0))).toNat) := by show _ = _; rw [← hy.out]; rfl
        generalize rd64 x.a (lo64 (p.drop 0)) = R at *
        generalize lo64 (p.drop 0) = A at *
        have FIN : Hid (∀ W v, Nw wr W → v = (y.a.toNat : Int) → DB 68 d tot rest (ext64 s (La.upto x y 1)) (W.setCell ⟨d, 34, none⟩ (.int .u64 v)) ∧ Fr (fun k => k = d) w (W.setCell ⟨d, 34, none⟩ (.int .u64 v))) := by
          intro W v hW hv
          subst hv
          exact ⟨by have := (hD.nw hW).set hr'.out 1 (.int .u64 y.a.toNat); rw [ext64_set0] at this; exact this, (hF.trans hW.any).setCell _ _ (.inl rfl)⟩
        clear hD hF HI hrd
        have hix : ∀ w, (Instr.index 58 (.agg #[.int .u64 x.a.toNat, .int .u64 x.b.toNat, .int .u64 x.c.toNat, .int .u64 x.d.toNat]) (.int .i64 0)).run Try.prog w = .ok (.int .u64 x.a.toNat) w := fun _ => by kernel_rfl
        go_wp2_with fail
        go_region_held3 (fun w' => w'.cell? ⟨bx, 0, none⟩ = some (.pointer (some ⟨d, 0, none⟩)) ∧ w'.frozen? ⟨d, 34, none⟩ = false ∧ w'.cell? ⟨d, 34, none⟩ = some (ldc w' ⟨d, 34, none⟩))
          (first | exact KEY.out _ (by assumption) | exact KEY2.out _ _ (by assumption) | exact KEY.out _ (Fr.refl _ _).drew | exact KEY.out _ (Fr.refl _ _))
          (first
            | (go_at_call 41; with_reducible refine (HL.out _ ?_).mono ?_; (first | assumption | exact (Fr.refl _ _).drew | exact Fr.refl _ _); rintro e w1 ⟨rfl, hN1⟩)
            | (go_at_call 40; with_reducible refine (HR.out _ ?_).mono ?_; (first | assumption | exact (Fr.refl _ _).drew | exact Fr.refl _ _); rintro e w2 ⟨rfl, hN2⟩))
        go_wp2
        go_roundg 3
        case measure => omega
        case rel => exact ⟨1, 1, by decide, by decide, rfl, rfl, FIN.out _ _ (by assumption) (by rw [hE.out])⟩
      · obtain rfl : z = 1 := hz
        have hl0 := hD.ext hr'.out 2 _ (ext64_at1 _ _)
        simp only [Nat.reduceAdd] at hl0
        rw [upto_at1] at hl0
        have KEY : Hid (∀ w', Nw wr w' → w'.cell? ⟨bx, 0, none⟩ = some (.pointer (some ⟨d, 0, none⟩)) ∧ w'.frozen? ⟨d, 35, none⟩ = false ∧ w'.cell? ⟨d, 35, none⟩ = some (ldc w' ⟨d, 35, none⟩)) := fun w' hN => ⟨hN.cell hb, (hD.nw hN).frozen _, ldc_of (hN.cell hl0)⟩
        have KEY2 : Hid (∀ w' v, Nw wr w' → (w'.setCell ⟨d, 35, none⟩ v).cell? ⟨bx, 0, none⟩ = some (.pointer (some ⟨d, 0, none⟩)) ∧ (w'.setCell ⟨d, 35, none⟩ v).frozen? ⟨d, 35, none⟩ = false ∧ (w'.setCell ⟨d, 35, none⟩ v).cell? ⟨d, 35, none⟩ = some (ldc (w'.setCell ⟨d, 35, none⟩ v) ⟨d, 35, none⟩)) := fun w' v hN => ⟨((Fr.refl (fun k => k = d) w').setCell ⟨d, 35, none⟩ v (.inl rfl)).cellv (hN.cell hb) hbd, ((hD.nw hN).set hr'.out 2 v).frozen _, ldc_of (((hD.nw hN).set hr'.out 2 v).ext hr'.out 2 _ (ext64_get1 _ _ _))⟩
        have hnc : ¬ c = 8 := by omega
        have hwr : IntKind.i64.wrap 8 = 8 := by decide
        have hcz : (8 : Int) ≤ (c : Int) := by omega
        have HL : Hid (∀ W, Nw wr W → Calls Try.prog 41 #[.slice (some ⟨g, o + 8, none⟩) 24 (c - 8)] W fun e w' => e = .returned (.int .u64 (lo64 (p.drop 8)).toNat) ∧ Nw wr w') := fun W hW => cbase hW (low64_any g _ _ _ ⟨o + 8, c - 8, by simp [hp'.out], by simp [hp'.out]; omega, by omega, (hrd.nw hW).drop 8⟩ (by simp [hp'.out]))
        have HR : Hid (∀ W, Nw wr W → Calls Try.prog 40 #[.int .u64 x.b.toNat, .int .u64 (lo64 (p.drop 8)).toNat] W fun e w' => e = .returned (.int .u64 (rd64 x.b (lo64 (p.drop 8))).toNat) ∧ Nw wr w') := fun W hW => cbase hW (round_at _ _ _ _ rfl rfl W)
        have hE : Hid ((y.b.toNat : Int) = (rd64 x.b (lo64 (p.drop 8))).toNat) := by show _ = _; rw [← hy.out]; rfl
        generalize rd64 x.b (lo64 (p.drop 8)) = R at *
        generalize lo64 (p.drop 8) = A at *
        have FIN : Hid (∀ W v, Nw wr W → v = (y.b.toNat : Int) → DB 68 d tot rest (ext64 s (La.upto x y 2)) (W.setCell ⟨d, 35, none⟩ (.int .u64 v)) ∧ Fr (fun k => k = d) w (W.setCell ⟨d, 35, none⟩ (.int .u64 v))) := by
          intro W v hW hv
          subst hv
          exact ⟨by have := (hD.nw hW).set hr'.out 2 (.int .u64 y.b.toNat); rw [ext64_set1] at this; exact this, (hF.trans hW.any).setCell _ _ (.inl rfl)⟩
        clear hD hF HI hrd
        have hix : ∀ w, (Instr.index 58 (.agg #[.int .u64 x.a.toNat, .int .u64 x.b.toNat, .int .u64 x.c.toNat, .int .u64 x.d.toNat]) (.int .i64 1)).run Try.prog w = .ok (.int .u64 x.b.toNat) w := fun _ => by kernel_rfl
        go_wp2_with fail
        go_region_held3 (fun w' => w'.cell? ⟨bx, 0, none⟩ = some (.pointer (some ⟨d, 0, none⟩)) ∧ w'.frozen? ⟨d, 35, none⟩ = false ∧ w'.cell? ⟨d, 35, none⟩ = some (ldc w' ⟨d, 35, none⟩))
          (first | exact KEY.out _ (by assumption) | exact KEY2.out _ _ (by assumption) | exact KEY.out _ (Fr.refl _ _).drew | exact KEY.out _ (Fr.refl _ _))
          (first
            | (go_at_call 41; with_reducible refine (HL.out _ ?_).mono ?_; (first | assumption | exact (Fr.refl _ _).drew | exact Fr.refl _ _); rintro e w1 ⟨rfl, hN1⟩)
            | (go_at_call 40; with_reducible refine (HR.out _ ?_).mono ?_; (first | assumption | exact (Fr.refl _ _).drew | exact Fr.refl _ _); rintro e w2 ⟨rfl, hN2⟩))
        go_wp2
        go_roundg 2
        case measure => omega
        case rel => exact ⟨2, 2, by decide, by decide, rfl, rfl, FIN.out _ _ (by assumption) (by rw [hE.out])⟩
      · obtain rfl : z = 2 := hz
        have hl0 := hD.ext hr'.out 3 _ (ext64_at2 _ _)
        simp only [Nat.reduceAdd] at hl0
        rw [upto_at2] at hl0
        have KEY : Hid (∀ w', Nw wr w' → w'.cell? ⟨bx, 0, none⟩ = some (.pointer (some ⟨d, 0, none⟩)) ∧ w'.frozen? ⟨d, 36, none⟩ = false ∧ w'.cell? ⟨d, 36, none⟩ = some (ldc w' ⟨d, 36, none⟩)) := fun w' hN => ⟨hN.cell hb, (hD.nw hN).frozen _, ldc_of (hN.cell hl0)⟩
        have KEY2 : Hid (∀ w' v, Nw wr w' → (w'.setCell ⟨d, 36, none⟩ v).cell? ⟨bx, 0, none⟩ = some (.pointer (some ⟨d, 0, none⟩)) ∧ (w'.setCell ⟨d, 36, none⟩ v).frozen? ⟨d, 36, none⟩ = false ∧ (w'.setCell ⟨d, 36, none⟩ v).cell? ⟨d, 36, none⟩ = some (ldc (w'.setCell ⟨d, 36, none⟩ v) ⟨d, 36, none⟩)) := fun w' v hN => ⟨((Fr.refl (fun k => k = d) w').setCell ⟨d, 36, none⟩ v (.inl rfl)).cellv (hN.cell hb) hbd, ((hD.nw hN).set hr'.out 3 v).frozen _, ldc_of (((hD.nw hN).set hr'.out 3 v).ext hr'.out 3 _ (ext64_get2 _ _ _))⟩
        have hnc : ¬ c = 16 := by omega
        have hwr : IntKind.i64.wrap 16 = 16 := by decide
        have hcz : (16 : Int) ≤ (c : Int) := by omega
        have HL : Hid (∀ W, Nw wr W → Calls Try.prog 41 #[.slice (some ⟨g, o + 16, none⟩) 16 (c - 16)] W fun e w' => e = .returned (.int .u64 (lo64 (p.drop 16)).toNat) ∧ Nw wr w') := fun W hW => cbase hW (low64_any g _ _ _ ⟨o + 16, c - 16, by simp [hp'.out], by simp [hp'.out]; omega, by omega, (hrd.nw hW).drop 16⟩ (by simp [hp'.out]))
        have HR : Hid (∀ W, Nw wr W → Calls Try.prog 40 #[.int .u64 x.c.toNat, .int .u64 (lo64 (p.drop 16)).toNat] W fun e w' => e = .returned (.int .u64 (rd64 x.c (lo64 (p.drop 16))).toNat) ∧ Nw wr w') := fun W hW => cbase hW (round_at _ _ _ _ rfl rfl W)
        have hE : Hid ((y.c.toNat : Int) = (rd64 x.c (lo64 (p.drop 16))).toNat) := by show _ = _; rw [← hy.out]; rfl
        generalize rd64 x.c (lo64 (p.drop 16)) = R at *
        generalize lo64 (p.drop 16) = A at *
        have FIN : Hid (∀ W v, Nw wr W → v = (y.c.toNat : Int) → DB 68 d tot rest (ext64 s (La.upto x y 3)) (W.setCell ⟨d, 36, none⟩ (.int .u64 v)) ∧ Fr (fun k => k = d) w (W.setCell ⟨d, 36, none⟩ (.int .u64 v))) := by
          intro W v hW hv
          subst hv
          exact ⟨by have := (hD.nw hW).set hr'.out 3 (.int .u64 y.c.toNat); rw [ext64_set2] at this; exact this, (hF.trans hW.any).setCell _ _ (.inl rfl)⟩
        clear hD hF HI hrd
        have hix : ∀ w, (Instr.index 58 (.agg #[.int .u64 x.a.toNat, .int .u64 x.b.toNat, .int .u64 x.c.toNat, .int .u64 x.d.toNat]) (.int .i64 2)).run Try.prog w = .ok (.int .u64 x.c.toNat) w := fun _ => by kernel_rfl
        go_wp2_with fail
        go_region_held3 (fun w' => w'.cell? ⟨bx, 0, none⟩ = some (.pointer (some ⟨d, 0, none⟩)) ∧ w'.frozen? ⟨d, 36, none⟩ = false ∧ w'.cell? ⟨d, 36, none⟩ = some (ldc w' ⟨d, 36, none⟩))
          (first | exact KEY.out _ (by assumption) | exact KEY2.out _ _ (by assumption) | exact KEY.out _ (Fr.refl _ _).drew | exact KEY.out _ (Fr.refl _ _))
          (first
            | (go_at_call 41; with_reducible refine (HL.out _ ?_).mono ?_; (first | assumption | exact (Fr.refl _ _).drew | exact Fr.refl _ _); rintro e w1 ⟨rfl, hN1⟩)
            | (go_at_call 40; with_reducible refine (HR.out _ ?_).mono ?_; (first | assumption | exact (Fr.refl _ _).drew | exact Fr.refl _ _); rintro e w2 ⟨rfl, hN2⟩))
        go_wp2
        go_roundg 1
        case measure => omega
        case rel => exact ⟨3, 3, by decide, by decide, rfl, rfl, FIN.out _ _ (by assumption) (by rw [hE.out])⟩
      · obtain rfl : z = 3 := hz
        have hl0 := hD.ext hr'.out 4 _ (ext64_at3 _ _)
        simp only [Nat.reduceAdd] at hl0
        rw [upto_at3] at hl0
        have KEY : Hid (∀ w', Nw wr w' → w'.cell? ⟨bx, 0, none⟩ = some (.pointer (some ⟨d, 0, none⟩)) ∧ w'.frozen? ⟨d, 37, none⟩ = false ∧ w'.cell? ⟨d, 37, none⟩ = some (ldc w' ⟨d, 37, none⟩)) := fun w' hN => ⟨hN.cell hb, (hD.nw hN).frozen _, ldc_of (hN.cell hl0)⟩
        have KEY2 : Hid (∀ w' v, Nw wr w' → (w'.setCell ⟨d, 37, none⟩ v).cell? ⟨bx, 0, none⟩ = some (.pointer (some ⟨d, 0, none⟩)) ∧ (w'.setCell ⟨d, 37, none⟩ v).frozen? ⟨d, 37, none⟩ = false ∧ (w'.setCell ⟨d, 37, none⟩ v).cell? ⟨d, 37, none⟩ = some (ldc (w'.setCell ⟨d, 37, none⟩ v) ⟨d, 37, none⟩)) := fun w' v hN => ⟨((Fr.refl (fun k => k = d) w').setCell ⟨d, 37, none⟩ v (.inl rfl)).cellv (hN.cell hb) hbd, ((hD.nw hN).set hr'.out 4 v).frozen _, ldc_of (((hD.nw hN).set hr'.out 4 v).ext hr'.out 4 _ (ext64_get3 _ _ _))⟩
        have hnc : ¬ c = 24 := by omega
        have hwr : IntKind.i64.wrap 24 = 24 := by decide
        have hcz : (24 : Int) ≤ (c : Int) := by omega
        have HL : Hid (∀ W, Nw wr W → Calls Try.prog 41 #[.slice (some ⟨g, o + 24, none⟩) 8 (c - 24)] W fun e w' => e = .returned (.int .u64 (lo64 (p.drop 24)).toNat) ∧ Nw wr w') := fun W hW => cbase hW (low64_any g _ _ _ ⟨o + 24, c - 24, by simp [hp'.out], by simp [hp'.out]; omega, by omega, (hrd.nw hW).drop 24⟩ (by simp [hp'.out]))
        have HR : Hid (∀ W, Nw wr W → Calls Try.prog 40 #[.int .u64 x.d.toNat, .int .u64 (lo64 (p.drop 24)).toNat] W fun e w' => e = .returned (.int .u64 (rd64 x.d (lo64 (p.drop 24))).toNat) ∧ Nw wr w') := fun W hW => cbase hW (round_at _ _ _ _ rfl rfl W)
        have hE : Hid ((y.d.toNat : Int) = (rd64 x.d (lo64 (p.drop 24))).toNat) := by show _ = _; rw [← hy.out]; rfl
        generalize rd64 x.d (lo64 (p.drop 24)) = R at *
        generalize lo64 (p.drop 24) = A at *
        have FIN : Hid (∀ W v, Nw wr W → v = (y.d.toNat : Int) → DB 68 d tot rest (ext64 s (La.upto x y 4)) (W.setCell ⟨d, 37, none⟩ (.int .u64 v)) ∧ Fr (fun k => k = d) w (W.setCell ⟨d, 37, none⟩ (.int .u64 v))) := by
          intro W v hW hv
          subst hv
          exact ⟨by have := (hD.nw hW).set hr'.out 4 (.int .u64 y.d.toNat); rw [ext64_set3] at this; exact this, (hF.trans hW.any).setCell _ _ (.inl rfl)⟩
        clear hD hF HI hrd
        have hix : ∀ w, (Instr.index 58 (.agg #[.int .u64 x.a.toNat, .int .u64 x.b.toNat, .int .u64 x.c.toNat, .int .u64 x.d.toNat]) (.int .i64 3)).run Try.prog w = .ok (.int .u64 x.d.toNat) w := fun _ => by kernel_rfl
        go_wp2_with fail
        go_region_held3 (fun w' => w'.cell? ⟨bx, 0, none⟩ = some (.pointer (some ⟨d, 0, none⟩)) ∧ w'.frozen? ⟨d, 37, none⟩ = false ∧ w'.cell? ⟨d, 37, none⟩ = some (ldc w' ⟨d, 37, none⟩))
          (first | exact KEY.out _ (by assumption) | exact KEY2.out _ _ (by assumption) | exact KEY.out _ (Fr.refl _ _).drew | exact KEY.out _ (Fr.refl _ _))
          (first
            | (go_at_call 41; with_reducible refine (HL.out _ ?_).mono ?_; (first | assumption | exact (Fr.refl _ _).drew | exact Fr.refl _ _); rintro e w1 ⟨rfl, hN1⟩)
            | (go_at_call 40; with_reducible refine (HR.out _ ?_).mono ?_; (first | assumption | exact (Fr.refl _ _).drew | exact Fr.refl _ _); rintro e w2 ⟨rfl, hN2⟩))
        go_wp2
        go_roundg 0
        case measure => omega
        case rel => exact ⟨4, 4, by decide, by decide, rfl, rfl, FIN.out _ _ (by assumption) (by rw [hE.out])⟩
    · obtain rfl : i = 4 := by omega
      obtain rfl : z = 4 := hz
      clear hD hF hrd hb
      go_wp2
      go_end0
      exact ⟨⟨_, rfl⟩, by have := HI.out.1; rw [La.upto4] at this; exact this, HI.out.2⟩
end Go.Proofs.Ytlfcgldbgejfbaa

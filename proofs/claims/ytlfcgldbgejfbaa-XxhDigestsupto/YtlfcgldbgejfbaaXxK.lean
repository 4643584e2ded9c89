import Derived.Test.YtlfcgldbgejfbaaXxJ
import Derived.Deep.RegionWith
namespace Go.Proofs.Ytlfcgldbgejfbaa
open Go.RowKit
set_option linter.unusedVariables false
/-- A captured variable. -/
def Box (T b : Nat) (v : Value) (w : World) : Prop := w.heap[b]? = some (.cells #[v] T)
theorem Box.kept {T b : Nat} {v : Value} {w w' : World} {X : Nat → Prop} (h : Box T b v w) (f : Fr X w w') (hx : ¬ X b) : Box T b v w' := (f.block b (Array.getElem?_eq_some_iff.1 h).1 hx).trans h
theorem Box.nw {T b : Nat} {v : Value} {w w' : World} (h : Box T b v w) (f : Nw w w') : Box T b v w' := h.kept f (fun h => h)
theorem Box.cell {T b : Nat} {v : Value} {w : World} (h : Box T b v w) : w.cell? ⟨b, 0, none⟩ = some v ∧ w.frozen? ⟨b, 0, none⟩ = false := box_cell h
theorem Box.set {T b : Nat} {v : Value} {w : World} (h : Box T b v w) (u : Value) : Box T b u (w.setCell ⟨b, 0, none⟩ u) := one_setCell h
set_option maxHeartbeats 40000000 in
theorem wd32_any (bh : Nat) (h : BitVec 32) (g : Nat) (u : Value) (p : List By) (hp : 4 ≤ p.length) (w : World) (hb : Box 22 bh (.int .u32 h.toNat) w) (hu : SlB g u p w) :
    Calls Try.prog 45 #[u, .pointer (some ⟨bh, 0, none⟩)] w fun e w' => (∃ r, e = .returned r) ∧ Box 22 bh (.int .u32 (wd32 h p).toNat) w' ∧ Fr (fun k => k = bh) w w' := by
  have HL : Hid (∀ W, Nw w W → Calls Try.prog 38 #[u] W fun e w' => e = .returned (.int .u32 (lo32 p).toNat) ∧ Nw w w') := fun W hW => cbase hW (low32_any g u p W (hu.kept hW (fun h => h)) hp)
  have HR : Hid (∀ z W, z = ((h.toNat : Int) + (lo32 p).toNat * 3266489917) % 4294967296 → Nw w W → Calls Try.prog 37 #[.int .u32 z, .int .i64 17] W fun e w' => e = .returned (.int .u32 ((h + lo32 p * 3266489917#32).rotateLeft 17).toNat) ∧ Nw w w') := fun z W hz hW => cbase hW (rot32_at _ 17 z (hz.trans (by rw [i_add32, i_mul32]; simp)) (by decide) (by decide) W)
  have hE : Hid (((wd32 h p).toNat : Int) = (((h + lo32 p * 3266489917#32).rotateLeft 17).toNat * 668265263 : Int) % 4294967296) := by show _ = _; rw [wd32, i_mul32]; rfl
  have HB : Hid (∀ W, Nw w W → W.cell? ⟨bh, 0, none⟩ = some (.int .u32 h.toNat) ∧ W.frozen? ⟨bh, 0, none⟩ = false) := fun W hW => (hb.nw hW).cell
  have FIN : Hid (∀ W v, Nw w W → v = ((wd32 h p).toNat : Int) → Box 22 bh (.int .u32 (wd32 h p).toNat) (W.setCell ⟨bh, 0, none⟩ (.int .u32 v)) ∧ Fr (fun k => k = bh) w (W.setCell ⟨bh, 0, none⟩ (.int .u32 v))) := by
    intro W v hW hv; subst hv
    exact ⟨(hb.nw hW).set _, (hW.any).setCell _ _ (.inl rfl)⟩
  obtain ⟨c1, c2⟩ := hb.cell
  clear hb
  clear hu
  generalize (h + lo32 p * 3266489917#32).rotateLeft 17 = R at *
  generalize wd32 h p = D at *
  generalize lo32 p = A at *
  go_enter Try.func45, Try.ntmps45
  go_wp2_with fail
  go_region_with
    (first
      | (go_at_call 38; with_reducible refine (HL.out _ ?_).mono ?_; (first | assumption | exact (Fr.refl _ _).drew | exact Fr.refl _ _ | exact (Fr.refl _ _).drewN _); rintro e w1 ⟨rfl, hN1⟩; obtain ⟨c3, c4⟩ := HB.out w1 hN1)
      | (go_at_call 37; with_reducible refine (HR.out _ _ ?_ ?_).mono ?_; (first | rfl | (simp only [IntKind.wrap_u32]; omega)); (first | assumption | exact (Fr.refl _ _).drew | exact Fr.refl _ _ | exact (Fr.refl _ _).drewN _); rintro e w2 ⟨rfl, hN2⟩; obtain ⟨c5, c6⟩ := HB.out w2 hN2))
  all_goals go_wp2
  all_goals go_end0
  all_goals exact ⟨⟨_, rfl⟩, FIN.out _ _ (by assumption) (by have := hE.out; simp only [IntKind.wrap_u32]; omega)⟩
set_option maxHeartbeats 40000000 in
theorem bt32_any (bh : Nat) (h : BitVec 32) (g : Nat) (u : Value) (p : List By) (hp : 1 ≤ p.length) (w : World) (hb : Box 22 bh (.int .u32 h.toNat) w) (hu : SlB g u p w) :
    Calls Try.prog 46 #[u, .pointer (some ⟨bh, 0, none⟩)] w fun e w' => (∃ r, e = .returned r) ∧ Box 22 bh (.int .u32 (bt32 h p).toNat) w' ∧ Fr (fun k => k = bh) w w' := by
  obtain ⟨o, c, rfl, hc, hc2, hrd⟩ := hu
  obtain ⟨y, hy⟩ : ∃ y, p[0]? = some y := ⟨p[0], by simp⟩
  have hcell := hrd.at 0 y hy
  rw [Nat.add_zero] at hcell
  have hY : Hid ((by32 p).toNat = y.toNat) := by32_nat p y hy
  have HR : Hid (∀ z W, z = ((h.toNat : Int) + y.toNat * 374761393) % 4294967296 → Nw w W → Calls Try.prog 37 #[.int .u32 z, .int .i64 11] W fun e w' => e = .returned (.int .u32 ((h + by32 p * 374761393#32).rotateLeft 11).toNat) ∧ Nw w w') := fun z W hz hW => cbase hW (rot32_at _ 11 z (hz.trans (by rw [i_add32, i_mul32, hY.out]; simp)) (by decide) (by decide) W)
  have hE : Hid (((bt32 h p).toNat : Int) = (((h + by32 p * 374761393#32).rotateLeft 11).toNat * 2654435761 : Int) % 4294967296) := by show _ = _; rw [bt32, i_mul32]; rfl
  have HB : Hid (∀ W, Nw w W → W.cell? ⟨bh, 0, none⟩ = some (.int .u32 h.toNat) ∧ W.frozen? ⟨bh, 0, none⟩ = false) := fun W hW => (hb.nw hW).cell
  have FIN : Hid (∀ W v, Nw w W → v = ((bt32 h p).toNat : Int) → Box 22 bh (.int .u32 (bt32 h p).toNat) (W.setCell ⟨bh, 0, none⟩ (.int .u32 v)) ∧ Fr (fun k => k = bh) w (W.setCell ⟨bh, 0, none⟩ (.int .u32 v))) := by
    intro W v hW hv; subst hv
    exact ⟨(hb.nw hW).set _, (hW.any).setCell _ _ (.inl rfl)⟩
  obtain ⟨c1, c2⟩ := hb.cell
  clear hb
  clear hrd hy hY
  generalize (h + by32 p * 374761393#32).rotateLeft 11 = R at *
  generalize bt32 h p = D at *
  generalize p.length = n at *
  go_enter Try.func46, Try.ntmps46
  go_wp2_with fail
  go_region_with
    (first
      | (go_at_call 37; with_reducible refine (HR.out _ _ ?_ ?_).mono ?_; (first | rfl | (simp only [IntKind.wrap_u32]; omega)); (first | assumption | exact (Fr.refl _ _).drew | exact Fr.refl _ _ | exact (Fr.refl _ _).drewN _); rintro e w2 ⟨rfl, hN2⟩; obtain ⟨c5, c6⟩ := HB.out w2 hN2))
  all_goals go_wp2
  all_goals go_end0
  all_goals exact ⟨⟨_, rfl⟩, FIN.out _ _ (by assumption) (by have := hE.out; simp only [IntKind.wrap_u32]; omega)⟩
set_option maxHeartbeats 40000000 in
theorem wd64_any (bh : Nat) (h : BitVec 64) (g : Nat) (u : Value) (p : List By) (hp : 8 ≤ p.length) (w : World) (hb : Box 23 bh (.int .u64 h.toNat) w) (hu : SlB g u p w) :
    Calls Try.prog 48 #[u, .pointer (some ⟨bh, 0, none⟩)] w fun e w' => (∃ r, e = .returned r) ∧ Box 23 bh (.int .u64 (wd64 h p).toNat) w' ∧ Fr (fun k => k = bh) w w' := by
  have HL : Hid (∀ W, Nw w W → Calls Try.prog 41 #[u] W fun e w' => e = .returned (.int .u64 (lo64 p).toNat) ∧ Nw w w') := fun W hW => cbase hW (low64_any g u p W (hu.kept hW (fun h => h)) hp)
  have HQ : Hid (∀ W, Nw w W → Calls Try.prog 40 #[.int .u64 0, .int .u64 (lo64 p).toNat] W fun e w' => e = .returned (.int .u64 (rd64 0#64 (lo64 p)).toNat) ∧ Nw w w') := fun W hW => cbase hW (round_at 0#64 _ _ _ rfl rfl W)
  have HR : Hid (∀ W, Nw w W → Calls Try.prog 49 #[.int .u64 (bits .xor .u64 (h.toNat : Int) ((rd64 0#64 (lo64 p)).toNat : Int)), .int .i64 27] W fun e w' => e = .returned (.int .u64 ((h ^^^ rd64 0#64 (lo64 p)).rotateLeft 27).toNat) ∧ Nw w w') := fun W hW => cbase hW (rot64_at _ 27 _ (i_xor64 _ _) (by decide) (by decide) W)
  have hE : Hid (((wd64 h p).toNat : Int) = ((((h ^^^ rd64 0#64 (lo64 p)).rotateLeft 27).toNat * 11400714785074694791 : Int) % 18446744073709551616 + 9650029242287828579) % 18446744073709551616) := by show _ = _; rw [wd64, i_add64, i_mul64]; rfl
  have HB : Hid (∀ W, Nw w W → W.cell? ⟨bh, 0, none⟩ = some (.int .u64 h.toNat) ∧ W.frozen? ⟨bh, 0, none⟩ = false) := fun W hW => (hb.nw hW).cell
  have FIN : Hid (∀ W v, Nw w W → v = ((wd64 h p).toNat : Int) → Box 23 bh (.int .u64 (wd64 h p).toNat) (W.setCell ⟨bh, 0, none⟩ (.int .u64 v)) ∧ Fr (fun k => k = bh) w (W.setCell ⟨bh, 0, none⟩ (.int .u64 v))) := by
    intro W v hW hv; subst hv
    exact ⟨(hb.nw hW).set _, (hW.any).setCell _ _ (.inl rfl)⟩
  obtain ⟨c1, c2⟩ := hb.cell
  clear hb
  clear hu
  generalize (h ^^^ rd64 0#64 (lo64 p)).rotateLeft 27 = R at *
  generalize rd64 0#64 (lo64 p) = Q at *
  generalize wd64 h p = D at *
  generalize lo64 p = A at *
  go_enter Try.func48, Try.ntmps48
  go_wp2_with fail
  go_region_with
    (first
      | (go_at_call 41; with_reducible refine (HL.out _ ?_).mono ?_; (first | assumption | exact (Fr.refl _ _).drew | exact Fr.refl _ _ | exact (Fr.refl _ _).drewN _); rintro e w1 ⟨rfl, hN1⟩; obtain ⟨c3, c4⟩ := HB.out w1 hN1)
      | (go_at_call 40; with_reducible refine (HQ.out _ ?_).mono ?_; (first | assumption | exact (Fr.refl _ _).drew | exact Fr.refl _ _ | exact (Fr.refl _ _).drewN _); rintro e w3 ⟨rfl, hN3⟩; obtain ⟨c7, c8⟩ := HB.out w3 hN3)
      | (go_at_call 49; with_reducible refine (HR.out _ ?_).mono ?_; (first | assumption | exact (Fr.refl _ _).drew | exact Fr.refl _ _ | exact (Fr.refl _ _).drewN _); rintro e w2 ⟨rfl, hN2⟩; obtain ⟨c5, c6⟩ := HB.out w2 hN2))
  all_goals go_wp2
  all_goals go_end0
  all_goals exact ⟨⟨_, rfl⟩, FIN.out _ _ (by assumption) (by have := hE.out; simp only [IntKind.wrap_u64]; omega)⟩
set_option maxHeartbeats 40000000 in
theorem hw64_any (bh : Nat) (h : BitVec 64) (g : Nat) (u : Value) (p : List By) (hp : 4 ≤ p.length) (w : World) (hb : Box 23 bh (.int .u64 h.toNat) w) (hu : SlB g u p w) :
    Calls Try.prog 50 #[u, .pointer (some ⟨bh, 0, none⟩)] w fun e w' => (∃ r, e = .returned r) ∧ Box 23 bh (.int .u64 (hw64 h p).toNat) w' ∧ Fr (fun k => k = bh) w w' := by
  have HL : Hid (∀ W, Nw w W → Calls Try.prog 38 #[u] W fun e w' => e = .returned (.int .u32 (lo32 p).toNat) ∧ Nw w w') := fun W hW => cbase hW (low32_any g u p W (hu.kept hW (fun h => h)) hp)
  have hY : Hid ((hf64 p).toNat = (lo32 p).toNat) := hf64_nat p hp
  have HX : Hid (∀ z W, z = ((lo32 p).toNat : Int) * 11400714785074694791 % 18446744073709551616 → Nw w W → Calls Try.prog 49 #[.int .u64 (bits .xor .u64 (h.toNat : Int) z), .int .i64 23] W fun e w' => e = .returned (.int .u64 ((h ^^^ (hf64 p * 11400714785074694791#64)).rotateLeft 23).toNat) ∧ Nw w w') := fun z W hz hW => cbase hW (rot64_at _ 23 _ (by rw [show z = (((hf64 p * 11400714785074694791#64).toNat : Nat) : Int) by rw [hz, i_mul64, hY.out]; rfl]; exact i_xor64 _ _) (by decide) (by decide) W)
  have hE : Hid (((hw64 h p).toNat : Int) = ((((h ^^^ (hf64 p * 11400714785074694791#64)).rotateLeft 23).toNat * 14029467366897019727 : Int) % 18446744073709551616 + 1609587929392839161) % 18446744073709551616) := by show _ = _; rw [hw64, i_add64, i_mul64]; rfl
  have HB : Hid (∀ W, Nw w W → W.cell? ⟨bh, 0, none⟩ = some (.int .u64 h.toNat) ∧ W.frozen? ⟨bh, 0, none⟩ = false) := fun W hW => (hb.nw hW).cell
  have FIN : Hid (∀ W v, Nw w W → v = ((hw64 h p).toNat : Int) → Box 23 bh (.int .u64 (hw64 h p).toNat) (W.setCell ⟨bh, 0, none⟩ (.int .u64 v)) ∧ Fr (fun k => k = bh) w (W.setCell ⟨bh, 0, none⟩ (.int .u64 v))) := by
    intro W v hW hv; subst hv
    exact ⟨(hb.nw hW).set _, (hW.any).setCell _ _ (.inl rfl)⟩
  obtain ⟨c1, c2⟩ := hb.cell
  clear hb
  clear hu hY
  generalize (h ^^^ (hf64 p * 11400714785074694791#64)).rotateLeft 23 = R at *
  generalize hw64 h p = D at *
  generalize lo32 p = A at *
  have hA := A.isLt
  go_enter Try.func50, Try.ntmps50
  go_wp2_with fail
  go_region_with
    (first
      | (go_at_call 38; with_reducible refine (HL.out _ ?_).mono ?_; (first | assumption | exact (Fr.refl _ _).drew | exact Fr.refl _ _ | exact (Fr.refl _ _).drewN _); rintro e w1 ⟨rfl, hN1⟩; obtain ⟨c3, c4⟩ := HB.out w1 hN1)
      | (go_at_call 49; with_reducible refine (HX.out _ _ ?_ ?_).mono ?_; (first | rfl | (simp only [IntKind.wrap_u64]; omega)); (first | assumption | exact (Fr.refl _ _).drew | exact Fr.refl _ _ | exact (Fr.refl _ _).drewN _); rintro e w2 ⟨rfl, hN2⟩; obtain ⟨c5, c6⟩ := HB.out w2 hN2))
  all_goals go_wp2
  all_goals go_end0
  all_goals exact ⟨⟨_, rfl⟩, FIN.out _ _ (by assumption) (by have := hE.out; simp only [IntKind.wrap_u64]; omega)⟩
set_option maxHeartbeats 40000000 in
theorem bt64_any (bh : Nat) (h : BitVec 64) (g : Nat) (u : Value) (p : List By) (hp : 1 ≤ p.length) (w : World) (hb : Box 23 bh (.int .u64 h.toNat) w) (hu : SlB g u p w) :
    Calls Try.prog 51 #[u, .pointer (some ⟨bh, 0, none⟩)] w fun e w' => (∃ r, e = .returned r) ∧ Box 23 bh (.int .u64 (bt64 h p).toNat) w' ∧ Fr (fun k => k = bh) w w' := by
  obtain ⟨o, c, rfl, hc, hc2, hrd⟩ := hu
  obtain ⟨y, hy⟩ : ∃ y, p[0]? = some y := ⟨p[0], by simp⟩
  have hcell := hrd.at 0 y hy
  rw [Nat.add_zero] at hcell
  have hY : Hid ((by64 p).toNat = y.toNat) := by64_nat p y hy
  have HX : Hid (∀ z W, z = (y.toNat : Int) * 2870177450012600261 % 18446744073709551616 → Nw w W → Calls Try.prog 49 #[.int .u64 (bits .xor .u64 (h.toNat : Int) z), .int .i64 11] W fun e w' => e = .returned (.int .u64 ((h ^^^ (by64 p * 2870177450012600261#64)).rotateLeft 11).toNat) ∧ Nw w w') := fun z W hz hW => cbase hW (rot64_at _ 11 _ (by rw [show z = (((by64 p * 2870177450012600261#64).toNat : Nat) : Int) by rw [hz, i_mul64, hY.out]; rfl]; exact i_xor64 _ _) (by decide) (by decide) W)
  have hE : Hid (((bt64 h p).toNat : Int) = (((h ^^^ (by64 p * 2870177450012600261#64)).rotateLeft 11).toNat * 11400714785074694791 : Int) % 18446744073709551616) := by show _ = _; rw [bt64, i_mul64]; rfl
  have HB : Hid (∀ W, Nw w W → W.cell? ⟨bh, 0, none⟩ = some (.int .u64 h.toNat) ∧ W.frozen? ⟨bh, 0, none⟩ = false) := fun W hW => (hb.nw hW).cell
  have FIN : Hid (∀ W v, Nw w W → v = ((bt64 h p).toNat : Int) → Box 23 bh (.int .u64 (bt64 h p).toNat) (W.setCell ⟨bh, 0, none⟩ (.int .u64 v)) ∧ Fr (fun k => k = bh) w (W.setCell ⟨bh, 0, none⟩ (.int .u64 v))) := by
    intro W v hW hv; subst hv
    exact ⟨(hb.nw hW).set _, (hW.any).setCell _ _ (.inl rfl)⟩
  obtain ⟨c1, c2⟩ := hb.cell
  clear hb
  clear hrd hy hY
  generalize (h ^^^ (by64 p * 2870177450012600261#64)).rotateLeft 11 = R at *
  generalize bt64 h p = D at *
  generalize p.length = n at *
  have hA := y.isLt
  go_enter Try.func51, Try.ntmps51
  go_wp2_with fail
  go_region_with
    (first
      | (go_at_call 49; with_reducible refine (HX.out _ _ ?_ ?_).mono ?_; (first | rfl | (simp only [IntKind.wrap_u64]; omega)); (first | assumption | exact (Fr.refl _ _).drew | exact Fr.refl _ _ | exact (Fr.refl _ _).drewN _); rintro e w2 ⟨rfl, hN2⟩; obtain ⟨c5, c6⟩ := HB.out w2 hN2))
  all_goals go_wp2
  all_goals go_end0
  all_goals exact ⟨⟨_, rfl⟩, FIN.out _ _ (by assumption) (by have := hE.out; simp only [IntKind.wrap_u64]; omega)⟩
end Go.Proofs.Ytlfcgldbgejfbaa

import Derived.Test.YtdeefemeiggolaaQd
import Derived.Deep.RegionWith
namespace Go.Proofs.Ytdeefemeiggolaa
open Go.RowKit
set_option linter.unusedVariables false
/-- A captured variable. -/
def Box (T b : Nat) (v : Value) (w : World) : Prop := w.heap[b]? = some (.cells #[v] T)
theorem Box.kept {T b : Nat} {v : Value} {w w' : World} {X : Nat → Prop} (h : Box T b v w) (f : Fr X w w') (hx : ¬ X b) : Box T b v w' := (f.block b (Array.getElem?_eq_some_iff.1 h).1 hx).trans h
theorem Box.nw {T b : Nat} {v : Value} {w w' : World} (h : Box T b v w) (f : Nw w w') : Box T b v w' := h.kept f (fun h => h)
theorem Box.cell {T b : Nat} {v : Value} {w : World} (h : Box T b v w) : w.cell? ⟨b, 0, none⟩ = some v ∧ w.frozen? ⟨b, 0, none⟩ = false := box_cell h
theorem Box.set {T b : Nat} {v : Value} {w : World} (h : Box T b v w) (u : Value) : Box T b u (w.setCell ⟨b, 0, none⟩ u) := one_setCell h
set_option maxHeartbeats 40000000 in
theorem wd32_any (bh : Nat) (h : BitVec 32) (g : Nat) (u : Value) (p : List By) (hp : 4 ≤ p.length) (w : World) (hb : Box 75 bh (.int .u32 h.toNat) w) (hu : SlB g u p w) :
    Calls Try.prog 89 #[u, .pointer (some ⟨bh, 0, none⟩)] w fun e w' => (∃ r, e = .returned r) ∧ Box 75 bh (.int .u32 (wd32 h p).toNat) w' ∧ Fr (fun k => k = bh) w w' := by
  have HL : Hid (∀ W, Nw w W → Calls Try.prog 85 #[u] W fun e w' => e = .returned (.int .u32 (lo32 p).toNat) ∧ Nw w w') := fun W hW => cbase hW (low32_any g u p W (hu.kept hW (fun h => h)) hp)
  have HR : Hid (∀ z W, z = ((h.toNat : Int) + (lo32 p).toNat * 3266489917) % 4294967296 → Nw w W → Calls Try.prog 84 #[.int .u32 z, .int .i64 17] W fun e w' => e = .returned (.int .u32 ((h + lo32 p * 3266489917#32).rotateLeft 17).toNat) ∧ Nw w w') := fun z W hz hW => cbase hW (rot32_at _ 17 z (hz.trans (by rw [i_add32, i_mul32]; simp)) (by decide) (by decide) W)
  have hE : Hid (((wd32 h p).toNat : Int) = (((h + lo32 p * 3266489917#32).rotateLeft 17).toNat * 668265263 : Int) % 4294967296) := by show _ = _; rw [wd32, i_mul32]; rfl
  have HB : Hid (∀ W, Nw w W → W.cell? ⟨bh, 0, none⟩ = some (.int .u32 h.toNat) ∧ W.frozen? ⟨bh, 0, none⟩ = false) := fun W hW => (hb.nw hW).cell
  have FIN : Hid (∀ W v, Nw w W → v = ((wd32 h p).toNat : Int) → Box 75 bh (.int .u32 (wd32 h p).toNat) (W.setCell ⟨bh, 0, none⟩ (.int .u32 v)) ∧ Fr (fun k => k = bh) w (W.setCell ⟨bh, 0, none⟩ (.int .u32 v))) := by
    intro W v hW hv; subst hv
    exact ⟨(hb.nw hW).set _, (hW.any).setCell _ _ (.inl rfl)⟩
  obtain ⟨c1, c2⟩ := hb.cell
  clear hb
  clear hu
  generalize (h + lo32 p * 3266489917#32).rotateLeft 17 = R at *
  generalize wd32 h p = D at *
  generalize lo32 p = A at *
  go_enter Try.func89, Try.ntmps89
  go_wp2_with fail
  go_region_with
    (first
      | (go_at_call 85; with_reducible refine (HL.out _ ?_).mono ?_; (first | assumption | exact (Fr.refl _ _).drew | exact Fr.refl _ _ | exact (Fr.refl _ _).drewN _); rintro e w1 ⟨rfl, hN1⟩; obtain ⟨c3, c4⟩ := HB.out w1 hN1)
      | (go_at_call 84; with_reducible refine (HR.out _ _ ?_ ?_).mono ?_; (first | rfl | (simp only [IntKind.wrap_u32]; omega)); (first | assumption | exact (Fr.refl _ _).drew | exact Fr.refl _ _ | exact (Fr.refl _ _).drewN _); rintro e w2 ⟨rfl, hN2⟩; obtain ⟨c5, c6⟩ := HB.out w2 hN2))
  all_goals go_wp2
  all_goals go_end0
  all_goals exact ⟨⟨_, rfl⟩, FIN.out _ _ (by assumption) (by have := hE.out; simp only [IntKind.wrap_u32]; omega)⟩
set_option maxHeartbeats 40000000 in
theorem bt32_any (bh : Nat) (h : BitVec 32) (g : Nat) (u : Value) (p : List By) (hp : 1 ≤ p.length) (w : World) (hb : Box 75 bh (.int .u32 h.toNat) w) (hu : SlB g u p w) :
    Calls Try.prog 90 #[u, .pointer (some ⟨bh, 0, none⟩)] w fun e w' => (∃ r, e = .returned r) ∧ Box 75 bh (.int .u32 (bt32 h p).toNat) w' ∧ Fr (fun k => k = bh) w w' := by
  obtain ⟨o, c, rfl, hc, hc2, hrd⟩ := hu
  obtain ⟨y, hy⟩ : ∃ y, p[0]? = some y := ⟨p[0], by simp⟩
  have hcell := hrd.at 0 y hy
  rw [Nat.add_zero] at hcell
  have hY : Hid ((by32 p).toNat = y.toNat) := by32_nat p y hy
  have HR : Hid (∀ z W, z = ((h.toNat : Int) + y.toNat * 374761393) % 4294967296 → Nw w W → Calls Try.prog 84 #[.int .u32 z, .int .i64 11] W fun e w' => e = .returned (.int .u32 ((h + by32 p * 374761393#32).rotateLeft 11).toNat) ∧ Nw w w') := fun z W hz hW => cbase hW (rot32_at _ 11 z (hz.trans (by rw [i_add32, i_mul32, hY.out]; simp)) (by decide) (by decide) W)
  have hE : Hid (((bt32 h p).toNat : Int) = (((h + by32 p * 374761393#32).rotateLeft 11).toNat * 2654435761 : Int) % 4294967296) := by show _ = _; rw [bt32, i_mul32]; rfl
  have HB : Hid (∀ W, Nw w W → W.cell? ⟨bh, 0, none⟩ = some (.int .u32 h.toNat) ∧ W.frozen? ⟨bh, 0, none⟩ = false) := fun W hW => (hb.nw hW).cell
  have FIN : Hid (∀ W v, Nw w W → v = ((bt32 h p).toNat : Int) → Box 75 bh (.int .u32 (bt32 h p).toNat) (W.setCell ⟨bh, 0, none⟩ (.int .u32 v)) ∧ Fr (fun k => k = bh) w (W.setCell ⟨bh, 0, none⟩ (.int .u32 v))) := by
    intro W v hW hv; subst hv
    exact ⟨(hb.nw hW).set _, (hW.any).setCell _ _ (.inl rfl)⟩
  obtain ⟨c1, c2⟩ := hb.cell
  clear hb
  clear hrd hy hY
  generalize (h + by32 p * 374761393#32).rotateLeft 11 = R at *
  generalize bt32 h p = D at *
  generalize p.length = n at *
  go_enter Try.func90, Try.ntmps90
  go_wp2_with fail
  go_region_with
    (first
      | (go_at_call 84; with_reducible refine (HR.out _ _ ?_ ?_).mono ?_; (first | rfl | (simp only [IntKind.wrap_u32]; omega)); (first | assumption | exact (Fr.refl _ _).drew | exact Fr.refl _ _ | exact (Fr.refl _ _).drewN _); rintro e w2 ⟨rfl, hN2⟩; obtain ⟨c5, c6⟩ := HB.out w2 hN2))
  all_goals go_wp2
  all_goals go_end0
  all_goals exact ⟨⟨_, rfl⟩, FIN.out _ _ (by assumption) (by have := hE.out; simp only [IntKind.wrap_u32]; omega)⟩
end Go.Proofs.Ytdeefemeiggolaa

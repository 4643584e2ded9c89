import Derived.Test.YtdeefemeiggolaaQb
import Derived.Laws.CopyRow
namespace Go.Proofs.Ytdeefemeiggolaa
open Go.RowKit
set_option linter.unusedVariables false
theorem ext32_set0 (s : BitVec 32) (x y : La 32) : (ext32 s (La.upto x y 0)).set 1 (.int .u32 y.a.toNat) = ext32 s (La.upto x y 1) := by simp [ext32, La.upto]
theorem ext32_get0 (s : BitVec 32) (x : La 32) (v : Value) : ((ext32 s x).set 1 v)[1]? = some v := by simp [ext32]
theorem ext32_set1 (s : BitVec 32) (x y : La 32) : (ext32 s (La.upto x y 1)).set 2 (.int .u32 y.b.toNat) = ext32 s (La.upto x y 2) := by simp [ext32, La.upto]
theorem ext32_get1 (s : BitVec 32) (x : La 32) (v : Value) : ((ext32 s x).set 2 v)[2]? = some v := by simp [ext32]
theorem ext32_set2 (s : BitVec 32) (x y : La 32) : (ext32 s (La.upto x y 2)).set 3 (.int .u32 y.c.toNat) = ext32 s (La.upto x y 3) := by simp [ext32, La.upto]
theorem ext32_get2 (s : BitVec 32) (x : La 32) (v : Value) : ((ext32 s x).set 3 v)[3]? = some v := by simp [ext32]
theorem ext32_set3 (s : BitVec 32) (x y : La 32) : (ext32 s (La.upto x y 3)).set 4 (.int .u32 y.d.toNat) = ext32 s (La.upto x y 4) := by simp [ext32, La.upto]
theorem ext32_get3 (s : BitVec 32) (x : La 32) (v : Value) : ((ext32 s x).set 4 v)[4]? = some v := by simp [ext32]
theorem ext64_set0 (s : BitVec 64) (x y : La 64) : (ext64 s (La.upto x y 0)).set 1 (.int .u64 y.a.toNat) = ext64 s (La.upto x y 1) := by simp [ext64, La.upto]
theorem ext64_get0 (s : BitVec 64) (x : La 64) (v : Value) : ((ext64 s x).set 1 v)[1]? = some v := by simp [ext64]
theorem ext64_set1 (s : BitVec 64) (x y : La 64) : (ext64 s (La.upto x y 1)).set 2 (.int .u64 y.b.toNat) = ext64 s (La.upto x y 2) := by simp [ext64, La.upto]
theorem ext64_get1 (s : BitVec 64) (x : La 64) (v : Value) : ((ext64 s x).set 2 v)[2]? = some v := by simp [ext64]
theorem ext64_set2 (s : BitVec 64) (x y : La 64) : (ext64 s (La.upto x y 2)).set 3 (.int .u64 y.c.toNat) = ext64 s (La.upto x y 3) := by simp [ext64, La.upto]
theorem ext64_get2 (s : BitVec 64) (x : La 64) (v : Value) : ((ext64 s x).set 3 v)[3]? = some v := by simp [ext64]
theorem ext64_set3 (s : BitVec 64) (x y : La 64) : (ext64 s (La.upto x y 3)).set 4 (.int .u64 y.d.toNat) = ext64 s (La.upto x y 4) := by simp [ext64, La.upto]
theorem ext64_get3 (s : BitVec 64) (x : La 64) (v : Value) : ((ext64 s x).set 4 v)[4]? = some v := by simp [ext64]
theorem ext32_at0 (s : BitVec 32) (x : La 32) : (ext32 s x)[1]? = some (.int .u32 x.a.toNat) := rfl
theorem ext32_at1 (s : BitVec 32) (x : La 32) : (ext32 s x)[2]? = some (.int .u32 x.b.toNat) := rfl
theorem ext32_at2 (s : BitVec 32) (x : La 32) : (ext32 s x)[3]? = some (.int .u32 x.c.toNat) := rfl
theorem ext32_at3 (s : BitVec 32) (x : La 32) : (ext32 s x)[4]? = some (.int .u32 x.d.toNat) := rfl
theorem ext64_at0 (s : BitVec 64) (x : La 64) : (ext64 s x)[1]? = some (.int .u64 x.a.toNat) := rfl
theorem ext64_at1 (s : BitVec 64) (x : La 64) : (ext64 s x)[2]? = some (.int .u64 x.b.toNat) := rfl
theorem ext64_at2 (s : BitVec 64) (x : La 64) : (ext64 s x)[3]? = some (.int .u64 x.c.toNat) := rfl
theorem ext64_at3 (s : BitVec 64) (x : La 64) : (ext64 s x)[4]? = some (.int .u64 x.d.toNat) := rfl
theorem DB.set {T d tot : Nat} {rest : List By} {ext : List Value} {w : World} (h : DB T d tot rest ext w) (hr : rest.length = 32) (j : Nat) (v : Value) : DB T d tot rest (ext.set j v) (w.setCell ⟨d, 33 + j, none⟩ v) := by
  unfold DB at h ⊢
  simp only [World.setCell, Array.getElem?_modify, h]
  simp only [dcells, if_true, Option.map_some, List.setIfInBounds_toArray]
  rw [show 33 + j = (32 + j) + 1 by omega, List.set_cons_succ, List.set_append_right _ _ (by simp; omega)]
  simp [hr]
theorem DB.frozen {T d tot : Nat} {rest : List By} {ext : List Value} {w : World} (h : DB T d tot rest ext w) (j : Nat) : w.frozen? ⟨d, j, none⟩ = false := by
  unfold DB at h
  simp [World.frozen?, h]
/-- What lies at a place, whatever it is. -/
def ldc (w : World) (a : Addr) : Value := (w.cell? a).getD undef
theorem ldc_of {w : World} {a : Addr} {v : Value} (h : w.cell? a = some v) : w.cell? a = some (ldc w a) := by rw [ldc, h]; rfl
/-- What a piece is read from: another block, or the digest's own rest. -/
def Rp (d g : Nat) (u : Value) (p : List By) (w : World) : Prop := ∃ o c, u = .slice (some ⟨g, o, none⟩) p.length c ∧ p.length ≤ c ∧ c < 9223372036854775808 ∧ Rd g o p w ∧ (g ≠ d ∨ o + p.length ≤ 33)
theorem Rd.lane {T d tot : Nat} {rest : List By} {e1 e2 : List Value} {w w' : World} {g o : Nat} {p : List By} (hr : rest.length = 32) (h1 : DB T d tot rest e1 w) (h2 : DB T d tot rest e2 w') (f : Fr (fun k => k = d) w w') (h : Rd g o p w) (ha : g ≠ d ∨ o + p.length ≤ 33) : Rd g o p w' := by
  intro j hj
  by_cases hg : g = d
  · subst hg
    have hle : o + j < 33 := by rcases ha with h | h; exact absurd rfl h; omega
    have := h j hj
    rw [← this]
    unfold DB at h1 h2
    simp only [World.cell?, h1, h2]
    rcases Nat.eq_zero_or_pos (o + j) with h0 | h0
    · simp [h0, dcells]
    · obtain ⟨m, hm⟩ : ∃ m, o + j = m + 1 := ⟨o + j - 1, by omega⟩
      simp only [hm, dcells, List.getElem?_toArray, List.getElem?_cons_succ]
      rw [List.getElem?_append_left (by simp; omega), List.getElem?_append_left (by simp; omega)]
  · exact f.cellv (h j hj) hg

set_option maxHeartbeats 40000000 in
set_option maxRecDepth 100000 in
theorem mix32_any (bx d tot : Nat) (rest : List By) (hr : rest.length = 32) (s : BitVec 32) (x : La 32) (g : Nat) (u : Value) (p : List By) (hp : p.length = 16) (w : World)
    (hb : w.cell? ⟨bx, 0, none⟩ = some (.pointer (some ⟨d, 0, none⟩))) (hbd : bx ≠ d) (h : DB 138 d tot rest (ext32 s x) w) (hu : Rp d g u p w) :
    Calls Try.prog 83 #[u, .pointer (some ⟨bx, 0, none⟩)] w fun e w' => (∃ r, e = .returned r) ∧ DB 138 d tot rest (ext32 s (mix32 x p)) w' ∧ Fr (fun k => k = d) w w' := by
  obtain ⟨o, c, rfl, hc, hc2, hrd, hap⟩ := hu
  have l0 := h.ext hr 1 _ (ext32_at0 _ _)
  have l1 := h.ext hr 2 _ (ext32_at1 _ _)
  have l2 := h.ext hr 3 _ (ext32_at2 _ _)
  have l3 := h.ext hr 4 _ (ext32_at3 _ _)
  simp only [Nat.reduceAdd] at l0 l1 l2 l3
  have HB : Hid (∀ W, Fr (fun k => k = d) w W → W.cell? ⟨bx, 0, none⟩ = some (.pointer (some ⟨d, 0, none⟩))) := fun W hW => hW.cellv hb hbd
  have HRD : Hid (∀ W e, Fr (fun k => k = d) w W → DB 138 d tot rest e W → Rd g o p W) := fun W e hW hd => Rd.lane hr h hd hW hrd hap
  have H0 : Hid (DB 138 d tot rest (ext32 s (La.upto x (mix32 x p) 0)) w ∧ Fr (fun k => k = d) w w) := ⟨by rw [La.upto0]; exact h, Fr.refl _ _⟩
  rw [hp] at hc ⊢
  have hap' : Hid (g ≠ d ∨ o + p.length ≤ 33) := hap
  have hr' : Hid (rest.length = 32) := hr
  have hp' : Hid (p.length = 16) := hp
  clear h hrd hap hr hp
  generalize hy : mix32 x p = y at *
  have hy : Hid (mix32 x p = y) := hy
  go_enter Try.func83, Try.ntmps83
  go_wp2
  clear l0 l1 l2 l3 hb
  go_loopg [9] 4 (fun kx t wr => ∃ (i : Nat) (z : Int), i ≤ 4 ∧ 4 - i ≤ kx ∧ t = .int .i64 z ∧ z = i ∧ Hid (DB 138 d tot rest (ext32 s (La.upto x y i)) wr ∧ Fr (fun k => k = d) w wr))
  case atStart => exact ⟨0, 0, by decide, by decide, rfl, rfl, H0⟩
  case round =>
    obtain ⟨i, z, hi, hkx, rfl, hz, HI⟩ := hrel
    obtain ⟨hD, hF⟩ := HI.out
    have hb := HB.out wr hF
    have hrd := HRD.out wr _ hF hD
    by_cases hlt : i < 4
    · obtain rfl | rfl | rfl | rfl : i = 0 ∨ i = 1 ∨ i = 2 ∨ i = 3 := by omega
      · obtain rfl : z = 0 := hz
        have hl0 := hD.ext hr'.out 1 _ (ext32_at0 _ _)
        simp only [Nat.reduceAdd] at hl0
        rw [upto_at0] at hl0
        have KEY : Hid (∀ w', Nw wr w' → w'.cell? ⟨bx, 0, none⟩ = some (.pointer (some ⟨d, 0, none⟩)) ∧ w'.frozen? ⟨d, 34, none⟩ = false ∧ w'.cell? ⟨d, 34, none⟩ = some (ldc w' ⟨d, 34, none⟩)) := fun w' hN => ⟨hN.cell hb, (hD.nw hN).frozen _, ldc_of (hN.cell hl0)⟩
        have KEY2 : Hid (∀ w' v, Nw wr w' → (w'.setCell ⟨d, 34, none⟩ v).cell? ⟨bx, 0, none⟩ = some (.pointer (some ⟨d, 0, none⟩)) ∧ (w'.setCell ⟨d, 34, none⟩ v).frozen? ⟨d, 34, none⟩ = false ∧ (w'.setCell ⟨d, 34, none⟩ v).cell? ⟨d, 34, none⟩ = some (ldc (w'.setCell ⟨d, 34, none⟩ v) ⟨d, 34, none⟩)) := fun w' v hN => ⟨((Fr.refl (fun k => k = d) w').setCell ⟨d, 34, none⟩ v (.inl rfl)).cellv (hN.cell hb) hbd, ((hD.nw hN).set hr'.out 1 v).frozen _, ldc_of (((hD.nw hN).set hr'.out 1 v).ext hr'.out 1 _ (ext32_get0 _ _ _))⟩
        have hnc : ¬ c = 0 := by omega
        have hwr : IntKind.i64.wrap 0 = 0 := by decide
        have hcz : (0 : Int) ≤ (c : Int) := by omega
        have HL : Hid (∀ W, Nw wr W → Calls Try.prog 85 #[.slice (some ⟨g, o, none⟩) 16 c] W fun e w' => e = .returned (.int .u32 (lo32 (p.drop 0)).toNat) ∧ Nw wr w') := fun W hW => cbase hW (low32_any g _ _ _ ⟨o, c, by simp [hp'.out], by simp [hp'.out]; omega, by omega, hrd.nw hW⟩ (by simp [hp'.out]))
        have HR : Hid (∀ z W, z = (((x.a.toNat : Int) + (lo32 (p.drop 0)).toNat * 2246822519) % 4294967296) → Nw wr W → Calls Try.prog 84 #[.int .u32 z, .int .i64 13] W fun e w' => e = .returned (.int .u32 ((x.a + lo32 (p.drop 0) * 2246822519#32).rotateLeft 13).toNat) ∧ Nw wr w') := fun z W hz hW => cbase hW (rot32_at _ 13 z (hz.trans (by rw [i_add32, i_mul32]; simp)) (by decide) (by decide) W)
        have hE : Hid ((y.a.toNat : Int) = (((x.a + lo32 (p.drop 0) * 2246822519#32).rotateLeft 13).toNat * 2654435761 : Int) % 4294967296) := by show _ = _; rw [← hy.out]; show (((rd32 x.a (lo32 (p.drop 0))).toNat : Int)) = _; rw [rd32, i_mul32]; rfl
        generalize (x.a + lo32 (p.drop 0) * 2246822519#32).rotateLeft 13 = R at *
        generalize lo32 (p.drop 0) = A at *
        have FIN : Hid (∀ W v, Nw wr W → v = (y.a.toNat : Int) → DB 138 d tot rest (ext32 s (La.upto x y 1)) (W.setCell ⟨d, 34, none⟩ (.int .u32 v)) ∧ Fr (fun k => k = d) w (W.setCell ⟨d, 34, none⟩ (.int .u32 v))) := by
          intro W v hW hv
          subst hv
          exact ⟨by have := (hD.nw hW).set hr'.out 1 (.int .u32 y.a.toNat); rw [ext32_set0] at this; exact this, (hF.trans hW.any).setCell _ _ (.inl rfl)⟩
        clear hD hF HI hrd
        have hix : ∀ w, (Instr.index 108 (.agg #[.int .u32 x.a.toNat, .int .u32 x.b.toNat, .int .u32 x.c.toNat, .int .u32 x.d.toNat]) (.int .i64 0)).run Try.prog w = .ok (.int .u32 x.a.toNat) w := fun _ => by kernel_rfl
        go_wp2_with fail
        go_region_held3 (fun w' => w'.cell? ⟨bx, 0, none⟩ = some (.pointer (some ⟨d, 0, none⟩)) ∧ w'.frozen? ⟨d, 34, none⟩ = false ∧ w'.cell? ⟨d, 34, none⟩ = some (ldc w' ⟨d, 34, none⟩))
          (first | exact KEY.out _ (by assumption) | exact KEY2.out _ _ (by assumption) | exact KEY.out _ (Fr.refl _ _).drew | exact KEY.out _ (Fr.refl _ _))
          (first
            | (go_at_call 85; with_reducible refine (HL.out _ ?_).mono ?_; (first | assumption | exact (Fr.refl _ _).drew | exact Fr.refl _ _); rintro e w1 ⟨rfl, hN1⟩)
            | (go_at_call 84; with_reducible refine (HR.out _ _ ?_ ?_).mono ?_; (first | rfl | (simp only [IntKind.wrap_u32]; omega)); (first | assumption | exact (Fr.refl _ _).drew | exact Fr.refl _ _); rintro e w2 ⟨rfl, hN2⟩))
        go_wp2
        go_roundg 3
        case measure => omega
        case rel => exact ⟨1, 1, by decide, by decide, rfl, rfl, FIN.out _ _ (by assumption) (by rw [hE.out])⟩
      · obtain rfl : z = 1 := hz
        have hl0 := hD.ext hr'.out 2 _ (ext32_at1 _ _)
        simp only [Nat.reduceAdd] at hl0
        rw [upto_at1] at hl0
        have KEY : Hid (∀ w', Nw wr w' → w'.cell? ⟨bx, 0, none⟩ = some (.pointer (some ⟨d, 0, none⟩)) ∧ w'.frozen? ⟨d, 35, none⟩ = false ∧ w'.cell? ⟨d, 35, none⟩ = some (ldc w' ⟨d, 35, none⟩)) := fun w' hN => ⟨hN.cell hb, (hD.nw hN).frozen _, ldc_of (hN.cell hl0)⟩
        have KEY2 : Hid (∀ w' v, Nw wr w' → (w'.setCell ⟨d, 35, none⟩ v).cell? ⟨bx, 0, none⟩ = some (.pointer (some ⟨d, 0, none⟩)) ∧ (w'.setCell ⟨d, 35, none⟩ v).frozen? ⟨d, 35, none⟩ = false ∧ (w'.setCell ⟨d, 35, none⟩ v).cell? ⟨d, 35, none⟩ = some (ldc (w'.setCell ⟨d, 35, none⟩ v) ⟨d, 35, none⟩)) := fun w' v hN => ⟨((Fr.refl (fun k => k = d) w').setCell ⟨d, 35, none⟩ v (.inl rfl)).cellv (hN.cell hb) hbd, ((hD.nw hN).set hr'.out 2 v).frozen _, ldc_of (((hD.nw hN).set hr'.out 2 v).ext hr'.out 2 _ (ext32_get1 _ _ _))⟩
        have hnc : ¬ c = 4 := by omega
        have hwr : IntKind.i64.wrap 4 = 4 := by decide
        have hcz : (4 : Int) ≤ (c : Int) := by omega
        have HL : Hid (∀ W, Nw wr W → Calls Try.prog 85 #[.slice (some ⟨g, o + 4, none⟩) 12 (c - 4)] W fun e w' => e = .returned (.int .u32 (lo32 (p.drop 4)).toNat) ∧ Nw wr w') := fun W hW => cbase hW (low32_any g _ _ _ ⟨o + 4, c - 4, by simp [hp'.out], by simp [hp'.out]; omega, by omega, (hrd.nw hW).drop 4⟩ (by simp [hp'.out]))
        have HR : Hid (∀ z W, z = (((x.b.toNat : Int) + (lo32 (p.drop 4)).toNat * 2246822519) % 4294967296) → Nw wr W → Calls Try.prog 84 #[.int .u32 z, .int .i64 13] W fun e w' => e = .returned (.int .u32 ((x.b + lo32 (p.drop 4) * 2246822519#32).rotateLeft 13).toNat) ∧ Nw wr w') := fun z W hz hW => cbase hW (rot32_at _ 13 z (hz.trans (by rw [i_add32, i_mul32]; simp)) (by decide) (by decide) W)
        have hE : Hid ((y.b.toNat : Int) = (((x.b + lo32 (p.drop 4) * 2246822519#32).rotateLeft 13).toNat * 2654435761 : Int) % 4294967296) := by show _ = _; rw [← hy.out]; show (((rd32 x.b (lo32 (p.drop 4))).toNat : Int)) = _; rw [rd32, i_mul32]; rfl
        generalize (x.b + lo32 (p.drop 4) * 2246822519#32).rotateLeft 13 = R at *
        generalize lo32 (p.drop 4) = A at *
        have FIN : Hid (∀ W v, Nw wr W → v = (y.b.toNat : Int) → DB 138 d tot rest (ext32 s (La.upto x y 2)) (W.setCell ⟨d, 35, none⟩ (.int .u32 v)) ∧ Fr (fun k => k = d) w (W.setCell ⟨d, 35, none⟩ (.int .u32 v))) := by
          intro W v hW hv
          subst hv
          exact ⟨by have := (hD.nw hW).set hr'.out 2 (.int .u32 y.b.toNat); rw [ext32_set1] at this; exact this, (hF.trans hW.any).setCell _ _ (.inl rfl)⟩
        clear hD hF HI hrd
        have hix : ∀ w, (Instr.index 108 (.agg #[.int .u32 x.a.toNat, .int .u32 x.b.toNat, .int .u32 x.c.toNat, .int .u32 x.d.toNat]) (.int .i64 1)).run Try.prog w = .ok (.int .u32 x.b.toNat) w := fun _ => by kernel_rfl
        go_wp2_with fail
        go_region_held3 (fun w' => w'.cell? ⟨bx, 0, none⟩ = some (.pointer (some ⟨d, 0, none⟩)) ∧ w'.frozen? ⟨d, 35, none⟩ = false ∧ w'.cell? ⟨d, 35, none⟩ = some (ldc w' ⟨d, 35, none⟩))
          (first | exact KEY.out _ (by assumption) | exact KEY2.out _ _ (by assumption) | exact KEY.out _ (Fr.refl _ _).drew | exact KEY.out _ (Fr.refl _ _))
          (first
            | (go_at_call 85; with_reducible refine (HL.out _ ?_).mono ?_; (first | assumption | exact (Fr.refl _ _).drew | exact Fr.refl _ _); rintro e w1 ⟨rfl, hN1⟩)
            | (go_at_call 84; with_reducible refine (HR.out _ _ ?_ ?_).mono ?_; (first | rfl | (simp only [IntKind.wrap_u32]; omega)); (first | assumption | exact (Fr.refl _ _).drew | exact Fr.refl _ _); rintro e w2 ⟨rfl, hN2⟩))
        go_wp2
        go_roundg 2
        case measure => omega
        case rel => exact ⟨2, 2, by decide, by decide, rfl, rfl, FIN.out _ _ (by assumption) (by rw [hE.out])⟩
      · obtain rfl : z = 2 := hz
        have hl0 := hD.ext hr'.out 3 _ (ext32_at2 _ _)
        simp only [Nat.reduceAdd] at hl0
        rw [upto_at2] at hl0
        have KEY : Hid (∀ w', Nw wr w' → w'.cell? ⟨bx, 0, none⟩ = some (.pointer (some ⟨d, 0, none⟩)) ∧ w'.frozen? ⟨d, 36, none⟩ = false ∧ w'.cell? ⟨d, 36, none⟩ = some (ldc w' ⟨d, 36, none⟩)) := fun w' hN => ⟨hN.cell hb, (hD.nw hN).frozen _, ldc_of (hN.cell hl0)⟩
        have KEY2 : Hid (∀ w' v, Nw wr w' → (w'.setCell ⟨d, 36, none⟩ v).cell? ⟨bx, 0, none⟩ = some (.pointer (some ⟨d, 0, none⟩)) ∧ (w'.setCell ⟨d, 36, none⟩ v).frozen? ⟨d, 36, none⟩ = false ∧ (w'.setCell ⟨d, 36, none⟩ v).cell? ⟨d, 36, none⟩ = some (ldc (w'.setCell ⟨d, 36, none⟩ v) ⟨d, 36, none⟩)) := fun w' v hN => ⟨((Fr.refl (fun k => k = d) w').setCell ⟨d, 36, none⟩ v (.inl rfl)).cellv (hN.cell hb) hbd, ((hD.nw hN).set hr'.out 3 v).frozen _, ldc_of (((hD.nw hN).set hr'.out 3 v).ext hr'.out 3 _ (ext32_get2 _ _ _))⟩
        have hnc : ¬ c = 8 := by omega
        have hwr : IntKind.i64.wrap 8 = 8 := by decide
        have hcz : (8 : Int) ≤ (c : Int) := by omega
        have HL : Hid (∀ W, Nw wr W → Calls Try.prog 85 #[.slice (some ⟨g, o + 8, none⟩) 8 (c - 8)] W fun e w' => e = .returned (.int .u32 (lo32 (p.drop 8)).toNat) ∧ Nw wr w') := fun W hW => cbase hW (low32_any g _ _ _ ⟨o + 8, c - 8, by simp [hp'.out], by simp [hp'.out]; omega, by omega, (hrd.nw hW).drop 8⟩ (by simp [hp'.out]))
        have HR : Hid (∀ z W, z = (((x.c.toNat : Int) + (lo32 (p.drop 8)).toNat * 2246822519) % 4294967296) → Nw wr W → Calls Try.prog 84 #[.int .u32 z, .int .i64 13] W fun e w' => e = .returned (.int .u32 ((x.c + lo32 (p.drop 8) * 2246822519#32).rotateLeft 13).toNat) ∧ Nw wr w') := fun z W hz hW => cbase hW (rot32_at _ 13 z (hz.trans (by rw [i_add32, i_mul32]; simp)) (by decide) (by decide) W)
        have hE : Hid ((y.c.toNat : Int) = (((x.c + lo32 (p.drop 8) * 2246822519#32).rotateLeft 13).toNat * 2654435761 : Int) % 4294967296) := by show _ = _; rw [← hy.out]; show (((rd32 x.c (lo32 (p.drop 8))).toNat : Int)) = _; rw [rd32, i_mul32]; rfl
        generalize (x.c + lo32 (p.drop 8) * 2246822519#32).rotateLeft 13 = R at *
        generalize lo32 (p.drop 8) = A at *
        have FIN : Hid (∀ W v, Nw wr W → v = (y.c.toNat : Int) → DB 138 d tot rest (ext32 s (La.upto x y 3)) (W.setCell ⟨d, 36, none⟩ (.int .u32 v)) ∧ Fr (fun k => k = d) w (W.setCell ⟨d, 36, none⟩ (.int .u32 v))) := by
          intro W v hW hv
          subst hv
          exact ⟨by have := (hD.nw hW).set hr'.out 3 (.int .u32 y.c.toNat); rw [ext32_set2] at this; exact this, (hF.trans hW.any).setCell _ _ (.inl rfl)⟩
        clear hD hF HI hrd
        have hix : ∀ w, (Instr.index 108 (.agg #[.int .u32 x.a.toNat, .int .u32 x.b.toNat, .int .u32 x.c.toNat, .int .u32 x.d.toNat]) (.int .i64 2)).run Try.prog w = .ok (.int .u32 x.c.toNat) w := fun _ => by kernel_rfl
        go_wp2_with fail
        go_region_held3 (fun w' => w'.cell? ⟨bx, 0, none⟩ = some (.pointer (some ⟨d, 0, none⟩)) ∧ w'.frozen? ⟨d, 36, none⟩ = false ∧ w'.cell? ⟨d, 36, none⟩ = some (ldc w' ⟨d, 36, none⟩))
          (first | exact KEY.out _ (by assumption) | exact KEY2.out _ _ (by assumption) | exact KEY.out _ (Fr.refl _ _).drew | exact KEY.out _ (Fr.refl _ _))
          (first
            | (go_at_call 85; with_reducible refine (HL.out _ ?_).mono ?_; (first | assumption | exact (Fr.refl _ _).drew | exact Fr.refl _ _); rintro e w1 ⟨rfl, hN1⟩)
            | (go_at_call 84; with_reducible refine (HR.out _ _ ?_ ?_).mono ?_; (first | rfl | (simp only [IntKind.wrap_u32]; omega)); (first | assumption | exact (Fr.refl _ _).drew | exact Fr.refl _ _); rintro e w2 ⟨rfl, hN2⟩))
        go_wp2
        go_roundg 1
        case measure => omega
        case rel => exact ⟨3, 3, by decide, by decide, rfl, rfl, FIN.out _ _ (by assumption) (by rw [hE.out])⟩
      · obtain rfl : z = 3 := hz
        have hl0 := hD.ext hr'.out 4 _ (ext32_at3 _ _)
        simp only [Nat.reduceAdd] at hl0
        rw [upto_at3] at hl0
        have KEY : Hid (∀ w', Nw wr w' → w'.cell? ⟨bx, 0, none⟩ = some (.pointer (some ⟨d, 0, none⟩)) ∧ w'.frozen? ⟨d, 37, none⟩ = false ∧ w'.cell? ⟨d, 37, none⟩ = some (ldc w' ⟨d, 37, none⟩)) := fun w' hN => ⟨hN.cell hb, (hD.nw hN).frozen _, ldc_of (hN.cell hl0)⟩
        have KEY2 : Hid (∀ w' v, Nw wr w' → (w'.setCell ⟨d, 37, none⟩ v).cell? ⟨bx, 0, none⟩ = some (.pointer (some ⟨d, 0, none⟩)) ∧ (w'.setCell ⟨d, 37, none⟩ v).frozen? ⟨d, 37, none⟩ = false ∧ (w'.setCell ⟨d, 37, none⟩ v).cell? ⟨d, 37, none⟩ = some (ldc (w'.setCell ⟨d, 37, none⟩ v) ⟨d, 37, none⟩)) := fun w' v hN => ⟨((Fr.refl (fun k => k = d) w').setCell ⟨d, 37, none⟩ v (.inl rfl)).cellv (hN.cell hb) hbd, ((hD.nw hN).set hr'.out 4 v).frozen _, ldc_of (((hD.nw hN).set hr'.out 4 v).ext hr'.out 4 _ (ext32_get3 _ _ _))⟩
        have hnc : ¬ c = 12 := by omega
        have hwr : IntKind.i64.wrap 12 = 12 := by decide
        have hcz : (12 : Int) ≤ (c : Int) := by omega
        have HL : Hid (∀ W, Nw wr W → Calls Try.prog 85 #[.slice (some ⟨g, o + 12, none⟩) 4 (c - 12)] W fun e w' => e = .returned (.int .u32 (lo32 (p.drop 12)).toNat) ∧ Nw wr w') := fun W hW => cbase hW (low32_any g _ _ _ ⟨o + 12, c - 12, by simp [hp'.out], by simp [hp'.out]; omega, by omega, (hrd.nw hW).drop 12⟩ (by simp [hp'.out]))
        have HR : Hid (∀ z W, z = (((x.d.toNat : Int) + (lo32 (p.drop 12)).toNat * 2246822519) % 4294967296) → Nw wr W → Calls Try.prog 84 #[.int .u32 z, .int .i64 13] W fun e w' => e = .returned (.int .u32 ((x.d + lo32 (p.drop 12) * 2246822519#32).rotateLeft 13).toNat) ∧ Nw wr w') := fun z W hz hW => cbase hW (rot32_at _ 13 z (hz.trans (by rw [i_add32, i_mul32]; simp)) (by decide) (by decide) W)
        have hE : Hid ((y.d.toNat : Int) = (((x.d + lo32 (p.drop 12) * 2246822519#32).rotateLeft 13).toNat * 2654435761 : Int) % 4294967296) := by show _ = _; rw [← hy.out]; show (((rd32 x.d (lo32 (p.drop 12))).toNat : Int)) = _; rw [rd32, i_mul32]; rfl
        generalize (x.d + lo32 (p.drop 12) * 2246822519#32).rotateLeft 13 = R at *
        generalize lo32 (p.drop 12) = A at *
        have FIN : Hid (∀ W v, Nw wr W → v = (y.d.toNat : Int) → DB 138 d tot rest (ext32 s (La.upto x y 4)) (W.setCell ⟨d, 37, none⟩ (.int .u32 v)) ∧ Fr (fun k => k = d) w (W.setCell ⟨d, 37, none⟩ (.int .u32 v))) := by
          intro W v hW hv
          subst hv
          exact ⟨by have := (hD.nw hW).set hr'.out 4 (.int .u32 y.d.toNat); rw [ext32_set3] at this; exact this, (hF.trans hW.any).setCell _ _ (.inl rfl)⟩
        clear hD hF HI hrd
        have hix : ∀ w, (Instr.index 108 (.agg #[.int .u32 x.a.toNat, .int .u32 x.b.toNat, .int .u32 x.c.toNat, .int .u32 x.d.toNat]) (.int .i64 3)).run Try.prog w = .ok (.int .u32 x.d.toNat) w := fun _ => by kernel_rfl
        go_wp2_with fail
        go_region_held3 (fun w' => w'.cell? ⟨bx, 0, none⟩ = some (.pointer (some ⟨d, 0, none⟩)) ∧ w'.frozen? ⟨d, 37, none⟩ = false ∧ w'.cell? ⟨d, 37, none⟩ = some (ldc w' ⟨d, 37, none⟩))
          (first | exact KEY.out _ (by assumption) | exact KEY2.out _ _ (by assumption) | exact KEY.out _ (Fr.refl _ _).drew | exact KEY.out _ (Fr.refl _ _))
          (first
            | (go_at_call 85; with_reducible refine (HL.out _ ?_).mono ?_; (first | assumption | exact (Fr.refl _ _).drew | exact Fr.refl _ _); rintro e w1 ⟨rfl, hN1⟩)
            | (go_at_call 84; with_reducible refine (HR.out _ _ ?_ ?_).mono ?_; (first | rfl | (simp only [IntKind.wrap_u32]; omega)); (first | assumption | exact (Fr.refl _ _).drew | exact Fr.refl _ _); rintro e w2 ⟨rfl, hN2⟩))
        go_wp2
        go_roundg 0
        case measure => omega
        case rel => exact ⟨4, 4, by decide, by decide, rfl, rfl, FIN.out _ _ (by assumption) (by rw [hE.out])⟩
    · obtain rfl : i = 4 := by omega
      obtain rfl : z = 4 := hz
      clear hD hF hrd hb
      go_wp2
      go_end0
      exact ⟨⟨_, rfl⟩, by have := HI.out.1; rw [La.upto4] at this; exact this, HI.out.2⟩
end Go.Proofs.Ytdeefemeiggolaa

namespace Go.Proofs.Ytdeefemeiggolaa
open Go.RowKit
set_option linter.unusedVariables false

/-! ### Laying bytes into the rest -/
def putr (rest : List By) (h : Nat) (p : List By) : List By := rest.take h ++ p ++ rest.drop (h + p.length)
theorem putr_length (rest : List By) (h : Nat) (p : List By) (hh : h + p.length ≤ rest.length) : (putr rest h p).length = rest.length := by
  simp [putr]; omega
theorem putr_take (rest : List By) (h : Nat) (p : List By) (hh : h + p.length ≤ rest.length) : (putr rest h p).take (h + p.length) = rest.take h ++ p := by
  unfold putr
  rw [List.take_append_of_le_length (by simp; omega), List.take_of_length_le (by simp; omega)]
theorem info5 : (Try.prog.info? 5).map (·.size) = some 1 := by kernel_rfl
theorem copyd (T d tot : Nat) (rest : List By) (ext : List Value) (w : World) (h : DB T d tot rest ext w) (hr : rest.length = 32) (g o n : Nat) (l : List By) (hl : Rd g o l w) (hh : Nat) (k : Nat) (hk : hh + k ≤ 32) :
    ∃ W, (∀ ty c c', (Builtin.copy_ #[22, 22] ty #[.slice (some ⟨d, 1 + hh, none⟩) k c, .slice (some ⟨g, o, none⟩) l.length c']).run Try.prog w = .ok (goInt (min l.length k : Nat)) W) ∧ DB T d tot (putr rest hh (l.take k)) ext W ∧ Fr (fun i => i = d) w W := by
  have hcs : ((l.take k).map bv).length = Nat.min l.length k := by simp [Nat.min_comm]
  have hcs' : ((l.take k).map bv).length = min l.length k := hcs
  refine ⟨w.setRow d ((dcells tot rest ext).toArray.toList.take (1 + hh) ++ (l.take k).map bv ++ (dcells tot rest ext).toArray.toList.drop (1 + hh + ((l.take k).map bv).length)).toArray, ?_, ?_, (Fr.refl _ _).setRow _ _ (.inl rfl)⟩
  · intro ty c c'
    have := run_copy_row Try.prog w 22 22 ty 5 d (1 + hh) k c ⟨g, o, none⟩ l.length c' (dcells tot rest ext).toArray T ((l.take k).map bv) Try.underlying22 info5 h hcs ?_ ?_ ?_
    · rw [hcs'] at this
      rw [hcs']
      exact this
    · intro j v hv
      simp only [List.getElem?_map, Option.map_eq_some_iff] at hv
      obtain ⟨b, hb, rfl⟩ := hv
      rw [List.getElem?_take] at hb
      split at hb
      · rw [add_addr]; exact hl.at j b hb
      · cases hb
    · rw [hcs']
      simp only [List.size_toArray, dcells, List.length_cons, List.length_append, List.length_map, hr]
      omega
    · intro v hv
      simp only [List.mem_map] at hv
      obtain ⟨b, _, rfl⟩ := hv
      rfl
  · have hm : (l.take k).length ≤ k := by simp; omega
    have e : (dcells tot rest ext).toArray.toList.take (1 + hh) ++ (l.take k).map bv ++ (dcells tot rest ext).toArray.toList.drop (1 + hh + ((l.take k).map bv).length) = dcells tot (putr rest hh (l.take k)) ext := by
      generalize l.take k = p at hm ⊢
      simp only [dcells, putr, List.map_append, List.map_take, List.map_drop, List.length_map]
      rw [Nat.add_comm 1 hh, List.take_succ_cons, show hh + 1 + p.length = (hh + p.length) + 1 by omega, List.drop_succ_cons]
      rw [List.take_append_of_le_length (by simp; omega), List.drop_append_of_le_length (by simp; omega)]
      simp
    rw [e]
    exact setRow_heap w d _ _ T _ h
theorem copy_none (w : World) (ty : TypeId) (a : Addr) (dLen dCap : Nat) (b : Option Addr) : (Builtin.copy_ #[22, 22] ty #[.slice (some a) dLen dCap, .slice b 0 0]).run Try.prog w = .ok (goInt 0) w := by
  cases b with
  | none => exact run_copy_nil Try.prog w 22 22 ty 5 a dLen dCap Try.underlying22 (by rw [info5]; rfl)
  | some b =>
    cases hq : Try.prog.info? 5 with
    | none => have := info5; rw [hq] at this; cases this
    | some i =>
      have hl : (loadCells b 0).run Try.prog w = .ok #[] w := run_loadCells_list (P := Try.prog) w b [] (fun j v hj => by simp at hj)
      simp [Builtin.copy_, run_underlying Try.underlying22, Builtin.lenOf, Builtin.firstCells, sizeOf, typeInfo, hq, storeCells, hl]
theorem DB.setTot {T d tot : Nat} {rest : List By} {ext : List Value} {w : World} (h : DB T d tot rest ext w) (t : Nat) (z : Int) (hz : z = t) : DB T d t rest ext (w.setCell ⟨d, 0, none⟩ (.int .u64 z)) := by
  subst hz
  unfold DB at h ⊢
  simp only [World.setCell, Array.getElem?_modify, h]
  simp [dcells]

/-! ### What a digest becomes -/
structure Res {α : Type} (size : Nat) (f : α → List By → α) (x : α) (y : List By) (x' : α) (rest' : List By) : Prop where
  lanes : x' = foldc size f (y.length / size) x y
  rest : rest'.take (y.length % size) = y.drop (y.length / size * size)
theorem res_few {α : Type} (size : Nat) (f : α → List By → α) (x : α) (rest : List By) (h : Nat) (b : List By) (hr : rest.length = 32) (hs : size ≤ 32) (hh : h + b.length < size) : Res size f x (rest.take h ++ b) x (putr rest h b) := by
  have hl : (rest.take h ++ b).length = h + b.length := by simp; omega
  have hd : (h + b.length) / size = 0 := Nat.div_eq_of_lt hh
  refine ⟨by rw [hl, hd]; rfl, ?_⟩
  rw [hl, hd, Nat.mod_eq_of_lt hh, putr_take _ _ _ (by omega)]; simp
theorem res_none {α : Type} (size : Nat) (f : α → List By → α) (x : α) (rest : List By) (b : List By) (hr : rest.length = 32) (hs : size ≤ 32) (hs0 : 0 < size) : Res size f x (rest.take 0 ++ b) (foldc size f (b.length / size) x b) (putr rest 0 ((b.drop (b.length / size * size)).take size)) := by
  have hm := mod_split b.length size
  have hlt := Nat.mod_lt b.length hs0
  have hl : (b.drop (b.length / size * size)).length = b.length % size := by simp; omega
  have ht : (b.drop (b.length / size * size)).take size = b.drop (b.length / size * size) := List.take_of_length_le (by omega)
  refine ⟨by simp, ?_⟩
  rw [ht]
  have := putr_take rest 0 (b.drop (b.length / size * size)) (by omega)
  simp only [hl, Nat.zero_add, List.take_zero, List.nil_append] at this ⊢
  exact this
theorem res_more {α : Type} (size : Nat) (f : α → List By → α) (x : α) (rest rest' : List By) (h m : Nat) (b : List By) (hr : rest.length = 32) (hr' : rest'.length = 32) (hs : size ≤ 32) (hs0 : 0 < size) (hh : h + m = size) (hb : m ≤ b.length) :
    Res size f x (rest.take h ++ b) (foldc size f ((b.drop m).length / size) (f x (rest.take h ++ b.take m)) (b.drop m)) (putr rest' 0 (((b.drop m).drop ((b.drop m).length / size * size)).take size)) := by
  obtain ⟨h1, h2⟩ := res_none size f (f x (rest.take h ++ b.take m)) rest' (b.drop m) hr' hs hs0
  simp only [List.take_zero, List.nil_append] at h1 h2
  have hl : (rest.take h ++ b).length = (b.drop m).length + size := by simp; omega
  have hd : (rest.take h ++ b).length / size = (b.drop m).length / size + 1 := by rw [hl, Nat.add_div_right _ hs0]
  have he : rest.take h ++ b = (rest.take h ++ b.take m) ++ b.drop m := by rw [List.append_assoc, List.take_append_drop]
  have hpl : (rest.take h ++ b.take m).length = size := by simp; omega
  refine ⟨?_, ?_⟩
  · rw [hd, he, Nat.add_comm, foldc_app size f 1 _ x _ _ (by omega)]
    show _ = foldc size f _ (f x ((rest.take h ++ b.take m).take size)) _
    rw [List.take_of_length_le (l := rest.take h ++ b.take m) (Nat.le_of_eq hpl)]
  · rw [hd, hl, Nat.add_mod_right, h2, he, Nat.add_mul, Nat.one_mul, Nat.add_comm, ← List.drop_drop, List.drop_append_of_le_length (by omega), List.drop_of_length_le (by omega : (rest.take h ++ b.take m).length ≤ size), List.nil_append]
end Go.Proofs.Ytdeefemeiggolaa

namespace Go.Proofs.Ytdeefemeiggolaa
open Go.RowKit
set_option linter.unusedVariables false

/-- What is asked of the one that mixes. -/
def Mixes {α : Type} (T d size : Nat) (enc : α → List Value) (f : α → List By → α) (c : Nat) (cap : Array Value) (w : World) : Prop :=
  ∀ W tot rest x g u p, Fr (fun k => k = d) w W → DB T d tot rest (enc x) W → rest.length = 32 → p.length = size → Rp d g u p W →
    Calls Try.prog c (#[u] ++ cap) W fun e w' => (∃ r, e = .returned r) ∧ DB T d tot rest (enc (f x p)) w' ∧ Fr (fun k => k = d) W w'
/-- The last step of stripes: the pieces, and what is left is laid by. -/
def Lays {α : Type} (T d tot size : Nat) (rest : List By) (enc : α → List Value) (f : α → List By → α) (x : α) (b : List By) (w : World) (e : Ending) (w' : World) : Prop :=
  ∃ a n c, e = .returned (.slice a n c) ∧ ∃ W2 k, (∀ ty c1, (Builtin.copy_ #[22, 22] ty #[.slice (some ⟨d, 1, none⟩) size c1, .slice a n c]).run Try.prog w' = .ok k W2) ∧
    DB T d tot (putr rest 0 ((b.drop (b.length / size * size)).take size)) (enc (foldc size f (b.length / size) x b)) W2 ∧ Fr (fun k => k = d) w W2
theorem lays_any {α : Type} (T d tot size : Nat) (hs : 0 < size) (hs2 : size ≤ 32) (rest : List By) (hr : rest.length = 32) (enc : α → List Value) (f : α → List By → α) (x : α) (c : Nat) (eg : ∀ args w, (callFunc c args).run Try.prog w = .ok (.enter c args) w) (cap : Array Value) (w : World)
    (hm : Mixes T d size enc f c cap w) (v : Value) (b : List By) (hv : Sl (fun k => k = d) v b w) (h : DB T d tot rest (enc x) w) :
    Calls Try.prog 87 #[v, .int .i64 size, .func (.func c) #[] cap] w (Lays T d tot size rest enc f x b w) := by
  rcases hv with ⟨a, rfl, rfl⟩ | ⟨g, hg, hv⟩
  · refine (pieces_nil a size hs c cap w).mono ?_
    rintro e w' ⟨rfl, hN⟩
    refine ⟨a, 0, 0, rfl, w', goInt 0, fun ty c1 => copy_none w' ty ⟨d, 1, none⟩ size c1 a, ?_, hN.any⟩
    have : putr rest 0 ((([] : List By).drop (0 / size * size)).take size) = rest := by simp [putr]
    simp only [List.length_nil, Nat.zero_div, Nat.zero_mul, List.drop_zero, List.take_nil, foldc]
    rw [show putr rest 0 [] = rest by simp [putr]]
    exact h.nw hN
  · have hP := pieces_any g v b size hs (by omega) c eg cap w (fun k W => DB T d tot rest (enc (foldc size f k x b)) W ∧ Fr (fun k => k = d) w W) ⟨h, Fr.refl _ _⟩
      (fun k W hk => hv.kept hk.2 hg) (fun k W u hk hl hu => by
        have hl' : k * size + size ≤ b.length := by rw [Nat.add_mul] at hl; omega
        have hpl : ((b.drop (k * size)).take size).length = size := by simp; omega
        refine (hm W tot rest (foldc size f k x b) g u _ hk.2 hk.1 hr hpl ?_).mono ?_
        · obtain ⟨o, c, h1, h2, h3, h4⟩ := hu
          exact ⟨o, c, h1, h2, h3, h4, .inl hg⟩
        · rintro e w' ⟨h1, h2, h3⟩
          exact ⟨h1, by rw [foldc_snoc]; exact h2, hk.2.trans h3⟩)
    refine hP.mono ?_
    rintro e w' ⟨u, rfl, hu, hD, hF⟩
    obtain ⟨o, c, rfl, h2, h3, h4⟩ := hu
    obtain ⟨W2, k1, k2, k3⟩ := copyd T d tot rest _ w' hD hr g o 0 _ h4 0 size (by omega)
    exact ⟨_, _, _, rfl, W2, _, fun ty c1 => k1 ty c1 _, k2, hF.trans k3⟩
end Go.Proofs.Ytdeefemeiggolaa

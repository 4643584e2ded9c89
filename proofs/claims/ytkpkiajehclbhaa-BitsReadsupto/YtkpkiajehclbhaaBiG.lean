import Derived.Test.YtkpkiajehclbhaaBiF
namespace Go.Proofs.Ytkpkiajehclbhaa
open Go.RowKit
set_option linter.unusedVariables false
variable {T : Nat} {K : Nat → Prop} {rb : Nat} {v : Value} {V N p : Nat} {w : World}
set_option maxHeartbeats 8000000 in
theorem sleft_any (h : Rr 31 K rb v (bl V N) p w) (hp : p ≤ N) : Calls Try.prog 21 #[.pointer (some ⟨rb, 0, none⟩)] w fun e w' => e = .returned (.int .i64 (N - p : Nat)) ∧ Nw w w' := by
  obtain ⟨P, hP⟩ : ∃ P : Ending → World → Prop, P = fun e w' => e = .returned (.int .i64 (N - p : Nat)) ∧ Nw w w' := ⟨_, rfl⟩
  rw [← hP]
  obtain ⟨a, c, hv, hc, hc2, hi, hca⟩ := h.form
  obtain ⟨x0, x1, _⟩ := h.cells
  have hbl := h.bl
  rw [bl_length] at hv hc hbl
  subst hv
  have hq : (N : Int) - (p : Int) = ((N - p : Nat) : Int) := by omega
  have HF : Hid (∀ V, Nw w V → P (.returned (.int .i64 (N - p : Nat))) V) := fun V hV => by rw [hP]; exact ⟨rfl, hV⟩
  clear hP h hi hca
  generalize N - p = q at *
  go_enter Try.func21, Try.ntmps21
  go_wp2_with fail
  go_quiet (fail)
  go_wp2_with fail
  exact HF.out _ ((Fr.refl _ _).drewN _)
theorem take_next (V p I : Nat) : V / 2 ^ p % 2 ^ (I + 1) = V / 2 ^ p % 2 ^ I + 2 ^ I * (V / 2 ^ (p + I) % 2) := by
  rw [Nat.pow_add 2 p, ← Nat.div_div_eq_div_mul, Nat.pow_succ, Nat.mod_mul]
/-- How the document's Take stands in its loop. -/
def SkI (K : Nat → Prop) (rb : Nat) (v : Value) (V N p : Nat) (w : World) (I x y q : Nat) (wr : World) : Prop :=
  q = p + I ∧ x = V / 2 ^ p % 2 ^ I ∧ (I < 32 → y = 2 ^ I) ∧ Rr 31 K rb v (bl V N) q wr ∧ Fr (fun k => k = rb) w wr
theorem SkI.step {wr : World} {I x y q : Nat} (h : SkI K rb v V N p w I x y q wr) (hI : I < 32) (hq : q < N) :
    ∃ t : Nat, t < 2 ∧ (∃ g o c, v = .slice (some ⟨g, o, none⟩) N c ∧ q < c ∧ c < 9223372036854775808 ∧ ∀ W, Nw wr W → W.cell? ⟨g, o + q, none⟩ = some (.int .u8 t) ∧ W.cell? ⟨rb, 0, none⟩ = some v ∧ W.cell? ⟨rb, 1, none⟩ = some (.int .i64 q) ∧ W.frozen? ⟨rb, 1, none⟩ = false) ∧ x + y * t < 4294967296 ∧ y < 4294967296 ∧ ∀ W, Nw wr W → SkI K rb v V N p w (I + 1) (x + y * t) (y * 2 % 4294967296) (q + 1) (W.setCell ⟨rb, 1, none⟩ (.int .i64 ((q : Int) + 1))) := by
  obtain ⟨hq1, hx, hy, hR, hF⟩ := h
  have hy := hy hI
  have hlim : 2 ^ (I + 1) ≤ 4294967296 := by
    have : 2 ^ (I + 1) ≤ 2 ^ 32 := Nat.pow_le_pow_right (by decide) (by omega)
    exact this
  rw [Nat.pow_succ, ← hy] at hlim
  have ht : V / 2 ^ q % 2 < 2 := Nat.mod_lt _ (by decide)
  have hxl : x < y := by rw [hx, hy]; exact Nat.mod_lt _ (Nat.pow_pos (by decide))
  have hn := take_next V p I
  rw [← hq1, ← hx, ← hy] at hn
  have hq8 : q < (bl V N).length := by rw [bl_length]; exact hq
  refine ⟨V / 2 ^ q % 2, ht, ?_, ?_, by omega, ?_⟩
  · obtain ⟨a, c, hv, hc, hc2, hi, _⟩ := hR.form
    obtain ⟨g, o, rfl, hcell⟩ := hi.at q hq8
    rw [bl_length] at hv hc
    refine ⟨g, o, c, hv, by omega, hc2, fun W hW => ?_⟩
    obtain ⟨x0, x1, x2⟩ := (hR.nw hW).cells
    refine ⟨?_, x0, x1, x2⟩
    rw [hW.cell hcell]
    have hb := bl_at V N q hq
    rw [List.getElem?_eq_getElem hq8] at hb
    injection hb with hb
    rw [hb, BitVec.toNat_ofNat, Nat.mod_eq_of_lt (by omega)]
  · have : V / 2 ^ q % 2 = 0 ∨ V / 2 ^ q % 2 = 1 := by omega
    rcases this with e | e <;> rw [e] <;> omega
  · intro W hW
    obtain ⟨k1, k2⟩ := (hR.nw hW).go (q + 1) ((q : Int) + 1) (by omega)
    refine ⟨by omega, hn.symm, fun hI2 => ?_, k1, (hF.trans hW.any).trans k2⟩
    have : 2 ^ (I + 1) < 2 ^ 32 := Nat.pow_lt_pow_right (by decide) hI2
    rw [Nat.pow_succ, ← hy] at this
    rw [Nat.pow_succ, ← hy, Nat.mod_eq_of_lt this]
set_option maxHeartbeats 8000000 in
set_option maxRecDepth 100000 in
theorem stake_any (h : Rr 31 K rb v (bl V N) p w) (hp : p ≤ N) (n : Int) : Calls Try.prog 13 #[.pointer (some ⟨rb, 0, none⟩), .int .i64 n] w (Tkn 31 K rb v (bl V N) w (takeF N V p n)) := by
  obtain ⟨P, hP⟩ : ∃ P, P = Tkn 31 K rb v (bl V N) w (takeF N V p n) := ⟨_, rfl⟩
  rw [← hP]
  have hbl := h.bl
  rw [bl_length] at hbl
  by_cases h1 : n < 0
  · have HF : Hid (P (.returned (.tuple #[.int .u32 0, .int .i64 1])) w) := by
      show P _ _
      rw [hP, takeF, if_pos (.inl h1)]; exact ⟨rfl, h, Fr.refl _ _⟩
    clear hP h
    go_enter Try.func13, Try.ntmps13
    go_wp2
    exact HF.out
  by_cases h2 : 32 < n
  · have HF : Hid (P (.returned (.tuple #[.int .u32 0, .int .i64 1])) w) := by
      show P _ _
      rw [hP, takeF, if_pos (.inr h2)]; exact ⟨rfl, h, Fr.refl _ _⟩
    clear hP h
    have h1' : ¬ n < 0 := h1
    go_enter Try.func13, Try.ntmps13
    go_wp2
    exact HF.out
  obtain ⟨a, c, hv, hc, hc2, hi, hca⟩ := h.form
  obtain ⟨x0, x1, x2⟩ := h.cells
  rw [bl_length] at hv hc
  clear hi hca
  obtain ⟨q, hq⟩ : ∃ q, q = N - p := ⟨_, rfl⟩
  have hqi : (N : Int) - (p : Int) = (q : Int) := by omega
  by_cases h3 : (q : Int) < n
  · have HF : Hid (∀ V, Nw w V → P (.returned (.tuple #[.int .u32 0, .int .i64 50])) V) := by
      intro V hV
      rw [hP, takeF, if_neg (by omega), ← hq, if_pos h3]; exact ⟨rfl, h.nw hV, hV.any⟩
    clear hP h hq
    subst hv
    go_enter Try.func13, Try.ntmps13
    go_wp2_with fail
    go_quiet (fail)
    go_wp2_with fail
    exact HF.out _ ((Fr.refl _ _).drewN _)
  · obtain ⟨m, rfl⟩ : ∃ m : Nat, n = m := ⟨n.toNat, by omega⟩
    have hm : m ≤ 32 := by omega
    have HF : Hid (∀ x y q W, SkI K rb v V N p w m x y q W → P (.returned (.tuple #[.int .u32 x, .int .i64 0])) W) := by
      rintro x y q' W ⟨e1, e2, e3, e4, e5⟩
      rw [hP, takeF, if_neg (by omega), ← hq, if_neg h3, Int.toNat_natCast, ← e1, ← e2]
      exact ⟨rfl, e4, e5⟩
    have HI0 : Hid (∀ W, Nw w W → SkI K rb v V N p w 0 0 1 p W) := fun W hW => ⟨by omega, by simp [Nat.mod_one], fun _ => by simp, h.nw hW, hW.any⟩
    have hmq : p + m ≤ N := by omega
    have x0' := x0
    rw [hv] at x0'
    clear hP h hq x0
    go_enter Try.func13, Try.ntmps13
    go_wp2_with fail
    go_quiet (fail)
    have HI1 : Hid (SkI K rb v V N p w 0 0 1 p (w.drewN nq)) := HI0.out _ ((Fr.refl _ _).drewN _)
    clear HI0
    generalize w.drewN nq = w0 at *
    go_wp2_with fail
    go_loopg [6, 7, 8] m (fun kx xx yy i wr => ∃ (I x y q : Nat), I ≤ m ∧ m - I ≤ kx ∧ xx = .int .u32 x ∧ yy = .int .u32 y ∧ i = .int .i64 I ∧ Hid (SkI K rb v V N p w I x y q wr))
    case atStart => exact ⟨0, 0, 1, p, by omega, by omega, rfl, rfl, rfl, HI1⟩
    case round =>
      obtain ⟨I, x, y, q', hI, hkx, rfl, rfl, rfl, HI⟩ := hrel
      clear HI1
      by_cases hlt : I < m
      · have hq' := HI.out.1
        obtain ⟨t, ht2, ⟨g, o, c', e, hqc, hc2', HC⟩, hb1, hb2, HN⟩ := HI.out.step (by omega) (by omega)
        have HN' : Hid (∀ W, Nw wr W → SkI K rb v V N p w (I + 1) (x + y * t) (y * 2 % 4294967296) (q' + 1) (W.setCell ⟨rb, 1, none⟩ (.int .i64 ((q' : Int) + 1)))) := HN
        have HC' : Hid (∀ W, Nw wr W → W.cell? ⟨g, o + q', none⟩ = some (.int .u8 t) ∧ W.cell? ⟨rb, 0, none⟩ = some v ∧ W.cell? ⟨rb, 1, none⟩ = some (.int .i64 q') ∧ W.frozen? ⟨rb, 1, none⟩ = false) := HC
        obtain ⟨y0, y1, y2, y3⟩ := HC wr (Fr.refl _ _)
        rw [e] at y1
        obtain ⟨y', hy'⟩ : ∃ y', y' = y * 2 % 4294967296 := ⟨_, rfl⟩
        have hyw : IntKind.u32.wrap ((y : Int) * 2) = (y' : Int) := by rw [IntKind.wrap_u32]; omega
        have hz1 : (I : Int) < (m : Int) := by omega
        have hqN : q' < N := by omega
        rw [← hy'] at HN'
        clear HI HN HC HF hy' hq'
        have : t = 0 ∨ t = 1 := by omega
        rcases this with rfl | rfl
        · have HN2 : Hid (∀ W, Nw wr W → SkI K rb v V N p w (I + 1) x y' (q' + 1) (W.setCell ⟨rb, 1, none⟩ (.int .i64 ((q' : Int) + 1)))) := fun W hW => by have := HN'.out W hW; rwa [Nat.mul_zero, Nat.add_zero] at this
          replace y0 : wr.cell? ⟨g, o + q', none⟩ = some (.int .u8 0) := y0
          clear HN'
          go_wp2_with fail
          go_quiet (fail)
          obtain ⟨z0, z1, z2, z3⟩ := HC'.out (wr.drewN nq) ((Fr.refl _ _).drewN _)
          go_wp2_with fail
          go_roundg (m - (I + 1))
          case measure => omega
          case rel => exact ⟨I + 1, x, y', q' + 1, by omega, by omega, rfl, rfl, by first | rfl | (congr 1), HN2.out _ ((Fr.refl _ _).drewN _)⟩
        · obtain ⟨x', hx'⟩ : ∃ x', x' = x + y := ⟨_, rfl⟩
          have hxw : (x : Int) + (y : Int) = (x' : Int) := by omega
          have HN2 : Hid (∀ W, Nw wr W → SkI K rb v V N p w (I + 1) x' y' (q' + 1) (W.setCell ⟨rb, 1, none⟩ (.int .i64 ((q' : Int) + 1)))) := fun W hW => by have := HN'.out W hW; rwa [Nat.mul_one, ← hx'] at this
          have hx'b : x' < 4294967296 := by omega
          replace y0 : wr.cell? ⟨g, o + q', none⟩ = some (.int .u8 1) := y0
          clear HN' hx' hb1
          go_wp2_with fail
          go_quiet (fail)
          obtain ⟨z0, z1, z2, z3⟩ := HC'.out (wr.drewN nq) ((Fr.refl _ _).drewN _)
          go_wp2_with fail
          go_roundg (m - (I + 1))
          case measure => omega
          case rel => exact ⟨I + 1, x', y', q' + 1, by omega, by omega, rfl, rfl, by first | rfl | (congr 1), HN2.out _ ((Fr.refl _ _).drewN _)⟩
      · obtain rfl : I = m := by omega
        have HF2 := HF.out _ _ _ _ HI.out
        have HF3 : Hid (P (.returned (.tuple #[.int .u32 x, .int .i64 0])) wr) := HF2
        clear HF HF2 HI
        go_wp2_with fail
        exact HF3.out
end Go.Proofs.Ytkpkiajehclbhaa

import Derived.Test.YtdeefemeiggolaaQp
namespace Go.Proofs.Ytdeefemeiggolaa
open Go.RowKit
set_option linter.unusedVariables false
variable {D rb g o c : Nat} {b : List By} {most p : Nat} {out : List By} {K : Nat → Prop} {w : World}
/-! ### Flags -/
theorem and_bit (x k : Nat) (h : x < 256) (hk : k < 8) : bits .and .u8 (x : Int) ((2 ^ k : Nat) : Int) = ((2 ^ k * (x / 2 ^ k % 2) : Nat) : Int) := by
  have hk2 : 2 ^ k < 256 := by
    have := Nat.pow_lt_pow_right (a := 2) (by decide) hk
    simpa using this
  rw [u8_and_nat _ _ h hk2]
  congr 1
  apply Nat.eq_of_testBit_eq
  intro i
  rw [Nat.testBit_and, Nat.testBit_two_pow]
  have e : 2 ^ k * (x / 2 ^ k % 2) = (x / 2 ^ k % 2) <<< k := by rw [Nat.shiftLeft_eq, Nat.mul_comm]
  rw [e, Nat.testBit_shiftLeft]
  by_cases hi : k = i
  · subst hi
    simp [Nat.testBit, Nat.shiftRight_eq_div_pow]
  · by_cases hki : k ≤ i
    · have hp : (x / 2 ^ k % 2).testBit (i - k) = false := Nat.testBit_lt_two_pow (Nat.lt_of_lt_of_le (Nat.mod_lt _ (by decide)) (Nat.pow_le_pow_right (n := 2) (by decide) (show 1 ≤ i - k by omega)))
      simp [hi, hp]
    · simp [hi, hki]
/-- The flags of a shape at block s from x on. -/
def fcells (sb x : Nat) : List Value := [.int .u8 32, .pointer (some ⟨sb, x + 1, none⟩), .int .u8 16, .pointer (some ⟨sb, x + 2, none⟩), .int .u8 8, .pointer (some ⟨sb, x + 4, none⟩), .int .u8 4, .pointer (some ⟨sb, x + 3, none⟩)]
set_option maxHeartbeats 8000000 in
set_option maxRecDepth 100000 in
theorem fflagsOf_any (sb x : Nat) (w : World) : Calls Try.prog 52 #[.pointer (some ⟨sb, x, none⟩)] w fun e w' => e = .returned (.slice (some ⟨w.heap.size, 0, none⟩) 4 4) ∧ w'.heap[w.heap.size]? = some (.cells (fcells sb x).toArray 93) ∧ Nw w w' := by
  go_enter Try.func52, Try.ntmps52
  go_wp2_with fail
  go_region
  go_wp2
  go_ret
  refine ⟨rfl, ?_, ((Fr.refl _ _).alloc _).drew⟩
  show (w.heap.push _)[w.heap.size]? = _
  simp [fcells]
/-- A frame's telling in memory. -/
def frow (f : Fm) : Array Value := #[.int .i64 f.frm, .int .i64 f.till, .bool f.skipped, .int .i64 f.user, .int .i64 f.shape.block, .bool f.shape.alone, .bool f.shape.bsum, .bool f.shape.csum, .bool f.shape.csize, .int .i64 f.blocks, .int .i64 f.plain, .int .i64 f.size]
def FB (fb : Nat) (f : Fm) (w : World) : Prop := w.heap[fb]? = some (.cells (frow f) 49)
theorem FB.kept {fb : Nat} {f : Fm} {w w' : World} {X : Nat → Prop} (h : FB fb f w) (hF : Fr X w w') (hx : ¬ X fb) : FB fb f w' := row_kept h hF hx
theorem FB.nw {fb : Nat} {f : Fm} {w w' : World} (h : FB fb f w) (hF : Nw w w') : FB fb f w' := row_kept h hF (fun h => h)
theorem FB.lt {fb : Nat} {f : Fm} {w : World} (h : FB fb f w) : fb < w.heap.size := (Array.getElem?_eq_some_iff.1 h).1
theorem Cut.one {q : Nat} {v : Value} {y : By} (h : Cut D b q 1 v w) (hy : b[q]? = some y) : ∃ g' o' c', v = .slice (some ⟨g', o', none⟩) 1 c' ∧ 1 ≤ c' ∧ c' < 9223372036854775808 ∧ w.cell? ⟨g', o', none⟩ = some (.int .u8 y.toNat) := by
  obtain ⟨a, k, rfl, h1, h2, h3⟩ := h
  have e : tk b q 1 = [y] := by
    obtain ⟨hq, hy⟩ := List.getElem?_eq_some_iff.1 hy
    unfold tk
    rw [List.drop_eq_getElem_cons hq, hy]; rfl
  rw [e] at h3
  rcases h3 with ⟨_, _, h3⟩ | ⟨g', _, o', c', h4, h5, h6, h7⟩
  · cases h3
  · refine ⟨g', o', c', h4, h5, h6, ?_⟩
    have := h7 0 (by simp)
    simpa using this
theorem and192 (x : Nat) (h : x < 256) : bits .and .u8 (x : Int) 192 = ((64 * (x / 64) : Nat) : Int) := by
  have e := u8_and_nat x 192 h (by decide)
  have e2 : ((192 : Nat) : Int) = 192 := rfl
  rw [e2] at e
  rw [e, show 192 = (2 ^ 2 - 1) <<< 6 by decide, and_high x 6 2 (by omega)]
set_option maxRecDepth 100000 in
theorem and143 (x : Nat) (h : x < 256) : (bits .and .u8 (x : Int) 143 = 0) ↔ ¬ (x / 128 = 1 ∨ x % 16 ≠ 0) := by
  have e := u8_and_nat x 143 h (by decide)
  have e2 : ((143 : Nat) : Int) = 143 := rfl
  rw [e2] at e
  rw [e]
  have : ∀ z : Fin 256, (z.val &&& 143 = 0) ↔ ¬ (z.val / 128 = 1 ∨ z.val % 16 ≠ 0) := by decide
  have := this ⟨x, h⟩
  simp only at this
  omega
set_option maxHeartbeats 8000000 in
theorem rflags_short (h : RdI D rb g o c b most p out K w) (u : Value) (hp : b[p]? = none) : Calls Try.prog 91 #[.pointer (some ⟨rb, 0, none⟩), u] w fun e w' => e = flt b.length 4 ∧ Nw w w' := by
  have hp' : b.length < p + 1 := by rw [List.getElem?_eq_none_iff] at hp; omega
  have HC : Hid (Calls Try.prog 65 #[.pointer (some ⟨rb, 0, none⟩), .int .i64 1] w fun e w1 => ∃ ch, e = .panicked ch ∧ Hid (Ending.panicked ch = flt b.length 4 ∧ Nw w w1)) := by
    show Calls _ _ _ _ _
    refine (rtake_bad h 1 hp' (by decide)).mono ?_
    rintro e w1 ⟨rfl, h1⟩
    exact ⟨_, rfl, rfl, h1⟩
  obtain ⟨x0, x1, x2, x3, _⟩ := h.cells
  clear h
  go_enter Try.func91, Try.ntmps91
  go_wp2_with (first | (go_at_call 65; with_reducible refine HC.out.mono ?_; rintro e w1 ⟨ch, rfl, HF⟩))
  exact ⟨rfl, HF.out⟩
def mcells : List Value := [.int .u8 192, .int .u8 64, .int .i64 40, .int .u8 2, .int .u8 0, .int .i64 41, .int .u8 1, .int .u8 0, .int .i64 47]
def shpF (f : Fm) (y : By) : Fm := { f with shape := ⟨f.shape.block, decide (y.toNat / 32 % 2 = 1), decide (y.toNat / 16 % 2 = 1), decide (y.toNat / 4 % 2 = 1), decide (y.toNat / 8 % 2 = 1)⟩ }
/-- The flags told so far. -/
def flgF (f : Fm) (y : By) (I : Nat) : Fm := { f with shape := ⟨f.shape.block, if 1 ≤ I then decide (y.toNat / 32 % 2 = 1) else f.shape.alone, if 2 ≤ I then decide (y.toNat / 16 % 2 = 1) else f.shape.bsum, if 4 ≤ I then decide (y.toNat / 4 % 2 = 1) else f.shape.csum, if 3 ≤ I then decide (y.toNat / 8 % 2 = 1) else f.shape.csize⟩ }
set_option maxHeartbeats 16000000 in
set_option maxRecDepth 100000 in
theorem rflags_any (h : RdI D rb g o c b most p out K w) (fb : Nat) (f : Fm) (hf : FB fb f w) (hfr : fb ≠ rb) (hKf : K fb) (hDf : D ≤ fb) (y : By) (hy : b[p]? = some y) : Calls Try.prog 91 #[.pointer (some ⟨rb, 0, none⟩), .pointer (some ⟨fb, 4, none⟩)] w fun e w' => Fr (fun k => k = rb ∨ k = fb) w w' ∧ if flg y ≠ 0 then e = flt p (flg y) else (∃ r, e = .returned r) ∧ RdI D rb g o c b most (p + 1) out K w' ∧ FB fb (shpF f y) w' := by
  obtain ⟨P, hP⟩ : ∃ P : Ending → World → Prop, P = fun e w' => Fr (fun k => k = rb ∨ k = fb) w w' ∧ if flg y ≠ 0 then e = flt p (flg y) else (∃ r, e = .returned r) ∧ RdI D rb g o c b most (p + 1) out K w' ∧ FB fb (shpF f y) w' := ⟨_, rfl⟩
  rw [← hP]
  have hp : p + 1 ≤ b.length := by have := (List.getElem?_eq_some_iff.1 hy).1; omega
  have HC : Hid (Calls Try.prog 65 #[.pointer (some ⟨rb, 0, none⟩), .int .i64 1] w fun e w1 => ∃ g' o' c', e = .returned (.slice (some ⟨g', o', none⟩) 1 c') ∧ 1 ≤ c' ∧ c' < 9223372036854775808 ∧ w1.cell? ⟨g', o', none⟩ = some (.int .u8 y.toNat) ∧ Hid (RdI D rb g o c b most (p + 1) out K w1 ∧ Fr (fun k => k = rb) w w1)) := by
    show Calls _ _ _ _ _
    refine (rtake_ok h 1 hp).mono ?_
    rintro e w1 ⟨v, rfl, h1, h2, h3⟩
    obtain ⟨g', o', c', rfl, h4, h5, h6⟩ := h1.one hy
    exact ⟨g', o', c', rfl, h4, h5, h6, h2, h3⟩
  obtain ⟨x0, x1, x2, x3, _⟩ := h.cells
  have hyl := y.isLt
  have hpl : p < 140737488351232 := by have := h.bl; omega
  have HG : Hid (∀ V (q : Nat) (z : Int), z = q → Fr (fun k => k = rb ∨ k = fb) w V → flg y = q → q ≠ 0 → Hid (Calls Try.prog 66 #[.int .i64 p, .int .i64 z] V fun e w2 => ∃ ch, e = .panicked ch ∧ Hid (P (.panicked ch) w2))) := by
    intro V q z hz hV hq hq0
    subst hz
    show Calls _ _ _ _ _
    refine (fgiveUp_any p q V).mono ?_
    rintro e w3 ⟨rfl, rfl⟩
    refine ⟨_, rfl, ?_⟩
    show P _ _
    rw [hP]
    refine ⟨hV, ?_⟩
    rw [if_pos (by omega), hq]; rfl
  have HE : Hid (flg y = 0 → ∀ V r, RdI D rb g o c b most (p + 1) out K V → FB fb (flgF f y 4) V → Fr (fun k => k = rb ∨ k = fb) w V → P (.returned r) V) := by
    intro hq V r h1 h2 h3
    rw [hP]
    refine ⟨h3, ?_⟩
    rw [if_neg (by omega)]
    exact ⟨⟨_, rfl⟩, h1, h2⟩
  have HFB : Hid (FB fb f w) := hf
  clear h hP
  go_enter Try.func91, Try.ntmps91
  go_wp2_with (first | (go_at_call 65; with_reducible refine HC.out.mono ?_; rintro e w1 ⟨g', o', c', rfl, hc1, hc2, hcell, HI⟩))
  obtain ⟨hRI1, hF1⟩ := HI.out
  have HF1 : Hid (Fr (fun k => k = rb) w w1) := hF1
  obtain ⟨mb, hmb⟩ : ∃ mb, w1.heap.size = mb := ⟨_, rfl⟩
  have hrow : (w1.alloc (.cells mcells.toArray 147)).heap[mb]? = some (.cells mcells.toArray 147) := by
    rw [← hmb]
    show (w1.heap.push _)[w1.heap.size]? = _
    simp
  have hN2 : Nw w1 (w1.alloc (.cells mcells.toArray 147)) := (Fr.refl _ _).alloc _
  obtain ⟨W2, hW2⟩ : ∃ W2, W2 = w1.alloc (.cells mcells.toArray 147) := ⟨_, rfl⟩
  have e2 : w1.alloc (.cells #[.int .u8 192, .int .u8 64, .int .i64 40, .int .u8 2, .int .u8 0, .int .i64 41, .int .u8 1, .int .u8 0, .int .i64 47] 147) = W2 := hW2.symm
  rw [← hW2] at hrow hN2
  simp only [e2, hmb]
  have HR : Hid (∀ V, Nw W2 V → ∀ j v, mcells[j]? = some v → V.cell? ⟨mb, j, none⟩ = some v) := fun V hV j v hv => hV.cell (row_cell hrow j v (by simpa using hv)).1
  have HV : Hid (∀ V, Nw W2 V → RdI D rb g o c b most (p + 1) out K V ∧ FB fb f V ∧ Fr (fun k => k = rb ∨ k = fb) w V) := fun V hV => ⟨(hRI1.nw hN2).nw hV, (HFB.out.kept hF1 hfr).nw (hN2.trans hV), (hF1.mono (fun k hk => .inl (.inl hk))).trans (hN2.trans hV).any⟩
  have B0 : Hid (bits .and .u8 (y.toNat : Int) 192 = ((64 * (y.toNat / 64) : Nat) : Int)) := and192 _ hyl
  have B1 : Hid (bits .and .u8 (y.toNat : Int) 2 = ((2 * (y.toNat / 2 % 2) : Nat) : Int)) := and_bit _ 1 hyl (by decide)
  have B2 : Hid (bits .and .u8 (y.toNat : Int) 1 = ((1 * (y.toNat / 1 % 2) : Nat) : Int)) := and_bit _ 0 hyl (by decide)
  have B3 : Hid (bits .and .u8 (y.toNat : Int) 32 = ((32 * (y.toNat / 32 % 2) : Nat) : Int)) := and_bit _ 5 hyl (by decide)
  have B4 : Hid (bits .and .u8 (y.toNat : Int) 16 = ((16 * (y.toNat / 16 % 2) : Nat) : Int)) := and_bit _ 4 hyl (by decide)
  have B5 : Hid (bits .and .u8 (y.toNat : Int) 8 = ((8 * (y.toNat / 8 % 2) : Nat) : Int)) := and_bit _ 3 hyl (by decide)
  have B6 : Hid (bits .and .u8 (y.toNat : Int) 4 = ((4 * (y.toNat / 4 % 2) : Nat) : Int)) := and_bit _ 2 hyl (by decide)
  have Fl : Hid ((¬ y.toNat / 64 = 1 → flg y = 40) ∧ (y.toNat / 64 = 1 → y.toNat / 2 % 2 = 1 → flg y = 41) ∧ (y.toNat / 64 = 1 → ¬ y.toNat / 2 % 2 = 1 → y.toNat % 2 = 1 → flg y = 47) ∧ (y.toNat / 64 = 1 → ¬ y.toNat / 2 % 2 = 1 → ¬ y.toNat % 2 = 1 → flg y = 0)) := by
    show _ ∧ _
    unfold flg
    refine ⟨fun h => if_pos h, fun h1 h2 => ?_, fun h1 h2 h3 => ?_, fun h1 h2 h3 => ?_⟩
    · rw [if_neg (by omega), if_pos h2]
    · rw [if_neg (by omega), if_neg h2, if_pos h3]
    · rw [if_neg (by omega), if_neg h2, if_neg h3]
  clear hRI1 hF1 hrow hN2 HI hf HC HFB x0 x1 x2 x3 hW2 e2 hcell
  go_loopg [23] 3 (fun kx i wr => ∃ (I : Nat), I ≤ 3 ∧ 3 - I ≤ kx ∧ i = .int .i64 I ∧ Hid (Nw W2 wr ∧ (1 ≤ I → y.toNat / 64 = 1) ∧ (2 ≤ I → ¬ y.toNat / 2 % 2 = 1) ∧ (3 ≤ I → ¬ y.toNat % 2 = 1)))
  case atStart => exact ⟨0, by omega, by omega, rfl, Fr.refl _ _, fun h => by omega, fun h => by omega, fun h => by omega⟩
  case round =>
    obtain ⟨I, hI, hkx, rfl, HI⟩ := hrel
    obtain ⟨hN, hp1, hp2, hp3⟩ := HI.out
    have hI' : I = 0 ∨ I = 1 ∨ I = 2 ∨ I = 3 := by omega
    have HNN : Hid (Nw W2 wr) := hN
    have HP1 : Hid (1 ≤ I → y.toNat / 64 = 1) := hp1
    have HP2 : Hid (2 ≤ I → ¬ y.toNat / 2 % 2 = 1) := hp2
    have HP3 : Hid (3 ≤ I → ¬ y.toNat % 2 = 1) := hp3
    clear HI hp1 hp2 hp3
    rcases hI' with rfl | rfl | rfl | rfl
    · have c0 := HR.out wr hN 0 _ rfl
      have c1 := HR.out wr hN 1 _ rfl
      have c2 := HR.out wr hN 2 _ rfl
      have hA : Nw W2 (wr.alloc (.cells #[.int .u8 192, .int .u8 64, .int .i64 40] 147)) := hN.alloc _
      by_cases hb : ¬ y.toNat / 64 = 1
      · have HG' := HG.out _ 40 40 rfl (HV.out _ hA).2.2 (Fl.out.1 hb) (by decide)
        have hz0 : ¬ bits .and .u8 (y.toNat : Int) 192 = 64 := by rw [B0.out]; omega
        have hz : (bits .and .u8 (y.toNat : Int) 192 != 64) = true := by simp [hz0]
        clear HR HV HE HG Fl
        go_wp2_with (first | (go_at_call 66; with_reducible refine HG'.out.mono ?_; rintro e w3 ⟨ch, rfl, HF⟩))
        exact ⟨rfl, HF.out⟩
      · have hz0 : bits .and .u8 (y.toNat : Int) 192 = 64 := by rw [B0.out]; omega
        have hz : (bits .and .u8 (y.toNat : Int) 192 != 64) = false := by simp [hz0]
        clear hz0
        clear HR HV HE HG Fl
        go_wp2_with fail
        go_roundg 2
        all_goals (first | omega | exact ⟨1, by omega, by omega, rfl, hA, fun h => by first | omega | exact HP1.out (by omega), fun h => by first | omega | exact HP2.out (by omega), fun h => by omega⟩)
    · have c0 := HR.out wr hN 3 _ rfl
      have c1 := HR.out wr hN 4 _ rfl
      have c2 := HR.out wr hN 5 _ rfl
      have hA : Nw W2 (wr.alloc (.cells #[.int .u8 2, .int .u8 0, .int .i64 41] 147)) := hN.alloc _
      by_cases hb : y.toNat / 2 % 2 = 1
      · have HG' := HG.out _ 41 41 rfl (HV.out _ hA).2.2 (Fl.out.2.1 (HP1.out (by omega)) hb) (by decide)
        have hz0 : ¬ bits .and .u8 (y.toNat : Int) 2 = 0 := by rw [B1.out]; omega
        have hz : (bits .and .u8 (y.toNat : Int) 2 != 0) = true := by simp [hz0]
        clear HR HV HE HG Fl
        go_wp2_with (first | (go_at_call 66; with_reducible refine HG'.out.mono ?_; rintro e w3 ⟨ch, rfl, HF⟩))
        exact ⟨rfl, HF.out⟩
      · have hz0 : bits .and .u8 (y.toNat : Int) 2 = 0 := by rw [B1.out]; omega
        have hz : (bits .and .u8 (y.toNat : Int) 2 != 0) = false := by simp [hz0]
        clear hz0
        clear HR HV HE HG Fl
        go_wp2_with fail
        go_roundg 1
        all_goals (first | omega | exact ⟨2, by omega, by omega, rfl, hA, fun h => by first | omega | exact HP1.out (by omega), fun h => by first | omega | exact HP2.out (by omega), fun h => by omega⟩)
    · have c0 := HR.out wr hN 6 _ rfl
      have c1 := HR.out wr hN 7 _ rfl
      have c2 := HR.out wr hN 8 _ rfl
      have hA : Nw W2 (wr.alloc (.cells #[.int .u8 1, .int .u8 0, .int .i64 47] 147)) := hN.alloc _
      by_cases hb : y.toNat % 2 = 1
      · have HG' := HG.out _ 47 47 rfl (HV.out _ hA).2.2 (Fl.out.2.2.1 (HP1.out (by omega)) (HP2.out (by omega)) hb) (by decide)
        have hz0 : ¬ bits .and .u8 (y.toNat : Int) 1 = 0 := by rw [B2.out]; omega
        have hz : (bits .and .u8 (y.toNat : Int) 1 != 0) = true := by simp [hz0]
        clear HR HV HE HG Fl
        go_wp2_with (first | (go_at_call 66; with_reducible refine HG'.out.mono ?_; rintro e w3 ⟨ch, rfl, HF⟩))
        exact ⟨rfl, HF.out⟩
      · have hz0 : bits .and .u8 (y.toNat : Int) 1 = 0 := by rw [B2.out]; omega
        have hz : (bits .and .u8 (y.toNat : Int) 1 != 0) = false := by simp [hz0]
        clear hz0
        clear HR HV HE HG Fl
        go_wp2_with fail
        go_roundg 0
        all_goals (first | omega | exact ⟨3, by omega, by omega, rfl, hA, fun h => by first | omega | exact HP1.out (by omega), fun h => by first | omega | exact HP2.out (by omega), fun h => by omega⟩)
    · have hq : flg y = 0 := Fl.out.2.2.2 (HP1.out (by omega)) (HP2.out (by omega)) (HP3.out (by omega))
      have HE' : Hid (∀ V r, RdI D rb g o c b most (p + 1) out K V → FB fb (flgF f y 4) V → Fr (fun k => k = rb ∨ k = fb) w V → P (.returned r) V) := HE.out hq
      have HFO : Hid (Calls Try.prog 52 #[.pointer (some ⟨fb, 4, none⟩)] wr fun e w' => ∃ lb, e = .returned (.slice (some ⟨lb, 0, none⟩) 4 4) ∧ Hid (w'.heap[lb]? = some (.cells (fcells fb 4).toArray 93) ∧ lb ≠ fb ∧ RdI D rb g o c b most (p + 1) out K w' ∧ FB fb (flgF f y 0) w' ∧ Fr (fun k => k = rb ∨ k = fb) w w')) := by
        show Calls _ _ _ _ _
        obtain ⟨v1, v2, v3⟩ := HV.out wr hN
        have hlt := v2.lt
        refine (fflagsOf_any fb 4 wr).mono ?_
        rintro e w4 ⟨rfl, h1, h2⟩
        exact ⟨_, rfl, h1, by omega, v1.nw h2, v2.nw h2, v3.trans h2.any⟩
      clear HR HV HE HG Fl HP1 HP2 HP3 HNN hN
      go_wp2_with (first | (go_at_call 52; with_reducible refine HFO.out.mono ?_; rintro e w4 ⟨lb, rfl, HL⟩))
      obtain ⟨l1, l2, l3, l4, l5⟩ := HL.out
      have HI0 : Hid (w4.heap[lb]? = some (.cells (fcells fb 4).toArray 93) ∧ RdI D rb g o c b most (p + 1) out K w4 ∧ FB fb (flgF f y 0) w4 ∧ Fr (fun k => k = rb ∨ k = fb) w w4) := ⟨l1, l3, l4, l5⟩
      clear HL l1 l3 l4 l5 HFO HF1
      clear hkx
      go_loopg [42] 4 (fun kx i wx => ∃ (I : Nat), I ≤ 4 ∧ 4 - I ≤ kx ∧ i = .int .i64 I ∧ Hid (wx.heap[lb]? = some (.cells (fcells fb 4).toArray 93) ∧ RdI D rb g o c b most (p + 1) out K wx ∧ FB fb (flgF f y I) wx ∧ Fr (fun k => k = rb ∨ k = fb) w wx))
      case atStart => exact ⟨0, by omega, by omega, rfl, HI0.out⟩
      case round =>
        obtain ⟨I, hI, hkx, rfl, HI⟩ := hrel
        clear HI0
        have hI' : I = 0 ∨ I = 1 ∨ I = 2 ∨ I = 3 ∨ I = 4 := by omega
        have ST : Hid (∀ (j k : Nat) (V : World) (x y1 : Value) (v : Bool), Nw wr V → (frow (flgF f y I))[4 + j]? = some x → (frow (flgF f y I)).setIfInBounds (4 + j) (.bool v) = frow (flgF f y (I + 1)) → V.cell? ⟨fb, 4 + j, none⟩ = some x ∧ V.frozen? ⟨fb, 4 + j, none⟩ = false ∧ Hid ((V.setCell ⟨fb, 4 + j, none⟩ (.bool v)).heap[lb]? = some (.cells (fcells fb 4).toArray 93) ∧ RdI D rb g o c b most (p + 1) out K (V.setCell ⟨fb, 4 + j, none⟩ (.bool v)) ∧ FB fb (flgF f y (I + 1)) (V.setCell ⟨fb, 4 + j, none⟩ (.bool v)) ∧ Fr (fun k => k = rb ∨ k = fb) w (V.setCell ⟨fb, 4 + j, none⟩ (.bool v)))) := by
          intro j k V x y1 v hV hx he
          obtain ⟨h1, h2, h3, h4⟩ := HI.out
          have h3' := h3.nw hV
          have f2 : Fr (fun k => k = fb) V (V.setCell ⟨fb, 4 + j, none⟩ (.bool v)) := (Fr.refl _ _).setCell _ _ (.inl rfl)
          refine ⟨(row_cell h3' _ _ hx).1, (row_cell h3' _ _ hx).2, row_kept (hV.heap h1) f2 l2, (h2.nw hV).keep f2 (fun k hk => .inl ⟨by subst hk; exact hKf, by subst hk; exact hDf, by subst hk; exact hfr⟩) (fun k hk => hk) (fun k hk => .inl hk), ?_, (h4.trans hV.any).trans (f2.mono (fun k hk => .inl (.inr hk)))⟩
          have := row_set h3' (4 + j) (.bool v)
          rw [he] at this
          exact this
        have CL : Hid (∀ j v, (fcells fb 4)[j]? = some v → wr.cell? ⟨lb, j, none⟩ = some v) := fun j v hv => (row_cell HI.out.1 j v (by simpa using hv)).1
        rcases hI' with rfl | rfl | rfl | rfl | rfl
        · have c0 := CL.out 0 _ rfl
          have c1 := CL.out 1 _ rfl
          have hA : Nw wr (wr.alloc (.cells #[.int .u8 32, .pointer (some ⟨fb, 4 + 1, none⟩)] 93)) := (Fr.refl _ _).alloc _
          have hz : (bits .and .u8 (y.toNat : Int) 32 != 0) = decide (y.toNat / 32 % 2 = 1) := by
            rw [B3.out, Bool.eq_iff_iff]
            simp only [bne_iff_ne, ne_eq, decide_eq_true_eq]
            omega
          obtain ⟨d0, d1, HN⟩ := ST.out 1 0 _ _ (.bool true) (decide (y.toNat / 32 % 2 = 1)) hA rfl rfl
          clear ST CL HI HE'
          generalize decide (y.toNat / 32 % 2 = 1) = bb at *
          go_wp2_with fail
          go_roundg 3
          all_goals (first | omega | exact ⟨1, by omega, by omega, rfl, HN.out⟩)
        · have c0 := CL.out 2 _ rfl
          have c1 := CL.out 3 _ rfl
          have hA : Nw wr (wr.alloc (.cells #[.int .u8 16, .pointer (some ⟨fb, 4 + 2, none⟩)] 93)) := (Fr.refl _ _).alloc _
          have hz : (bits .and .u8 (y.toNat : Int) 16 != 0) = decide (y.toNat / 16 % 2 = 1) := by
            rw [B4.out, Bool.eq_iff_iff]
            simp only [bne_iff_ne, ne_eq, decide_eq_true_eq]
            omega
          obtain ⟨d0, d1, HN⟩ := ST.out 2 0 _ _ (.bool true) (decide (y.toNat / 16 % 2 = 1)) hA rfl rfl
          clear ST CL HI HE'
          generalize decide (y.toNat / 16 % 2 = 1) = bb at *
          go_wp2_with fail
          go_roundg 2
          all_goals (first | omega | exact ⟨2, by omega, by omega, rfl, HN.out⟩)
        · have c0 := CL.out 4 _ rfl
          have c1 := CL.out 5 _ rfl
          have hA : Nw wr (wr.alloc (.cells #[.int .u8 8, .pointer (some ⟨fb, 4 + 4, none⟩)] 93)) := (Fr.refl _ _).alloc _
          have hz : (bits .and .u8 (y.toNat : Int) 8 != 0) = decide (y.toNat / 8 % 2 = 1) := by
            rw [B5.out, Bool.eq_iff_iff]
            simp only [bne_iff_ne, ne_eq, decide_eq_true_eq]
            omega
          obtain ⟨d0, d1, HN⟩ := ST.out 4 0 _ _ (.bool true) (decide (y.toNat / 8 % 2 = 1)) hA rfl rfl
          clear ST CL HI HE'
          generalize decide (y.toNat / 8 % 2 = 1) = bb at *
          go_wp2_with fail
          go_roundg 1
          all_goals (first | omega | exact ⟨3, by omega, by omega, rfl, HN.out⟩)
        · have c0 := CL.out 6 _ rfl
          have c1 := CL.out 7 _ rfl
          have hA : Nw wr (wr.alloc (.cells #[.int .u8 4, .pointer (some ⟨fb, 4 + 3, none⟩)] 93)) := (Fr.refl _ _).alloc _
          have hz : (bits .and .u8 (y.toNat : Int) 4 != 0) = decide (y.toNat / 4 % 2 = 1) := by
            rw [B6.out, Bool.eq_iff_iff]
            simp only [bne_iff_ne, ne_eq, decide_eq_true_eq]
            omega
          obtain ⟨d0, d1, HN⟩ := ST.out 3 0 _ _ (.bool true) (decide (y.toNat / 4 % 2 = 1)) hA rfl rfl
          clear ST CL HI HE'
          generalize decide (y.toNat / 4 % 2 = 1) = bb at *
          go_wp2_with fail
          go_roundg 0
          all_goals (first | omega | exact ⟨4, by omega, by omega, rfl, HN.out⟩)
        · have HF' : Hid (∀ r, P (.returned r) wr) := fun r => HE'.out _ _ HI.out.2.1 HI.out.2.2.1 HI.out.2.2.2
          clear ST CL HI HE'
          go_wp2_with fail
          go_end0
          exact HF'.out _
end Go.Proofs.Ytdeefemeiggolaa

namespace Go.Proofs.Ytdeefemeiggolaa
open Go.RowKit
set_option linter.unusedVariables false
variable {D rb g o c : Nat} {b : List By} {most p : Nat} {out : List By} {K : Nat → Prop} {w : World}
/-- A panic of a callee is the caller's. -/
theorem FB.keepRI {fb : Nat} (f : Fm) (h : RdI D rb g o c b most p out K w) (hf : FB fb f w) (hfr : fb ≠ rb) (hKf : K fb) (hDf : D ≤ fb) (j : Nat) (x v : Value) (f' : Fm) (hx : (frow f)[j]? = some x) (he : (frow f).setIfInBounds j v = frow f') : w.cell? ⟨fb, j, none⟩ = some x ∧ w.frozen? ⟨fb, j, none⟩ = false ∧ RdI D rb g o c b most p out K (w.setCell ⟨fb, j, none⟩ v) ∧ FB fb f' (w.setCell ⟨fb, j, none⟩ v) ∧ Fr (fun k => k = rb ∨ k = fb) w (w.setCell ⟨fb, j, none⟩ v) := by
  have f2 : Fr (fun k => k = fb) w (w.setCell ⟨fb, j, none⟩ v) := (Fr.refl _ _).setCell _ _ (.inl rfl)
  refine ⟨(row_cell hf _ _ hx).1, (row_cell hf _ _ hx).2, h.keep f2 (fun k hk => .inl ⟨by subst hk; exact hKf, by subst hk; exact hDf, by subst hk; exact hfr⟩) (fun k hk => hk) (fun k hk => .inl hk), ?_, f2.mono (fun k hk => .inl (.inr hk))⟩
  have := row_set hf j v
  rw [he] at this
  exact this
set_option maxHeartbeats 8000000 in
set_option maxRecDepth 100000 in
theorem rdesc_any (h : RdI D rb g o c b most p out K w) (fb : Nat) (f : Fm) (hf : FB fb f w) (hfr : fb ≠ rb) (hKf : K fb) (hDf : D ≤ fb) : Calls Try.prog 92 #[.pointer (some ⟨rb, 0, none⟩), .pointer (some ⟨fb, 4, none⟩)] w fun e w' => Fr (fun k => k = rb ∨ k = fb) w w' ∧ match b[p]? with | none => e = flt b.length 4 | some d => if dsc d then e = flt p 41 else (∃ r, e = .returned r) ∧ RdI D rb g o c b most (p + 1) out K w' ∧ FB fb { f with shape := { f.shape with block := d.toNat / 16 } } w' := by
  obtain ⟨x0, x1, x2, x3, _⟩ := h.cells
  cases hd : b[p]? with
  | none =>
    have hp' : b.length < p + 1 := by rw [List.getElem?_eq_none_iff] at hd; omega
    have HC : Hid (Calls Try.prog 65 #[.pointer (some ⟨rb, 0, none⟩), .int .i64 1] w fun e w1 => ∃ ch, e = .panicked ch ∧ Hid (Ending.panicked ch = flt b.length 4 ∧ Fr (fun k => k = rb ∨ k = fb) w w1)) := by
      show Calls _ _ _ _ _
      refine (rtake_bad h 1 hp' (by decide)).mono ?_
      rintro e w1 ⟨rfl, h1⟩
      exact ⟨_, rfl, rfl, h1.any⟩
    clear h hd hf
    go_enter Try.func92, Try.ntmps92
    go_wp2_with (first | (go_at_call 65; with_reducible refine HC.out.mono ?_; rintro e w1 ⟨ch, rfl, HF⟩))
    exact ⟨rfl, HF.out.2, HF.out.1⟩
  | some d =>
    have hp : p + 1 ≤ b.length := by have := (List.getElem?_eq_some_iff.1 hd).1; omega
    have hpl : p < 140737488351232 := by have := h.bl; omega
    have HC : Hid (Calls Try.prog 65 #[.pointer (some ⟨rb, 0, none⟩), .int .i64 1] w fun e w1 => ∃ g' o' c', e = .returned (.slice (some ⟨g', o', none⟩) 1 c') ∧ 1 ≤ c' ∧ c' < 9223372036854775808 ∧ w1.cell? ⟨g', o', none⟩ = some (.int .u8 d.toNat) ∧ Hid (RdI D rb g o c b most (p + 1) out K w1 ∧ FB fb f w1 ∧ Fr (fun k => k = rb) w w1)) := by
      show Calls _ _ _ _ _
      refine (rtake_ok h 1 hp).mono ?_
      rintro e w1 ⟨v, rfl, h1, h2, h3⟩
      obtain ⟨g', o', c', rfl, h4, h5, h6⟩ := h1.one hd
      exact ⟨g', o', c', rfl, h4, h5, h6, h2, hf.kept h3 hfr, h3⟩
    have hyl := d.isLt
    have h143 := and143 d.toNat hyl
    simp only
    by_cases hb : dsc d
    · simp only [if_pos hb]
      have HG : Hid (∀ V, Fr (fun k => k = rb) w V → Hid (Calls Try.prog 66 #[.int .i64 p, .int .i64 41] V fun e w2 => ∃ ch, e = .panicked ch ∧ Hid (Ending.panicked ch = flt p 41 ∧ Fr (fun k => k = rb ∨ k = fb) w w2))) := by
        intro V hV
        show Calls _ _ _ _ _
        refine (fgiveUp_any p 41 V).mono ?_
        rintro e w3 ⟨rfl, rfl⟩
        exact ⟨_, rfl, rfl, hV.mono (fun k hk => .inl (.inl hk))⟩
      have hz : (bits .and .u8 (d.toNat : Int) 143 = 0) → (d.toNat : Int) / 16 < 4 := fun h0 => by
        unfold dsc at hb
        have := h143.1 h0
        omega
      clear h hd hf hb h143
      by_cases h0 : bits .and .u8 (d.toNat : Int) 143 = 0
      · have hz1 := hz h0
        have hz2 : (bits .and .u8 (d.toNat : Int) 143 != 0) = false := by simp [h0]
        clear h0 hz
        go_enter Try.func92, Try.ntmps92
        go_wp2_with (first | (go_at_call 65; with_reducible refine HC.out.mono ?_; rintro e w1 ⟨g', o', c', rfl, hc1, hc2, hcell, HI⟩; have HG' := HG.out _ HI.out.2.2) | (go_at_call 66; with_reducible refine HG'.out.mono ?_; rintro e w3 ⟨ch, rfl, HF⟩))
        exact ⟨rfl, HF.out.2, HF.out.1⟩
      · have hz2 : (bits .and .u8 (d.toNat : Int) 143 != 0) = true := by simp [h0]
        clear h0 hz
        go_enter Try.func92, Try.ntmps92
        go_wp2_with (first | (go_at_call 65; with_reducible refine HC.out.mono ?_; rintro e w1 ⟨g', o', c', rfl, hc1, hc2, hcell, HI⟩; have HG' := HG.out _ HI.out.2.2) | (go_at_call 66; with_reducible refine HG'.out.mono ?_; rintro e w3 ⟨ch, rfl, HF⟩))
        exact ⟨rfl, HF.out.2, HF.out.1⟩
    · simp only [if_neg hb]
      have hz0 : bits .and .u8 (d.toNat : Int) 143 = 0 := by
        unfold dsc at hb
        exact h143.2 (by omega)
      have hz2 : (bits .and .u8 (d.toNat : Int) 143 != 0) = false := by simp [hz0]
      have hz1 : ¬ (d.toNat : Int) / 16 < 4 := by unfold dsc at hb; omega
      have HS : Hid (∀ V, RdI D rb g o c b most (p + 1) out K V → FB fb f V → Fr (fun k => k = rb) w V → (∃ x, V.cell? ⟨fb, 4, none⟩ = some x) ∧ V.frozen? ⟨fb, 4, none⟩ = false ∧ Hid (∀ z, z = ((d.toNat / 16 : Nat) : Int) → Fr (fun k => k = rb ∨ k = fb) w (V.setCell ⟨fb, 4, none⟩ (.int .i64 z)) ∧ RdI D rb g o c b most (p + 1) out K (V.setCell ⟨fb, 4, none⟩ (.int .i64 z)) ∧ FB fb { f with shape := { f.shape with block := d.toNat / 16 } } (V.setCell ⟨fb, 4, none⟩ (.int .i64 z)))) := by
        intro V h1 h2 h3
        obtain ⟨k1, k2, k3, k4, k5⟩ := FB.keepRI f h1 h2 hfr hKf hDf 4 _ (.int .i64 ((d.toNat / 16 : Nat) : Int)) { f with shape := { f.shape with block := d.toNat / 16 } } rfl rfl
        refine ⟨⟨_, k1⟩, k2, fun z hz => ?_⟩
        subst hz
        exact ⟨(h3.mono (fun k hk => .inl (.inl hk))).trans k5, k3, k4⟩
      clear h hd hf hb h143 hz0
      go_enter Try.func92, Try.ntmps92
      go_wp2_with (first | (go_at_call 65; with_reducible refine HC.out.mono ?_; rintro e w1 ⟨g', o', c', rfl, hc1, hc2, hcell, HI⟩; obtain ⟨⟨u1, d1⟩, d2, HT⟩ := HS.out _ HI.out.1 HI.out.2.1 HI.out.2.2))
      go_end0
      have := HT.out _ (show (d.toNat : Int) / 16 = ((d.toNat / 16 : Nat) : Int) by omega)
      exact ⟨this.1, ⟨_, rfl⟩, this.2⟩
end Go.Proofs.Ytdeefemeiggolaa

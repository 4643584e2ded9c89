import Derived.Test.YtdeefemeiggolaaRa
namespace Go.Proofs.Ytdeefemeiggolaa
open Go.RowKit
set_option linter.unusedVariables false
variable {D rb g o c : Nat} {b : List By} {most p : Nat} {out : List By} {K : Nat → Prop} {w : World}
/-! ### headed -/
theorem hret {R : Ending → World → Prop} {a : Act} {w : World} {cs : Array Value} (sb : Nat) (h1 : a.tmps.getD 2 undef = .pointer (some ⟨sb, 0, none⟩)) (hrow : w.heap[sb]? = some (.cells cs 24)) (hsz : cs.size = 5) (hd : a.defers = []) (hR : R (.returned (.tuple #[.agg cs, a.tmps.getD 3 undef, a.tmps.getD 4 undef, a.tmps.getD 5 undef])) w) : bodyPost Try.prog Try.f48 R .ret a w := by
  have hi : (Try.prog.info? 24).map (·.size) = some cs.size := by rw [hsz]; kernel_rfl
  have hl := run_loadVar_row (P := Try.prog) w sb 24 24 cs (0, 0) _ hrow Try.underlying24 rfl hi
  have hp' : a.tmps[2]?.getD undef = .pointer (some ⟨sb, 0, none⟩) := by simpa using h1
  refine bodyPost_ret ?_ hd hR
  simp [results, hp', asAddr, hl]
/-- Five cells written. -/
def st5 (w : World) (g : Nat) (v0 v1 v2 v3 v4 : Value) : World := ((((w.setCell ⟨g, 0, none⟩ v0).setCell ⟨g, 1, none⟩ v1).setCell ⟨g, 2, none⟩ v2).setCell ⟨g, 3, none⟩ v3).setCell ⟨g, 4, none⟩ v4
theorem st5_row {w : World} {g : Nat} {a0 a1 a2 a3 a4 : Value} {T : Nat} (h : w.heap[g]? = some (.cells #[a0, a1, a2, a3, a4] T)) (v0 v1 v2 v3 v4 : Value) : (st5 w g v0 v1 v2 v3 v4).heap[g]? = some (.cells #[v0, v1, v2, v3, v4] T) :=
  row_set (row_set (row_set (row_set (row_set h 0 v0) 1 v1) 2 v2) 3 v3) 4 v4
theorem st5_fr (w : World) (g : Nat) (v0 v1 v2 v3 v4 : Value) : Fr (fun k => k = g) w (st5 w g v0 v1 v2 v3 v4) := by
  have h : ∀ (V : World) (j : Nat) (v : Value), Fr (fun k => k = g) w V → Fr (fun k => k = g) w (V.setCell ⟨g, j, none⟩ v) := fun V j v hV => hV.setCell ⟨g, j, none⟩ v (.inl rfl)
  exact h _ 4 v4 (h _ 3 v3 (h _ 2 v2 (h _ 1 v1 (h _ 0 v0 (Fr.refl _ w)))))
/-- What headed answers. -/
def EHd (D rb g o c : Nat) (b : List By) (most : Nat) (out : List By) (K : Nat → Prop) (w : World) (r : Rz (Shp × Nat × Nat)) (e : Ending) (w' : World) : Prop :=
  Fr (fun k => k = rb) w w' ∧ match r with
    | .bad a y => ∃ (k : Int) (b1 b2 b3 b4 : Bool) (z : Nat), e = .returned (.tuple #[.agg #[.int .i64 k, .bool b1, .bool b2, .bool b3, .bool b4], .int .u64 z, .int .i64 a, .int .i64 y])
    | .ok (s, n, p1) => e = .returned (.tuple #[.agg #[.int .i64 s.block, .bool s.alone, .bool s.bsum, .bool s.csum, .bool s.csize], .int .u64 n, .int .i64 0, .int .i64 0]) ∧ RfI D rb g o c b most p1 out K w'
def HK (rb g o c L p sb : Nat) (V : World) : Prop := V.cell? ⟨rb, 0, none⟩ = some (.slice (some ⟨g, o, none⟩) L c) ∧ V.cell? ⟨rb, 1, none⟩ = some (.int .i64 p) ∧ V.frozen? ⟨rb, 1, none⟩ = false ∧ V.frozen? ⟨sb, 0, none⟩ = false ∧ V.frozen? ⟨sb, 1, none⟩ = false ∧ V.frozen? ⟨sb, 2, none⟩ = false ∧ V.frozen? ⟨sb, 3, none⟩ = false ∧ V.frozen? ⟨sb, 4, none⟩ = false
def SK (sb : Nat) (k : Int) (b1 b2 b3 b4 : Bool) (V : World) : Prop := V.cell? ⟨sb, 0, none⟩ = some (.int .i64 k) ∧ V.cell? ⟨sb, 1, none⟩ = some (.bool b1) ∧ V.cell? ⟨sb, 2, none⟩ = some (.bool b2) ∧ V.cell? ⟨sb, 3, none⟩ = some (.bool b3) ∧ V.cell? ⟨sb, 4, none⟩ = some (.bool b4)
theorem HK.of {V : World} {sb : Nat} {k : Int} {b1 b2 b3 b4 : Bool} (h : RfI D rb g o c b most p out K V) (hrow : V.heap[sb]? = some (.cells #[.int .i64 k, .bool b1, .bool b2, .bool b3, .bool b4] 24)) : HK rb g o c b.length p sb V ∧ SK sb k b1 b2 b3 b4 V := by
  obtain ⟨x0, x1, x2, x3, _⟩ := h.cells
  exact ⟨⟨x0, x1, x3, (row_cell hrow 0 _ rfl).2, (row_cell hrow 1 _ rfl).2, (row_cell hrow 2 _ rfl).2, (row_cell hrow 3 _ rfl).2, (row_cell hrow 4 _ rfl).2⟩, (row_cell hrow 0 _ rfl).1, (row_cell hrow 1 _ rfl).1, (row_cell hrow 2 _ rfl).1, (row_cell hrow 3 _ rfl).1, (row_cell hrow 4 _ rfl).1⟩
theorem bit_ne (x k : Nat) (h : x < 256) (hk : k < 8) : (bits .and .u8 (x : Int) ((2 ^ k : Nat) : Int) != 0) = decide (x / 2 ^ k % 2 = 1) := by
  rw [and_bit x k h hk, Bool.eq_iff_iff]
  simp only [bne_iff_ne, ne_eq, decide_eq_true_eq]
  have h2 : x / 2 ^ k % 2 = 0 ∨ x / 2 ^ k % 2 = 1 := by omega
  have h3 : 0 < 2 ^ k := Nat.two_pow_pos k
  rcases h2 with h2 | h2
  · rw [h2]; simp
  · rw [h2]
    generalize 2 ^ k = q at *
    constructor
    · intro _; rfl
    · intro _ h5; omega
set_option maxHeartbeats 8000000 in
set_option maxRecDepth 100000 in
theorem eheaded_A (h : RfI D rb g o c b most p out K w) (hy : b[p]? = none) : Calls Try.prog 48 #[.pointer (some ⟨rb, 0, none⟩)] w (EHd D rb g o c b most out K w (headF b p)) := by
  obtain ⟨P, hP⟩ : ∃ P : Ending → World → Prop, P = EHd D rb g o c b most out K w (headF b p) := ⟨_, rfl⟩
  rw [← hP]
  obtain ⟨W1, hW1⟩ : ∃ W1, w.alloc (.cells #[.int .i64 0, .bool false, .bool false, .bool false, .bool false] 24) = W1 := ⟨_, rfl⟩
  have hN1 : Nw w W1 := by rw [← hW1]; exact (Fr.refl _ _).alloc _
  have hrow1 : W1.heap[w.heap.size]? = some (.cells #[.int .i64 0, .bool false, .bool false, .bool false, .bool false] 24) := by
    rw [← hW1]
    show (w.heap.push _)[w.heap.size]? = _
    rw [Array.getElem?_push_size]
  have hbl := h.bl
  have hpl := h.pl
  have hcb := h.hc
  have hc2 := h.hc2
  have KEY : ∀ V, Nw W1 V → HK rb g o c b.length p w.heap.size V ∧ SK w.heap.size 0 false false false false V := fun V hV => HK.of (h.nw (hN1.trans hV)) (hV.heap hrow1)
  have HAS : ∀ (n : Nat), n < 18446744073709551616 → ∀ V, Nw W1 V → Calls Try.prog 34 #[.pointer (some ⟨rb, 0, none⟩), .int .u64 n] V fun e w1 => e = .returned (.bool (decide (p + n ≤ b.length))) ∧ HK rb g o c b.length p w.heap.size w1 ∧ SK w.heap.size 0 false false false false w1 ∧ Hid (Nw W1 w1) := by
    intro n hn V hV
    refine (ehas_any (h.nw (hN1.trans hV)) n hn).mono ?_
    rintro e w1 ⟨rfl, h1⟩
    exact ⟨rfl, (KEY w1 (hV.trans h1)).1, (KEY w1 (hV.trans h1)).2, hV.trans h1⟩
  have HSH : Hid (∀ V, Nw W1 V → Calls Try.prog 50 #[.pointer (some ⟨rb, 0, none⟩)] V fun e w1 => e = .returned (.tuple #[.int .i64 b.length, .int .i64 4]) ∧ w1 = V) := fun V hV => eshort_any (h.nw (hN1.trans hV))
  have HBAD : Hid (∀ (a y : Nat) k b1 b2 b3 b4 (z : Nat) V, headF b p = .bad a y → Fr (fun k => k = rb ∨ k = w.heap.size) W1 V → P (.returned (.tuple #[.agg #[.int .i64 k, .bool b1, .bool b2, .bool b3, .bool b4], .int .u64 z, .int .i64 a, .int .i64 y])) V) := by
    intro a y k b1 b2 b3 b4 z V h1 h2
    rw [hP]
    refine ⟨Fr.then hN1.any h2 (fun i hi => ?_), ?_⟩
    · rcases hi with hi | hi
      · exact .inl hi
      · exact .inr (by omega)
    · rw [h1]; exact ⟨k, b1, b2, b3, b4, z, rfl⟩
  have HRW : Hid (∀ V, Nw W1 V → V.heap[w.heap.size]? = some (.cells #[.int .i64 0, .bool false, .bool false, .bool false, .bool false] 24)) := fun V hV => hV.heap hrow1
  have HW1 : Hid (w.alloc (.cells #[.int .i64 0, .bool false, .bool false, .bool false, .bool false] 24) = W1) := hW1
  have hh : headF b p = .bad b.length 4 := by unfold headF; rw [hy]
  have hlt : b.length ≤ p := List.getElem?_eq_none_iff.1 hy
  have HH1 : Hid (∀ V, Nw W1 V → Calls Try.prog 34 #[.pointer (some ⟨rb, 0, none⟩), .int .u64 1] V fun e w1 => e = .returned (.bool false) ∧ HK rb g o c b.length p w.heap.size w1 ∧ SK w.heap.size 0 false false false false w1 ∧ Hid (Nw W1 w1)) := fun V hV => by
    have := HAS 1 (by decide) V hV
    rw [decide_eq_false (by omega)] at this
    exact this
  have HB : Hid (∀ k b1 b2 b3 b4 (z : Nat) V, Fr (fun k => k = rb ∨ k = w.heap.size) W1 V → P (.returned (.tuple #[.agg #[.int .i64 k, .bool b1, .bool b2, .bool b3, .bool b4], .int .u64 z, .int .i64 b.length, .int .i64 4])) V) := fun k b1 b2 b3 b4 z V => HBAD.out _ _ k b1 b2 b3 b4 z V hh
  have HN0 : Hid (Nw W1 W1) := Fr.refl _ _
  obtain ⟨⟨x0, x1, _⟩, _⟩ := KEY W1 (Fr.refl _ _)
  clear h hP hW1 hN1 hrow1 KEY HAS HBAD hh hy
  generalize b.length = L at *
  go_enter Try.func48, Try.ntmps48
  go_upto_region 1 with fail
  rw [HW1.out]
  go_wp2_with (first | (go_at_call 34; (with_reducible refine (HH1.out _ HN0.out).mono ?_); rintro e w1 ⟨rfl, ⟨r0, r1, r2, z0, z1, z2, z3, z4⟩, ⟨s0, s1, s2, s3, s4⟩, H1⟩) | (go_at_call 50; with_reducible refine (HSH.out _ H1.out).mono ?_; rintro e w2 ⟨rfl, rfl⟩))
  (try simp only [Exit.inBlock, Exit.then])
  exact hret w.heap.size rfl (HRW.out _ H1.out) rfl rfl (HB.out _ _ _ _ _ 0 _ H1.out.any)
set_option maxHeartbeats 8000000 in
set_option maxRecDepth 100000 in
theorem eheaded_B1 (h : RfI D rb g o c b most p out K w) (y : By) (hy : b[p]? = some y) (q1 : y.toNat / 64 ≠ 1) : Calls Try.prog 48 #[.pointer (some ⟨rb, 0, none⟩)] w (EHd D rb g o c b most out K w (headF b p)) := by
  obtain ⟨P, hP⟩ : ∃ P : Ending → World → Prop, P = EHd D rb g o c b most out K w (headF b p) := ⟨_, rfl⟩
  rw [← hP]
  obtain ⟨W1, hW1⟩ : ∃ W1, w.alloc (.cells #[.int .i64 0, .bool false, .bool false, .bool false, .bool false] 24) = W1 := ⟨_, rfl⟩
  have hN1 : Nw w W1 := by rw [← hW1]; exact (Fr.refl _ _).alloc _
  have hrow1 : W1.heap[w.heap.size]? = some (.cells #[.int .i64 0, .bool false, .bool false, .bool false, .bool false] 24) := by
    rw [← hW1]
    show (w.heap.push _)[w.heap.size]? = _
    rw [Array.getElem?_push_size]
  have hbl := h.bl
  have hpl := h.pl
  have hcb := h.hc
  have hc2 := h.hc2
  have KEY : ∀ V, Nw W1 V → HK rb g o c b.length p w.heap.size V ∧ SK w.heap.size 0 false false false false V := fun V hV => HK.of (h.nw (hN1.trans hV)) (hV.heap hrow1)
  have HAS : ∀ (n : Nat), n < 18446744073709551616 → ∀ V, Nw W1 V → Calls Try.prog 34 #[.pointer (some ⟨rb, 0, none⟩), .int .u64 n] V fun e w1 => e = .returned (.bool (decide (p + n ≤ b.length))) ∧ HK rb g o c b.length p w.heap.size w1 ∧ SK w.heap.size 0 false false false false w1 ∧ Hid (Nw W1 w1) := by
    intro n hn V hV
    refine (ehas_any (h.nw (hN1.trans hV)) n hn).mono ?_
    rintro e w1 ⟨rfl, h1⟩
    exact ⟨rfl, (KEY w1 (hV.trans h1)).1, (KEY w1 (hV.trans h1)).2, hV.trans h1⟩
  have HSH : Hid (∀ V, Nw W1 V → Calls Try.prog 50 #[.pointer (some ⟨rb, 0, none⟩)] V fun e w1 => e = .returned (.tuple #[.int .i64 b.length, .int .i64 4]) ∧ w1 = V) := fun V hV => eshort_any (h.nw (hN1.trans hV))
  have HBAD : Hid (∀ (a y : Nat) k b1 b2 b3 b4 (z : Nat) V, headF b p = .bad a y → Fr (fun k => k = rb ∨ k = w.heap.size) W1 V → P (.returned (.tuple #[.agg #[.int .i64 k, .bool b1, .bool b2, .bool b3, .bool b4], .int .u64 z, .int .i64 a, .int .i64 y])) V) := by
    intro a y k b1 b2 b3 b4 z V h1 h2
    rw [hP]
    refine ⟨Fr.then hN1.any h2 (fun i hi => ?_), ?_⟩
    · rcases hi with hi | hi
      · exact .inl hi
      · exact .inr (by omega)
    · rw [h1]; exact ⟨k, b1, b2, b3, b4, z, rfl⟩
  have HRW : Hid (∀ V, Nw W1 V → V.heap[w.heap.size]? = some (.cells #[.int .i64 0, .bool false, .bool false, .bool false, .bool false] 24)) := fun V hV => hV.heap hrow1
  have HW1 : Hid (w.alloc (.cells #[.int .i64 0, .bool false, .bool false, .bool false, .bool false] 24) = W1) := hW1
  have hh : headF b p = .bad p 40 := by
    have hf : flg y = 40 := by unfold flg; rw [if_pos q1]
    unfold headF; rw [hy]; simp only [hf, ne_eq, Nat.reduceEqDiff, not_false_eq_true, if_true]
  have hlt : p < b.length := (List.getElem?_eq_some_iff.1 hy).1
  have HH1 : Hid (∀ V, Nw W1 V → Calls Try.prog 34 #[.pointer (some ⟨rb, 0, none⟩), .int .u64 1] V fun e w1 => e = .returned (.bool true) ∧ HK rb g o c b.length p w.heap.size w1 ∧ SK w.heap.size 0 false false false false w1 ∧ Hid (Nw W1 w1)) := fun V hV => by
    have := HAS 1 (by decide) V hV
    rw [decide_eq_true (by omega)] at this
    exact this
  have HY : Hid (∀ V, Nw W1 V → V.cell? ⟨g, o + p, none⟩ = some (.int .u8 y.toNat)) := fun V hV => (h.rd.nw (hN1.trans hV)).at p y hy
  have HB : Hid (∀ k b1 b2 b3 b4 (z : Nat) V, Fr (fun k => k = rb ∨ k = w.heap.size) W1 V → P (.returned (.tuple #[.agg #[.int .i64 k, .bool b1, .bool b2, .bool b3, .bool b4], .int .u64 z, .int .i64 p, .int .i64 40])) V) := fun k b1 b2 b3 b4 z V => HBAD.out _ _ k b1 b2 b3 b4 z V hh
  have HN0 : Hid (Nw W1 W1) := Fr.refl _ _
  obtain ⟨⟨x0, x1, _⟩, _⟩ := KEY W1 (Fr.refl _ _)
  have hy8 := y.isLt
  have hzp : (p : Int) < (b.length : Int) := by omega
  have g1 : ((y.toNat : Int) / 64 != 1) = true := by simp; omega
  clear h hP hW1 hN1 hrow1 KEY HAS HBAD hh hy
  generalize b.length = L at *
  generalize y.toNat = yn at *
  go_enter Try.func48, Try.ntmps48
  go_upto_region 1 with fail
  rw [HW1.out]
  go_wp2_with (first | (go_at_call 34; (with_reducible refine (HH1.out _ HN0.out).mono ?_); rintro e w1 ⟨rfl, ⟨r0, r1, r2, z0, z1, z2, z3, z4⟩, ⟨s0, s1, s2, s3, s4⟩, H1⟩; have hyc := HY.out _ H1.out))
  (try simp only [Exit.inBlock, Exit.then])
  refine hret w.heap.size rfl (st5_row (HRW.out _ H1.out) _ _ _ _ _) rfl rfl (HB.out _ _ _ _ _ 0 _ ?_)
  exact H1.out.any.trans ((st5_fr _ _ _ _ _ _ _).mono (fun i hi => .inl (.inr hi)))
set_option maxHeartbeats 8000000 in
set_option maxRecDepth 100000 in
theorem eheaded_B2 (h : RfI D rb g o c b most p out K w) (y : By) (hy : b[p]? = some y) (q1 : y.toNat / 64 = 1) (q2 : y.toNat / 2 % 2 = 1) : Calls Try.prog 48 #[.pointer (some ⟨rb, 0, none⟩)] w (EHd D rb g o c b most out K w (headF b p)) := by
  obtain ⟨P, hP⟩ : ∃ P : Ending → World → Prop, P = EHd D rb g o c b most out K w (headF b p) := ⟨_, rfl⟩
  rw [← hP]
  obtain ⟨W1, hW1⟩ : ∃ W1, w.alloc (.cells #[.int .i64 0, .bool false, .bool false, .bool false, .bool false] 24) = W1 := ⟨_, rfl⟩
  have hN1 : Nw w W1 := by rw [← hW1]; exact (Fr.refl _ _).alloc _
  have hrow1 : W1.heap[w.heap.size]? = some (.cells #[.int .i64 0, .bool false, .bool false, .bool false, .bool false] 24) := by
    rw [← hW1]
    show (w.heap.push _)[w.heap.size]? = _
    rw [Array.getElem?_push_size]
  have hbl := h.bl
  have hpl := h.pl
  have hcb := h.hc
  have hc2 := h.hc2
  have KEY : ∀ V, Nw W1 V → HK rb g o c b.length p w.heap.size V ∧ SK w.heap.size 0 false false false false V := fun V hV => HK.of (h.nw (hN1.trans hV)) (hV.heap hrow1)
  have HAS : ∀ (n : Nat), n < 18446744073709551616 → ∀ V, Nw W1 V → Calls Try.prog 34 #[.pointer (some ⟨rb, 0, none⟩), .int .u64 n] V fun e w1 => e = .returned (.bool (decide (p + n ≤ b.length))) ∧ HK rb g o c b.length p w.heap.size w1 ∧ SK w.heap.size 0 false false false false w1 ∧ Hid (Nw W1 w1) := by
    intro n hn V hV
    refine (ehas_any (h.nw (hN1.trans hV)) n hn).mono ?_
    rintro e w1 ⟨rfl, h1⟩
    exact ⟨rfl, (KEY w1 (hV.trans h1)).1, (KEY w1 (hV.trans h1)).2, hV.trans h1⟩
  have HSH : Hid (∀ V, Nw W1 V → Calls Try.prog 50 #[.pointer (some ⟨rb, 0, none⟩)] V fun e w1 => e = .returned (.tuple #[.int .i64 b.length, .int .i64 4]) ∧ w1 = V) := fun V hV => eshort_any (h.nw (hN1.trans hV))
  have HBAD : Hid (∀ (a y : Nat) k b1 b2 b3 b4 (z : Nat) V, headF b p = .bad a y → Fr (fun k => k = rb ∨ k = w.heap.size) W1 V → P (.returned (.tuple #[.agg #[.int .i64 k, .bool b1, .bool b2, .bool b3, .bool b4], .int .u64 z, .int .i64 a, .int .i64 y])) V) := by
    intro a y k b1 b2 b3 b4 z V h1 h2
    rw [hP]
    refine ⟨Fr.then hN1.any h2 (fun i hi => ?_), ?_⟩
    · rcases hi with hi | hi
      · exact .inl hi
      · exact .inr (by omega)
    · rw [h1]; exact ⟨k, b1, b2, b3, b4, z, rfl⟩
  have HRW : Hid (∀ V, Nw W1 V → V.heap[w.heap.size]? = some (.cells #[.int .i64 0, .bool false, .bool false, .bool false, .bool false] 24)) := fun V hV => hV.heap hrow1
  have HW1 : Hid (w.alloc (.cells #[.int .i64 0, .bool false, .bool false, .bool false, .bool false] 24) = W1) := hW1
  have hh : headF b p = .bad p 41 := by
    have hf : flg y = 41 := by unfold flg; rw [if_neg (by omega), if_pos q2]
    unfold headF; rw [hy]; simp only [hf, ne_eq, Nat.reduceEqDiff, not_false_eq_true, if_true]
  have hlt : p < b.length := (List.getElem?_eq_some_iff.1 hy).1
  have HH1 : Hid (∀ V, Nw W1 V → Calls Try.prog 34 #[.pointer (some ⟨rb, 0, none⟩), .int .u64 1] V fun e w1 => e = .returned (.bool true) ∧ HK rb g o c b.length p w.heap.size w1 ∧ SK w.heap.size 0 false false false false w1 ∧ Hid (Nw W1 w1)) := fun V hV => by
    have := HAS 1 (by decide) V hV
    rw [decide_eq_true (by omega)] at this
    exact this
  have HY : Hid (∀ V, Nw W1 V → V.cell? ⟨g, o + p, none⟩ = some (.int .u8 y.toNat)) := fun V hV => (h.rd.nw (hN1.trans hV)).at p y hy
  have HB : Hid (∀ k b1 b2 b3 b4 (z : Nat) V, Fr (fun k => k = rb ∨ k = w.heap.size) W1 V → P (.returned (.tuple #[.agg #[.int .i64 k, .bool b1, .bool b2, .bool b3, .bool b4], .int .u64 z, .int .i64 p, .int .i64 41])) V) := fun k b1 b2 b3 b4 z V => HBAD.out _ _ k b1 b2 b3 b4 z V hh
  have HN0 : Hid (Nw W1 W1) := Fr.refl _ _
  obtain ⟨⟨x0, x1, _⟩, _⟩ := KEY W1 (Fr.refl _ _)
  have hy8 := y.isLt
  have hzp : (p : Int) < (b.length : Int) := by omega
  have g1 : ((y.toNat : Int) / 64 != 1) = false := by simp; omega
  have f2 := bit_ne y.toNat 1 hy8 (by decide)
  have e2 : ((2 ^ 1 : Nat) : Int) = 2 := rfl
  rw [e2] at f2
  rw [decide_eq_true (by omega)] at f2
  clear h hP hW1 hN1 hrow1 KEY HAS HBAD hh hy
  generalize b.length = L at *
  generalize y.toNat = yn at *
  go_enter Try.func48, Try.ntmps48
  go_upto_region 1 with fail
  rw [HW1.out]
  go_wp2_with (first | (go_at_call 34; (with_reducible refine (HH1.out _ HN0.out).mono ?_); rintro e w1 ⟨rfl, ⟨r0, r1, r2, z0, z1, z2, z3, z4⟩, ⟨s0, s1, s2, s3, s4⟩, H1⟩; have hyc := HY.out _ H1.out))
  (try simp only [Exit.inBlock, Exit.then])
  refine hret w.heap.size rfl (st5_row (HRW.out _ H1.out) _ _ _ _ _) rfl rfl (HB.out _ _ _ _ _ 0 _ ?_)
  exact H1.out.any.trans ((st5_fr _ _ _ _ _ _ _).mono (fun i hi => .inl (.inr hi)))
set_option maxHeartbeats 8000000 in
set_option maxRecDepth 100000 in
theorem eheaded_B3 (h : RfI D rb g o c b most p out K w) (y : By) (hy : b[p]? = some y) (q1 : y.toNat / 64 = 1) (q2 : y.toNat / 2 % 2 = 0) (q3 : y.toNat % 2 = 1) : Calls Try.prog 48 #[.pointer (some ⟨rb, 0, none⟩)] w (EHd D rb g o c b most out K w (headF b p)) := by
  obtain ⟨P, hP⟩ : ∃ P : Ending → World → Prop, P = EHd D rb g o c b most out K w (headF b p) := ⟨_, rfl⟩
  rw [← hP]
  obtain ⟨W1, hW1⟩ : ∃ W1, w.alloc (.cells #[.int .i64 0, .bool false, .bool false, .bool false, .bool false] 24) = W1 := ⟨_, rfl⟩
  have hN1 : Nw w W1 := by rw [← hW1]; exact (Fr.refl _ _).alloc _
  have hrow1 : W1.heap[w.heap.size]? = some (.cells #[.int .i64 0, .bool false, .bool false, .bool false, .bool false] 24) := by
    rw [← hW1]
    show (w.heap.push _)[w.heap.size]? = _
    rw [Array.getElem?_push_size]
  have hbl := h.bl
  have hpl := h.pl
  have hcb := h.hc
  have hc2 := h.hc2
  have KEY : ∀ V, Nw W1 V → HK rb g o c b.length p w.heap.size V ∧ SK w.heap.size 0 false false false false V := fun V hV => HK.of (h.nw (hN1.trans hV)) (hV.heap hrow1)
  have HAS : ∀ (n : Nat), n < 18446744073709551616 → ∀ V, Nw W1 V → Calls Try.prog 34 #[.pointer (some ⟨rb, 0, none⟩), .int .u64 n] V fun e w1 => e = .returned (.bool (decide (p + n ≤ b.length))) ∧ HK rb g o c b.length p w.heap.size w1 ∧ SK w.heap.size 0 false false false false w1 ∧ Hid (Nw W1 w1) := by
    intro n hn V hV
    refine (ehas_any (h.nw (hN1.trans hV)) n hn).mono ?_
    rintro e w1 ⟨rfl, h1⟩
    exact ⟨rfl, (KEY w1 (hV.trans h1)).1, (KEY w1 (hV.trans h1)).2, hV.trans h1⟩
  have HSH : Hid (∀ V, Nw W1 V → Calls Try.prog 50 #[.pointer (some ⟨rb, 0, none⟩)] V fun e w1 => e = .returned (.tuple #[.int .i64 b.length, .int .i64 4]) ∧ w1 = V) := fun V hV => eshort_any (h.nw (hN1.trans hV))
  have HBAD : Hid (∀ (a y : Nat) k b1 b2 b3 b4 (z : Nat) V, headF b p = .bad a y → Fr (fun k => k = rb ∨ k = w.heap.size) W1 V → P (.returned (.tuple #[.agg #[.int .i64 k, .bool b1, .bool b2, .bool b3, .bool b4], .int .u64 z, .int .i64 a, .int .i64 y])) V) := by
    intro a y k b1 b2 b3 b4 z V h1 h2
    rw [hP]
    refine ⟨Fr.then hN1.any h2 (fun i hi => ?_), ?_⟩
    · rcases hi with hi | hi
      · exact .inl hi
      · exact .inr (by omega)
    · rw [h1]; exact ⟨k, b1, b2, b3, b4, z, rfl⟩
  have HRW : Hid (∀ V, Nw W1 V → V.heap[w.heap.size]? = some (.cells #[.int .i64 0, .bool false, .bool false, .bool false, .bool false] 24)) := fun V hV => hV.heap hrow1
  have HW1 : Hid (w.alloc (.cells #[.int .i64 0, .bool false, .bool false, .bool false, .bool false] 24) = W1) := hW1
  have hh : headF b p = .bad p 47 := by
    have hf : flg y = 47 := by unfold flg; rw [if_neg (by omega), if_neg (by omega), if_pos q3]
    unfold headF; rw [hy]; simp only [hf, ne_eq, Nat.reduceEqDiff, not_false_eq_true, if_true]
  have hlt : p < b.length := (List.getElem?_eq_some_iff.1 hy).1
  have HH1 : Hid (∀ V, Nw W1 V → Calls Try.prog 34 #[.pointer (some ⟨rb, 0, none⟩), .int .u64 1] V fun e w1 => e = .returned (.bool true) ∧ HK rb g o c b.length p w.heap.size w1 ∧ SK w.heap.size 0 false false false false w1 ∧ Hid (Nw W1 w1)) := fun V hV => by
    have := HAS 1 (by decide) V hV
    rw [decide_eq_true (by omega)] at this
    exact this
  have HY : Hid (∀ V, Nw W1 V → V.cell? ⟨g, o + p, none⟩ = some (.int .u8 y.toNat)) := fun V hV => (h.rd.nw (hN1.trans hV)).at p y hy
  have HB : Hid (∀ k b1 b2 b3 b4 (z : Nat) V, Fr (fun k => k = rb ∨ k = w.heap.size) W1 V → P (.returned (.tuple #[.agg #[.int .i64 k, .bool b1, .bool b2, .bool b3, .bool b4], .int .u64 z, .int .i64 p, .int .i64 47])) V) := fun k b1 b2 b3 b4 z V => HBAD.out _ _ k b1 b2 b3 b4 z V hh
  have HN0 : Hid (Nw W1 W1) := Fr.refl _ _
  obtain ⟨⟨x0, x1, _⟩, _⟩ := KEY W1 (Fr.refl _ _)
  have hy8 := y.isLt
  have hzp : (p : Int) < (b.length : Int) := by omega
  have g1 : ((y.toNat : Int) / 64 != 1) = false := by simp; omega
  have f2 := bit_ne y.toNat 1 hy8 (by decide)
  have e2 : ((2 ^ 1 : Nat) : Int) = 2 := rfl
  rw [e2] at f2
  rw [decide_eq_false (by omega)] at f2
  have f1 := bit_ne y.toNat 0 hy8 (by decide)
  have e1 : ((2 ^ 0 : Nat) : Int) = 1 := rfl
  rw [e1] at f1
  rw [decide_eq_true (by omega)] at f1
  clear h hP hW1 hN1 hrow1 KEY HAS HBAD hh hy
  generalize b.length = L at *
  generalize y.toNat = yn at *
  go_enter Try.func48, Try.ntmps48
  go_upto_region 1 with fail
  rw [HW1.out]
  go_wp2_with (first | (go_at_call 34; (with_reducible refine (HH1.out _ HN0.out).mono ?_); rintro e w1 ⟨rfl, ⟨r0, r1, r2, z0, z1, z2, z3, z4⟩, ⟨s0, s1, s2, s3, s4⟩, H1⟩; have hyc := HY.out _ H1.out))
  (try simp only [Exit.inBlock, Exit.then])
  refine hret w.heap.size rfl (st5_row (HRW.out _ H1.out) _ _ _ _ _) rfl rfl (HB.out _ _ _ _ _ 0 _ ?_)
  exact H1.out.any.trans ((st5_fr _ _ _ _ _ _ _).mono (fun i hi => .inl (.inr hi)))
set_option maxHeartbeats 8000000 in
set_option maxRecDepth 100000 in
theorem eheaded_C (h : RfI D rb g o c b most p out K w) (y : By) (hy : b[p]? = some y) (q1 : y.toNat / 64 = 1) (q2 : y.toNat / 2 % 2 = 0) (q3 : y.toNat % 2 = 0) (hd : b[p + 1]? = none) : Calls Try.prog 48 #[.pointer (some ⟨rb, 0, none⟩)] w (EHd D rb g o c b most out K w (headF b p)) := by
  obtain ⟨P, hP⟩ : ∃ P : Ending → World → Prop, P = EHd D rb g o c b most out K w (headF b p) := ⟨_, rfl⟩
  rw [← hP]
  obtain ⟨W1, hW1⟩ : ∃ W1, w.alloc (.cells #[.int .i64 0, .bool false, .bool false, .bool false, .bool false] 24) = W1 := ⟨_, rfl⟩
  have hN1 : Nw w W1 := by rw [← hW1]; exact (Fr.refl _ _).alloc _
  have hrow1 : W1.heap[w.heap.size]? = some (.cells #[.int .i64 0, .bool false, .bool false, .bool false, .bool false] 24) := by
    rw [← hW1]
    show (w.heap.push _)[w.heap.size]? = _
    rw [Array.getElem?_push_size]
  have hbl := h.bl
  have hpl := h.pl
  have hcb := h.hc
  have hc2 := h.hc2
  have KEY : ∀ V, Nw W1 V → HK rb g o c b.length p w.heap.size V ∧ SK w.heap.size 0 false false false false V := fun V hV => HK.of (h.nw (hN1.trans hV)) (hV.heap hrow1)
  have HAS : ∀ (n : Nat), n < 18446744073709551616 → ∀ V, Nw W1 V → Calls Try.prog 34 #[.pointer (some ⟨rb, 0, none⟩), .int .u64 n] V fun e w1 => e = .returned (.bool (decide (p + n ≤ b.length))) ∧ HK rb g o c b.length p w.heap.size w1 ∧ SK w.heap.size 0 false false false false w1 ∧ Hid (Nw W1 w1) := by
    intro n hn V hV
    refine (ehas_any (h.nw (hN1.trans hV)) n hn).mono ?_
    rintro e w1 ⟨rfl, h1⟩
    exact ⟨rfl, (KEY w1 (hV.trans h1)).1, (KEY w1 (hV.trans h1)).2, hV.trans h1⟩
  have HSH : Hid (∀ V, Nw W1 V → Calls Try.prog 50 #[.pointer (some ⟨rb, 0, none⟩)] V fun e w1 => e = .returned (.tuple #[.int .i64 b.length, .int .i64 4]) ∧ w1 = V) := fun V hV => eshort_any (h.nw (hN1.trans hV))
  have HBAD : Hid (∀ (a y : Nat) k b1 b2 b3 b4 (z : Nat) V, headF b p = .bad a y → Fr (fun k => k = rb ∨ k = w.heap.size) W1 V → P (.returned (.tuple #[.agg #[.int .i64 k, .bool b1, .bool b2, .bool b3, .bool b4], .int .u64 z, .int .i64 a, .int .i64 y])) V) := by
    intro a y k b1 b2 b3 b4 z V h1 h2
    rw [hP]
    refine ⟨Fr.then hN1.any h2 (fun i hi => ?_), ?_⟩
    · rcases hi with hi | hi
      · exact .inl hi
      · exact .inr (by omega)
    · rw [h1]; exact ⟨k, b1, b2, b3, b4, z, rfl⟩
  have HRW : Hid (∀ V, Nw W1 V → V.heap[w.heap.size]? = some (.cells #[.int .i64 0, .bool false, .bool false, .bool false, .bool false] 24)) := fun V hV => hV.heap hrow1
  have HW1 : Hid (w.alloc (.cells #[.int .i64 0, .bool false, .bool false, .bool false, .bool false] 24) = W1) := hW1
  have hf : flg y = 0 := by unfold flg; rw [if_neg (by omega), if_neg (by omega), if_neg (by omega)]
  have hh : headF b p = .bad b.length 4 := by unfold headF; rw [hy]; simp only [hf, ne_eq, not_true_eq_false, if_false, hd]
  have hlt : p < b.length := (List.getElem?_eq_some_iff.1 hy).1
  have hl2 : b.length ≤ p + 1 := List.getElem?_eq_none_iff.1 hd
  have HH1 : Hid (∀ V, Nw W1 V → Calls Try.prog 34 #[.pointer (some ⟨rb, 0, none⟩), .int .u64 1] V fun e w1 => e = .returned (.bool true) ∧ HK rb g o c b.length p w.heap.size w1 ∧ SK w.heap.size 0 false false false false w1 ∧ Hid (Nw W1 w1)) := fun V hV => by
    have := HAS 1 (by decide) V hV
    rw [decide_eq_true (by omega)] at this
    exact this
  have HH2 : Hid (∀ V, Nw W1 V → Calls Try.prog 34 #[.pointer (some ⟨rb, 0, none⟩), .int .u64 2] V fun e w1 => e = .returned (.bool false) ∧ HK rb g o c b.length p w.heap.size w1 ∧ SK w.heap.size 0 false false false false w1 ∧ Hid (Nw W1 w1)) := fun V hV => by
    have := HAS 2 (by decide) V hV
    rw [decide_eq_false (by omega)] at this
    exact this
  have HY : Hid (∀ V, Nw W1 V → V.cell? ⟨g, o + p, none⟩ = some (.int .u8 y.toNat)) := fun V hV => (h.rd.nw (hN1.trans hV)).at p y hy
  have HB : Hid (∀ k b1 b2 b3 b4 (z : Nat) V, Fr (fun k => k = rb ∨ k = w.heap.size) W1 V → P (.returned (.tuple #[.agg #[.int .i64 k, .bool b1, .bool b2, .bool b3, .bool b4], .int .u64 z, .int .i64 b.length, .int .i64 4])) V) := fun k b1 b2 b3 b4 z V => HBAD.out _ _ k b1 b2 b3 b4 z V hh
  have HN0 : Hid (Nw W1 W1) := Fr.refl _ _
  obtain ⟨⟨x0, x1, _⟩, _⟩ := KEY W1 (Fr.refl _ _)
  have hy8 := y.isLt
  have hzp : (p : Int) < (b.length : Int) := by omega
  have g1 : ((y.toNat : Int) / 64 != 1) = false := by simp; omega
  have f2 := bit_ne y.toNat 1 hy8 (by decide)
  have e2 : ((2 ^ 1 : Nat) : Int) = 2 := rfl
  rw [e2] at f2
  rw [decide_eq_false (by omega)] at f2
  have f1 := bit_ne y.toNat 0 hy8 (by decide)
  have e1 : ((2 ^ 0 : Nat) : Int) = 1 := rfl
  rw [e1] at f1
  rw [decide_eq_false (by omega)] at f1
  clear h hP hW1 hN1 hrow1 KEY HAS HBAD hh hy hf hd
  generalize b.length = L at *
  generalize y.toNat = yn at *
  go_enter Try.func48, Try.ntmps48
  go_upto_region 1 with fail
  rw [HW1.out]
  go_wp2_with (first | (go_at_call 34; (with_reducible refine (HH1.out _ HN0.out).mono ?_); rintro e w1 ⟨rfl, ⟨r0, r1, r2, z0, z1, z2, z3, z4⟩, ⟨s0, s1, s2, s3, s4⟩, H1⟩; have hyc := HY.out _ H1.out) | (go_at_call 34; (with_reducible refine (HH2.out _ H1.out).mono ?_); rintro e w2 ⟨rfl, ⟨r0, r1, r2, z0, z1, z2, z3, z4⟩, ⟨s0, s1, s2, s3, s4⟩, H2⟩) | (go_at_call 50; with_reducible refine (HSH.out _ H2.out).mono ?_; rintro e w3 ⟨rfl, rfl⟩))
  (try simp only [Exit.inBlock, Exit.then])
  exact hret w.heap.size rfl (HRW.out _ H2.out) rfl rfl (HB.out _ _ _ _ _ 0 _ H2.out.any)
end Go.Proofs.Ytdeefemeiggolaa

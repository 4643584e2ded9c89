import Derived.Test.YtlenihpbhlfcoaaGreatDoorUas
import Derived.Test.YtlenihpbhlfcoaaGreatDoorUay
import Derived.Test.YtlenihpbhlfcoaaGreatDoorUaz
set_option maxHeartbeats 8000000
set_option maxRecDepth 100000
set_option linter.unusedSimpArgs false
set_option linter.unusedVariables false
namespace Go.Proofs.YtlenihpbhlfcoaaGreatDoor
open Go.RowKit
abbrev gvR (p e : Int) : Ending := .panicked [{ v := .iface 67 (.agg #[.int .i64 p, .int .i64 e]), recovered := false }]
theorem qgiveUp_any (p e : Int) (w : World) : Calls Tryz.prog 39 #[.int .i64 p, .int .i64 e] w fun x w' => x = gvR p e ∧ w' = w := by
 unfold gvR;go_enter Tryz.func39, Tryz.ntmps39
 go_wp2
 exact ⟨rfl, rfl, rfl⟩
theorem qmust_ok (p : Int) (w : World) : Calls Tryz.prog 52 #[.int .i64 p, .int .i64 0] w fun x w' => x = .returned (.tuple #[]) ∧ w' = w := by
 refine asP fun P hP => ?_
 have HF : Hid (P (.returned (.tuple #[])) w) := by rw [hP]; exact ⟨rfl, rfl⟩
 clear hP;go_enter Tryz.func52, Tryz.ntmps52
 go_wp2_with fail
 go_end0
 exact HF.out
theorem qmust_bad (p e : Int) (he : e ≠ 0) (w : World) : Calls Tryz.prog 52 #[.int .i64 p, .int .i64 e] w fun x w' => x = gvR p e ∧ w' = w := by
 have HG := tHid (qgiveUp_any p e);go_enter Tryz.func52, Tryz.ntmps52
 go_wp2_with (first | (go_at_call 39; with_reducible refine (HG.out _).mono ?_; rintro x w2 ⟨rfl, rfl⟩))
 exact ⟨rfl, rfl, rfl⟩
theorem qhasData_any (t : By) (w : World) : Calls Tryz.prog 55 #[.int .u8 t.toNat] w fun e w' => e = .returned (.bool (hasD t)) ∧ w' = w := by
 refine asP fun P hP => ?_
 have HF : Hid (∀ r, hasD t = r → P (.returned (.bool r)) w) := fun r hr => by rw [hP, ← hr]; exact ⟨rfl, rfl⟩
 clear hP;unfold hasD at HF;by_cases h1 : t.toNat < 49
 ·rw [decide_eq_true h1] at HF;have d1 : (t.toNat : Int) < 49 := by omega
  clear h1;go_enter Tryz.func55, Tryz.ntmps55
  go_wp2_with fail
  exact HF.out _ rfl
 ·rw [decide_eq_false h1] at HF;have d1 : ¬ (t.toNat : Int) < 49 := by omega
  by_cases h2 : 54 < t.toNat
  ·rw [decide_eq_true h2] at HF;have d2 : (54 : Int) < t.toNat := by omega
   clear h1 h2;go_enter Tryz.func55, Tryz.ntmps55
   go_wp2_with fail
   exact HF.out _ rfl
  ·rw [decide_eq_false h2] at HF;have d2 : ¬ (54 : Int) < t.toNat := by omega
   clear h1 h2;go_enter Tryz.func55, Tryz.ntmps55
   go_wp2_with fail
   exact HF.out _ rfl
def tx16 (o : Option ByteArray) : Array Value := match o with
 | some s => #[.string s, .bool true]
 | none => #[.string ⟨#[]⟩, .bool false]
theorem qor_some (s t : ByteArray) (w : World) : Calls Tryz.prog 87 #[.agg #[.string s, .bool true], .string t] w fun e w' => e = .returned (.string s) ∧ Nw w w' := by
 refine asP fun P hP => ?_
 have HF : Hid (∀ W, Nw w W → P (.returned (.string s)) W) := fun W hW => by rw [hP]; exact ⟨rfl, hW⟩
 clear hP;go_enter Tryz.func87, Tryz.ntmps87
 go_wp2_with fail
 exact HF.out _ ((Fr.refl _ _).alloc _)
theorem qor_none (s t : ByteArray) (w : World) : Calls Tryz.prog 87 #[.agg #[.string s, .bool false], .string t] w fun e w' => e = .returned (.string t) ∧ Nw w w' := by
 refine asP fun P hP => ?_
 have HF : Hid (∀ W, Nw w W → P (.returned (.string t)) W) := fun W hW => by rw [hP]; exact ⟨rfl, hW⟩
 clear hP;go_enter Tryz.func87, Tryz.ntmps87
 go_wp2_with fail
 exact HF.out _ ((Fr.refl _ _).alloc _)
theorem qor_any (o : Option ByteArray) (t : ByteArray) (w : World) : Calls Tryz.prog 87 #[.agg (tx16 o), .string t] w fun e w' => e = .returned (.string (o.getD t)) ∧ Nw w w' := by
 cases o with
 | some s => exact qor_some s t w
 | none => exact qor_none _ t w
theorem qisOld_any (h : Hr) (w : World) : Calls Tryz.prog 91 #[.agg h.C] w fun e w' => e = .returned (.bool (isOl h)) ∧ Nw w w' := by
 refine asP fun P hP => ?_
 have HF : Hid (∀ W r, Nw w W → isOl h = r → P (.returned (.bool r)) W) := fun W r hW hr => by rw [hP, ← hr]; exact ⟨rfl, hW⟩
 clear hP;unfold isOl at HF;unfold Hr.C;have e1 : ∀ t : By, ((t.toNat : Int) == 83) = decide (t = 83#8) := fun t => by
  by_cases h : t = 83#8
  ·subst h; rfl
  ·rw [decide_eq_false h, beq_eq_false_iff_ne];intro e;exact h (BitVec.eq_of_toNat_eq (by have : (83#8 : By).toNat = 83 := rfl; omega))
 have e2 : ((h.form : Int) == 3) = decide (h.form = 3) := by
  by_cases h3 : h.form = 3
  ·rw [h3]; rfl
  ·rw [decide_eq_false h3, beq_eq_false_iff_ne]; exact h3
 have q1 := e1 h.typ;by_cases h1 : h.typ = 83#8
 ·rw [decide_eq_true h1] at HF q1;by_cases h3 : h.form = 3
  ·rw [decide_eq_true h3] at HF e2;clear h1 h3 e1;go_enter Tryz.func91, Tryz.ntmps91
   go_wp2_with fail
   exact HF.out _ _ ((Fr.refl _ _).alloc _) rfl
  ·rw [decide_eq_false h3] at HF e2;clear h1 h3 e1;go_enter Tryz.func91, Tryz.ntmps91
   go_wp2_with fail
   exact HF.out _ _ ((Fr.refl _ _).alloc _) rfl
 ·rw [decide_eq_false h1] at HF q1;clear h1 e1 e2;go_enter Tryz.func91, Tryz.ntmps91
  go_wp2_with fail
  exact HF.out _ _ ((Fr.refl _ _).alloc _) rfl
structure Rm (Y : Nat → Prop) (rb : Nat) (va : Option Addr) (vc : Nat) (b : List By) (p : Nat) (vG : Value) (G : List Pr) (w : World) : Prop where
 row : w.heap[rb]? = some (.cells #[.slice va b.length vc, .int .i64 (p : Nat), vG, .int .i64 0] 51)
 sl : Sl Y (.slice va b.length vc) b w
 gl : SlR RP Y vG G w
 yr : Y rb
 pl : p ≤ b.length
 bl : b.length ≤ 140737488351232
variable {Y : Nat → Prop} {rb : Nat} {va : Option Addr} {vc : Nat} {b : List By} {p : Nat} {vG : Value} {G : List Pr} {w : World}
theorem Rm.keep {X : Nat → Prop} {w' : World} (h : Rm Y rb va vc b p vG G w) (f : Fr X w w') (h1 : ¬ X rb) (h2 : ∀ k, X k → Y k) : Rm Y rb va vc b p vG G w' := ⟨cell_kept f h.row h1, h.sl.kept f h2, h.gl.kept f h2, h.yr, h.pl, h.bl⟩
theorem Rm.nw {w' : World} (h : Rm Y rb va vc b p vG G w) (f : Nw w w') : Rm Y rb va vc b p vG G w' := h.keep f (fun e => e) (fun _ e => e.elim)
theorem Rm.lt (h : Rm Y rb va vc b p vG G w) : rb < w.heap.size := (Array.getElem?_eq_some_iff.1 h.row).1
theorem row_setN {w : World} {rb : Nat} {a : Array Value} {T : Nat} (h : w.heap[rb]? = some (.cells a T)) (j : Nat) (v : Value) : (w.setCell ⟨rb, j, none⟩ v).heap[rb]? = some (.cells (a.setIfInBounds j v) T) := by
 simp [World.setCell, Array.getElem?_modify, h]
theorem row_froz {w : World} {rb : Nat} {a : Array Value} {T : Nat} (h : w.heap[rb]? = some (.cells a T)) (j : Nat) (v : Value) (hv : a[j]? = some v) : w.frozen? ⟨rb, j, none⟩ = false := by
 simp [World.frozen?, h]
theorem Rm.go (h : Rm Y rb va vc b p vG G w) (q : Nat) (hq : q ≤ b.length) (z : Int) (hz : z = (q : Nat)) : Rm Y rb va vc b q vG G (w.setCell ⟨rb, 1, none⟩ (.int .i64 z)) ∧ Fr (fun k => k = rb) w (w.setCell ⟨rb, 1, none⟩ (.int .i64 z)) := by
 subst hz;have f : Fr (fun k => k = rb) w (w.setCell ⟨rb, 1, none⟩ (.int .i64 (q : Nat))) := (Fr.refl _ _).setCell _ _ (.inl rfl);exact ⟨⟨row_setN h.row 1 _, h.sl.kept f (fun g hg => by subst hg; exact h.yr), h.gl.kept f (fun g hg => by subst hg; exact h.yr), h.yr, hq, h.bl⟩, f⟩
theorem Rm.cells (h : Rm Y rb va vc b p vG G w) : w.cell? ⟨rb, 0, none⟩ = some (.slice va b.length vc) ∧ w.cell? ⟨rb, 1, none⟩ = some (.int .i64 (p : Nat)) ∧ w.frozen? ⟨rb, 1, none⟩ = false ∧ w.cell? ⟨rb, 2, none⟩ = some vG ∧ w.cell? ⟨rb, 3, none⟩ = some (.int .i64 0) :=
 ⟨cell_of h.row 0 _ rfl, cell_of h.row 1 _ rfl, row_froz h.row 1 _ rfl, cell_of h.row 2 _ rfl, cell_of h.row 3 _ rfl⟩
theorem Rm.form (h : Rm Y rb va vc b p vG G w) (h0 : 0 < b.length) : ∃ g o, va = some ⟨g, o, none⟩ ∧ ¬ Y g ∧ b.length ≤ vc ∧ vc < 9223372036854775808 ∧ Rd g o b w := by
 rcases h.sl with ⟨a', e, e2⟩ | ⟨g, hg, o, c', e, e1, e2, e3⟩
 ·rw [e2] at h0; simp at h0
 ·injection e with ea _ ec;subst ec;exact ⟨g, o, ea, hg, e1, e2, e3⟩
theorem Rd.rng {g o : Nat} {l : List By} {w : World} (h : Rd g o l w) : w.rangeAt g o (l.map bv) := fun j v hv => by
 rw [List.getElem?_map] at hv;cases hj : l[j]? with
 | none => rw [hj] at hv; cases hv
 | some x =>
  rw [hj] at hv;simp only [Option.map_some, Option.some.injEq] at hv;obtain ⟨hlt, hx⟩ := List.getElem?_eq_some_iff.1 hj;rw [← hv, ← hx];exact h j hlt
theorem fd_length (s : List By) (o n : Nat) (h : o + n ≤ s.length) : (fd s o n).length = n := by unfold fd; rw [List.length_take, List.length_drop]; omega
def RcA (b : List By) (p : Nat) (w : World) (e : Ending) (w' : World) : Prop := (b.length < p + 512 ∧ e = gvR (b.length : Nat) 4 ∧ Nw w w') ∨ (p + 512 ≤ b.length ∧ e = .returned (.agg (rc (fd b p 512))) ∧ Nw w w')
theorem qrecord_any (h : Rm Y rb va vc b p vG G w) : Calls Tryz.prog 33 #[.pointer (some ⟨rb, 0, none⟩)] w (RcA b p w) := by
 refine asP fun P hP => ?_
 obtain ⟨qb, hqb⟩ : ∃ qb, w.heap.size = qb := ⟨_, rfl⟩;obtain ⟨W0, hW0⟩ : ∃ W0, w.alloc (.cells Tryz.zeroCells58 58) = W0 := ⟨_, rfl⟩;have hN0 : Nw w W0 := by rw [← hW0]; exact (Fr.refl _ _).alloc _
 have hQ0 : W0.heap[qb]? = some (.cells Tryz.zeroCells58 58) := by rw [← hW0, ← hqb]; exact newHeap _ _
 have hm := h.nw hN0;obtain ⟨c0, c1, _, _, _⟩ := hm.cells;have hbl := h.bl;have hpl := h.pl;have HW0 := tHid hW0;obtain ⟨L, hL⟩ : ∃ L, b.length = L := ⟨_, rfl⟩;have HL := tHid hL;rw [hL] at c0 hbl hpl;have hpi : (p : Int) ≤ (L : Int) := by omega
 have hli : (L : Int) ≤ 140737488351232 := by omega
 by_cases hlt : b.length < p + 512
 ·have d1 : (L : Int) - (p : Int) < 512 := by omega
  have HF : Hid (∀ V, Nw w V → P (gvR (L : Nat) 4) V) := fun V hV => by rw [hP]; exact .inl ⟨hlt, by rw [HL.out], hV⟩
  have HG := tHid (qgiveUp_any (L : Nat) 4);have HN0 := tHid hN0;have HC : Hid (∀ V, Nw W0 V → V.cell? ⟨rb, 0, none⟩ = some (.slice va L vc)) := fun V hV => Nw.cell hV c0
  clear hlt hP hm hQ0 hN0 hpl hL hW0 h;go_enter Tryz.func33, Tryz.ntmps33;go_upto_region 1 with fail;rw [HW0.out]
  go_quiet (fail)
  have c0' := HC.out _ ((Fr.refl _ _).drewN nq)
  go_wp2_with (first | (go_at_call 39; with_reducible refine (HG.out _).mono ?_; rintro x w2 ⟨rfl, rfl⟩))
  exact ⟨rfl, HF.out _ (HN0.out.trans ((Fr.refl _ _).drewN nq))⟩
 ·obtain ⟨bg, bo, rfl, hbg, hbc, hbc2, hrd⟩ := hm.form (by omega);have d1 : ¬ (L : Int) - (p : Int) < 512 := by omega
  have hR := fd_length b p 512 (by omega);obtain ⟨R, hRe⟩ : ∃ R, fd b p 512 = R := ⟨_, rfl⟩;rw [hRe] at hR;have hrd2 : Rd bg (bo + p) R W0 := by rw [← hRe]; exact (hrd.drop p).take 512
  obtain ⟨CR, hCR⟩ : ∃ CR, R.map bv = CR := ⟨_, rfl⟩;have hCA : rc R = CR.toArray := by rw [← hCR]; rfl
  have hrng : ∀ V, Nw W0 V → V.rangeAt bg (bo + p) CR := fun V hV => by rw [← hCR]; exact (hrd2.nw hV).rng
  have hz2 : (Tryz.prog.info? 58).map (·.size) = some CR.length := by
   have := rc_info R hR;rw [hCA] at this;rw [this, List.size_toArray]
  have HCRI := tHid hz2;have HN3 : Hid ((Tryz.prog.info? 58).map (·.size) = some CR.toArray.size ∧ (Tryz.zeroCells58 : Array Value).size = CR.toArray.size ∧ CR.toArray.all (·.oneCell') = true) := by rw [← hCA]; exact ⟨rc_info R hR, by rw [zrec_rc, rc_size, rc_size, zrec_length, hR], rc_one R⟩
  have hrb : rb ≠ qb := by have := h.lt; omega
  have HFI : Hid (∀ V, Nw W0 V → ∃ W5, V.setRow qb CR.toArray = W5 ∧ V.heap[qb]? = some (.cells Tryz.zeroCells58 58) ∧ Hid ((V.cell? ⟨rb, 0, none⟩ = some (.slice (some ⟨bg, bo, none⟩) L vc) ∧ V.cell? ⟨rb, 1, none⟩ = some (.int .i64 (p : Nat)) ∧ V.rangeAt bg (bo + p) CR) ∧ (W5.cell? ⟨rb, 0, none⟩ = some (.slice (some ⟨bg, bo, none⟩) L vc) ∧ W5.cell? ⟨rb, 1, none⟩ = some (.int .i64 (p : Nat)) ∧ W5.rangeAt bg (bo + p) CR) ∧ ∀ tmps : Array Value, tmps.getD 2 undef = .pointer (some ⟨qb, 0, none⟩) → bodyPost Tryz.prog Tryz.f33 P .ret ⟨tmps, []⟩ W5)) := fun V hV => by
   have hq : V.heap[qb]? = some (.cells Tryz.zeroCells58 58) := Nw.heap hV hQ0;have f5 : Fr (fun k => k = qb) V (V.setRow qb CR.toArray) := (Fr.refl _ _).setRow _ _ (.inl rfl);have hq5 : (V.setRow qb CR.toArray).heap[qb]? = some (.cells CR.toArray 58) := setRow_heap _ _ _ _ 58 _ hq;have hbq : bg ≠ qb := by
    have := hrd 0 (by omega);intro e;have h1 := hrd2 0 (by omega);subst e;simp only [World.cell?, hQ0] at h1;exact absurd (h.form (by omega)) (fun ⟨g2, o2, e2, _, _, _, r2⟩ => by
     injection e2 with e2;injection e2 with e3 e4;subst e3;have := r2 0 (by omega);simp only [World.cell?] at this;rw [Array.getElem?_eq_none (by omega)] at this;cases this)
   refine ⟨_, rfl, hq, ⟨Nw.cell hV c0, Nw.cell hV c1, hrng V hV⟩, ⟨f5.cellv (Nw.cell hV c0) hrb, f5.cellv (Nw.cell hV c1) hrb, fun j v hv => f5.cellv (hrng V hV j v hv) hbq⟩, fun tmps g2 => ?_⟩;refine bodyPost_ret (results_cell_row (P := Tryz.prog) (p := 2) (ty := 58) rfl _ _ qb 58 (rc R) (0, 0) _ g2 (by rw [hCA]; exact hq5) Tryz.underlying58 rfl (rc_info R hR)) rfl ?_;rw [hP];refine .inr ⟨by omega, by rw [hRe], ?_⟩;exact (hN0.trans hV).then f5 (fun i hi => .inr (by omega))
  obtain ⟨p5, hp5⟩ : ∃ p5, p + 512 = p5 := ⟨_, rfl⟩;have k1 : (p : Int) + 512 = (p5 : Int) := by omega
  have k2 : (p5 : Int) ≤ (vc : Int) := by omega
  have k3 : p ≤ p5 := by omega
  have k4 : p5 - p = 512 := by omega
  have k5 : ¬ vc = p := by omega
  have k6 : p5 ≤ vc := by omega
  have hAr : ∀ (W : World) (c : Nat), (Instr.arrayAt 58 (.slice (some ⟨bg, bo + p, none⟩) 512 c)).run Tryz.prog W = .ok (.pointer (some ⟨bg, bo + p, none⟩)) W := fun W c => by
   simp [Instr.arrayAt, run_underlying Tryz.underlying58]
  have kw : IntKind.i64.wrap (p5 : Int) = (p5 : Int) := by rw [IntKind.wrap_i64]; omega
  clear hp5;have HC : Hid (∀ V, Nw W0 V → V.cell? ⟨rb, 0, none⟩ = some (.slice (some ⟨bg, bo, none⟩) L vc) ∧ V.cell? ⟨rb, 1, none⟩ = some (.int .i64 (p : Nat))) := fun V hV => ⟨Nw.cell hV c0, Nw.cell hV c1⟩
  clear hlt hP hm hQ0 hN0 hL hW0 h hrd hrd2 hrng hz2 hCA hCR hRe hR hbg;go_enter Tryz.func33, Tryz.ntmps33;go_upto_region 1 with fail;rw [HW0.out]
  go_quiet (fail)
  obtain ⟨W5, e5, q5, K5⟩ := HFI.out (W0.drewN nq).drew (((Fr.refl _ _).drewN nq).drew);have HQ0 := tHid q5;have HW5 := tHid e5;have HS3 := tHid K5.out.1;have HS5 := tHid K5.out.2.1;clear q5 e5;go_upto_region 3 with fail;refine wp_region_held_drew (S := fun U => U.cell? ⟨rb, 0, none⟩ = some (.slice (some ⟨bg, bo, none⟩) L vc) ∧ U.cell? ⟨rb, 1, none⟩ = some (.int .i64 (p : Nat)) ∧ U.rangeAt bg (bo + p) CR) (by kernel_rfl) HS3.out (fun hHeld => ?_)
  refine tkH (i := 0) (oi := ⟨some 20, .move (.tmp 0), 42, "reader.go:115", #[], none⟩) (v := ?_) rfl ?_ ?_;rotate_left
  ·intro U hSw; obtain ⟨hSw0, hSw1, hSw2⟩ := hSw; (go_simp <;> with_reducible rfl)
  try simp only [Act.put, nz1, nz2, nz3]
  refine tkH (i := 1) (oi := ⟨some 21, .nilCheck (.tmp 20), 0, "reader.go:115", #[⟨0, .data⟩], none⟩) (v := ?_) rfl ?_ ?_;rotate_left
  ·intro U hSw; obtain ⟨hSw0, hSw1, hSw2⟩ := hSw; (go_simp <;> with_reducible rfl)
  try simp only [Act.put, nz1, nz2, nz3]
  refine tkH (i := 2) (oi := ⟨some 22, .fieldAddr 51 (.tmp 21) 0, 0, "reader.go:115", #[⟨1, .data⟩], none⟩) (v := ?_) rfl ?_ ?_;rotate_left
  ·intro U hSw; obtain ⟨hSw0, hSw1, hSw2⟩ := hSw; (go_simp <;> with_reducible rfl)
  try simp only [Act.put, nz1, nz2, nz3]
  refine tkH (i := 3) (oi := ⟨some 23, .load 22 (.tmp 22), 22, "reader.go:115", #[⟨2, .data⟩], none⟩) (v := ?_) rfl ?_ ?_;rotate_left
  ·intro U hSw; obtain ⟨hSw0, hSw1, hSw2⟩ := hSw; (go_simp <;> with_reducible rfl)
  try simp only [Act.put, nz1, nz2, nz3]
  refine tkH (i := 4) (oi := ⟨some 24, .move (.tmp 0), 42, "reader.go:115", #[], none⟩) (v := ?_) rfl ?_ ?_;rotate_left
  ·intro U hSw; obtain ⟨hSw0, hSw1, hSw2⟩ := hSw; (go_simp <;> with_reducible rfl)
  try simp only [Act.put, nz1, nz2, nz3]
  refine tkH (i := 5) (oi := ⟨some 25, .nilCheck (.tmp 24), 0, "reader.go:115", #[⟨4, .data⟩], none⟩) (v := ?_) rfl ?_ ?_;rotate_left
  ·intro U hSw; obtain ⟨hSw0, hSw1, hSw2⟩ := hSw; (go_simp <;> with_reducible rfl)
  try simp only [Act.put, nz1, nz2, nz3]
  refine tkH (i := 6) (oi := ⟨some 26, .fieldAddr 51 (.tmp 25) 1, 0, "reader.go:115", #[⟨5, .data⟩], none⟩) (v := ?_) rfl ?_ ?_;rotate_left
  ·intro U hSw; obtain ⟨hSw0, hSw1, hSw2⟩ := hSw; (go_simp <;> with_reducible rfl)
  try simp only [Act.put, nz1, nz2, nz3]
  refine tkH (i := 7) (oi := ⟨some 27, .load 3 (.tmp 26), 3, "reader.go:115", #[⟨6, .data⟩], none⟩) (v := ?_) rfl ?_ ?_;rotate_left
  ·intro U hSw; obtain ⟨hSw0, hSw1, hSw2⟩ := hSw; (go_simp <;> with_reducible rfl)
  try simp only [Act.put, nz1, nz2, nz3]
  refine tkH (i := 8) (oi := ⟨some 28, .move (.tmp 0), 42, "reader.go:115", #[], none⟩) (v := ?_) rfl ?_ ?_;rotate_left
  ·intro U hSw; obtain ⟨hSw0, hSw1, hSw2⟩ := hSw; (go_simp <;> with_reducible rfl)
  try simp only [Act.put, nz1, nz2, nz3]
  refine tkH (i := 9) (oi := ⟨some 29, .nilCheck (.tmp 28), 0, "reader.go:115", #[⟨8, .data⟩], none⟩) (v := ?_) rfl ?_ ?_;rotate_left
  ·intro U hSw; obtain ⟨hSw0, hSw1, hSw2⟩ := hSw; (go_simp <;> with_reducible rfl)
  try simp only [Act.put, nz1, nz2, nz3]
  refine tkH (i := 10) (oi := ⟨some 30, .fieldAddr 51 (.tmp 29) 1, 0, "reader.go:115", #[⟨9, .data⟩], none⟩) (v := ?_) rfl ?_ ?_;rotate_left
  ·intro U hSw; obtain ⟨hSw0, hSw1, hSw2⟩ := hSw; (go_simp <;> with_reducible rfl)
  try simp only [Act.put, nz1, nz2, nz3]
  refine tkH (i := 11) (oi := ⟨some 31, .load 3 (.tmp 30), 3, "reader.go:115", #[⟨10, .data⟩], none⟩) (v := ?_) rfl ?_ ?_;rotate_left
  ·intro U hSw; obtain ⟨hSw0, hSw1, hSw2⟩ := hSw; (go_simp <;> with_reducible rfl)
  try simp only [Act.put, nz1, nz2, nz3]
  refine tkH (i := 12) (oi := ⟨some 32, .binOp BinOp.add 3 (.tmp 31) (.const (Value.int IntKind.i64 512)) 3, 3, "reader.go:115", #[⟨11, .data⟩], none⟩) (v := ?_) rfl ?_ ?_;rotate_left
  ·intro U hSw; obtain ⟨hSw0, hSw1, hSw2⟩ := hSw; (go_simp <;> with_reducible rfl)
  try simp only [Act.put, nz1, nz2, nz3]
  refine tkH (i := 13) (oi := ⟨some 33, .slice 22 (.tmp 23) (some (.tmp 27)) (some (.tmp 32)) none, 22, "reader.go:115", #[⟨3, .data⟩, ⟨7, .data⟩, ⟨12, .data⟩], none⟩) (v := ?_) rfl ?_ ?_;rotate_left
  ·intro U hSw; obtain ⟨hSw0, hSw1, hSw2⟩ := hSw; (go_simp <;> with_reducible rfl)
  try simp only [Act.put, nz1, nz2, nz3]
  refine tkH (i := 14) (oi := ⟨some 34, .sliceToArrayPointer 58 (.tmp 33), 0, "reader.go:115", #[⟨13, .data⟩], none⟩) (v := ?_) rfl ?_ ?_;rotate_left
  ·intro U hSw; obtain ⟨hSw0, hSw1, hSw2⟩ := hSw; (go_simp <;> with_reducible rfl)
  try simp only [Act.put, nz1, nz2, nz3]
  refine wpAnyH_take (i := 15) (oi := ⟨some 35, .load 58 (.tmp 34), 58, "reader.go:115", #[⟨14, .data⟩], none⟩) (v := .agg CR.toArray) rfl (by kernel_rfl) (by kernel_rfl) (by kernel_rfl) (fun _ _ _ h => h) (yieldsIf_load_mid (by rfl) _ _ rfl bg (bo + p) rfl CR _ (fun U hU => hU.2.2) Tryz.underlying58 rfl HCRI.out) (by assumption) ?_;try simp only [Act.put, nz1, nz2, nz3]
  refine wpAnyH_ready (rs := [16]) (by kernel_rfl) (by simp) ?_;refine AllReadyH.cons (o := ⟨none, .store 58 (.tmp 2) (.tmp 35), 0, "reader.go:115", #[⟨15, .data⟩, ⟨0, .phase⟩, ⟨1, .phase⟩, ⟨2, .phase⟩, ⟨3, .phase⟩, ⟨4, .phase⟩, ⟨5, .phase⟩, ⟨6, .phase⟩, ⟨7, .phase⟩, ⟨8, .phase⟩, ⟨9, .phase⟩, ⟨10, .phase⟩, ⟨11, .phase⟩, ⟨12, .phase⟩, ⟨13, .phase⟩, ⟨14, .phase⟩, ⟨15, .phase⟩], none⟩) rfl (fun K hK => ?_) AllReadyH.nil;rw [if_pos (by rfl)]
  refine wp_store_row 58 _ _ rfl qb CR.toArray (by first | rfl | simp [Act.eval]) (by first | rfl | simp [Act.eval]) 58 _ HQ0.out HN3.out.1 HN3.out.2.1 HN3.out.2.2 ?_;rw [HW5.out];refine hK.out _ _ ?_ (fun hHeld5 => ?_)
  ·exact HS5.out
  clear hK K;try simp only [Act.put, nz1, nz2, nz3]
  refine wpAnyH_done (by kernel_rfl) ?_ _
  go_wp2_with fail
  exact K5.out.2.2 _ rfl
end Go.Proofs.YtlenihpbhlfcoaaGreatDoor

import Derived.Test.YtlenihpbhlfcoaaGreatDoorUbh
import Derived.Test.YtlenihpbhlfcoaaGreatDoorWbu
set_option maxHeartbeats 8000000
set_option maxRecDepth 100000
set_option linter.unusedSimpArgs false
set_option linter.unusedVariables false
namespace Go.Proofs.YtlenihpbhlfcoaaGreatDoor
open Go.RowKit Go.Deep
variable {rb : Nat} {va : Option Addr} {vc : Nat} {b : List By}
def StA (Z : Nat → Prop) (rb : Nat) (va : Option Addr) (vc : Nat) (b : List By) (r : Res) (w : World) (e : Ending) (w' : World) : Prop :=
 match r with
 | .fin a G' => ∃ vG', e = .returned (.tuple #[.agg ziC, .bool false, .int .i64 0]) ∧ Hid (Fr (fun k => k = rb) w w' ∧ RL rb va vc b a vG' G' w' ∧ OkG G' ∧ SlR RP Z vG' G' w')
 | .bad a E G' => e = .returned (.tuple #[.agg ziC, .bool false, .int .i64 ((E : Nat) : Int)]) ∧ Hid (Fr (fun k => k = rb) w w' ∧ ∃ vG', w'.heap[rb]? = some (.cells #[.slice va b.length vc, .int .i64 ((a : Nat) : Int), vG', .int .i64 ((E : Nat) : Int)] 51))
 | .more x a G' => ∃ vM vP vG', e = .returned (.tuple #[.agg (icC x x.size x.frm x.head x.data x.next vM vP), .bool true, .int .i64 0]) ∧ Hid (Fr (fun k => k = rb) w w' ∧ RL rb va vc b a vG' G' w' ∧ OkG G' ∧ MpN w vM x.map w' ∧ NewP w vP x.pairs w' ∧ (∃ a n c, vP = .slice a n c) ∧ SlR RP Z vG' G' w')
def Btw (w W : World) (k : Nat) : Prop := w.heap.size ≤ k ∧ k < W.heap.size
theorem live_mv {Z : Nat → Prop} {p0 a : Nat} {vG0 vG' : Value} {G0 G' : List Pr} {w W2 V V' : World} (hr : RL rb va vc b p0 vG0 G0 w) (n : Nw w W2) (f1 : Fr (fun k => k = rb) W2 V) (r : RL rb va vc b a vG' G' V) (z : SlR RP (fun k => Z k ∨ Btw w W2 k) vG' G' V) (f2 : Fr (Btw w W2) V V') :
  Fr (fun k => k = rb) w V' ∧ RL rb va vc b a vG' G' V' ∧ SlR RP Z vG' G' V' := by
 have hlt := Rm.lt hr;have fr : Fr (fun k => k = rb) w V' := (n.any.trans f1).then f2 (fun i hi => .inr hi.1);have s2 := ge_of f2;have sf := ge_of fr;refine ⟨fr, ⟨cell_kept f2 r.row (fun h => by have := h.1; omega), ?_, ?_, .inl rfl, r.pl, r.bl⟩, (z.kept f2 (fun g hg => .inr hg)).mono (fun g hg => .inl hg)⟩
 ·exact (hr.sl.kept fr (fun g hg => .inl hg)).mono (fun g hg => hg.elim .inl (fun hg => .inr (by omega)))
 ·refine ((z.both r.gl).kept f2 (fun g hg => .inl (.inr hg))).mono (fun g hg => .inr ?_);exact hg.elim .inl (fun hg => .inr (by omega))
theorem MpN.mv {w W2 V V' : World} {v : Value} {l : List Rg} (h : MpN W2 v l V) (n : Nw w W2) (f2 : Fr (Btw w W2) V V') : MpN w v l V' := by
 obtain ⟨h1, og, h2, h3⟩ := h;have := n.size;exact ⟨h1, og, h2.kept f2 (fun g hg hb => by have := h3 g hg; have := hb.2; omega), fun g hg => by have := h3 g hg; omega⟩
theorem NewP.mv {w W2 V V' : World} {v : Value} {l : List Pr} (h : NewP W2 v l V) (n : Nw w W2) (f2 : Fr (Btw w W2) V V') : NewP w v l V' := by
 obtain ⟨og, h2, h3⟩ := h;have := n.size;exact ⟨og, h2.kept f2 (fun g hg hb => by have := h3 g hg; have := hb.2; omega), fun g hg => by have := h3 g hg; omega⟩
theorem results_it3 {fn : Func} (h : fn.results = #[.cell 2 36, .tmp 3, .cell 4 25]) (tmps : Array Value) (w : World) (ib eb : Nat) (C : Array Value) (x v : Value) (h2 : tmps.getD 2 undef = .pointer (some ⟨ib, 0, none⟩)) (h3 : tmps.getD 3 undef = x) (h4 : tmps.getD 4 undef = .pointer (some ⟨eb, 0, none⟩)) (hrow : w.heap[ib]? = some (.cells C 36)) (hi : (Tryz.prog.info? 36).map (·.size) = some C.size) (he : w.cell? ⟨eb, 0, none⟩ = some v) : (results fn tmps).run Tryz.prog w = .ok (.tuple #[.agg C, x, v]) w := by
 have hl := run_loadVar_row (P := Tryz.prog) w ib 36 36 C (0, 0) _ hrow Tryz.underlying36 rfl hi;have h2' : tmps[2]?.getD undef = .pointer (some ⟨ib, 0, none⟩) := by simpa using h2
 have h3' : tmps[3]?.getD undef = x := by simpa using h3
 have h4' : tmps[4]?.getD undef = .pointer (some ⟨eb, 0, none⟩) := by simpa using h4
 have hv : (loadVar 25 ⟨eb, 0, none⟩).run Tryz.prog w = .ok v w := by simp [go_sem, he]
 simp [results, h, h2', h3', h4', asAddr, hl, hv]
theorem results_it33 {fn : Func} (h : fn.results = #[.cell 2 36, .tmp 3, .tmp 4]) (tmps : Array Value) (w : World) (ib : Nat) (C : Array Value) (x v : Value) (h2 : tmps.getD 2 undef = .pointer (some ⟨ib, 0, none⟩)) (h3 : tmps.getD 3 undef = x) (h4 : tmps.getD 4 undef = v) (hrow : w.heap[ib]? = some (.cells C 36)) (hi : (Tryz.prog.info? 36).map (·.size) = some C.size) : (results fn tmps).run Tryz.prog w = .ok (.tuple #[.agg C, x, v]) w := by
 have hl := run_loadVar_row (P := Tryz.prog) w ib 36 36 C (0, 0) _ hrow Tryz.underlying36 rfl hi;have h2' : tmps[2]?.getD undef = .pointer (some ⟨ib, 0, none⟩) := by simpa using h2
 have h3' : tmps[3]?.getD undef = x := by simpa using h3
 have h4' : tmps[4]?.getD undef = v := by simpa using h4
 simp [results, h, h2', h3', h4', asAddr, hl]
end Go.Proofs.YtlenihpbhlfcoaaGreatDoor
namespace Go.Proofs.YtlenihpbhlfcoaaGreatDoor
open Go.RowKit Go.Deep
variable {rb : Nat} {va : Option Addr} {vc : Nat} {b : List By}
theorem qstep_any (w : World) (p0 : Nat) (vG0 : Value) (G0 : List Pr) (hr : RL rb va vc b p0 vG0 G0 w) (hG : OkG G0) (B : Nat) (hE : EnvB B w) (hB : B ≤ w.heap.size ∧ B ≤ rb) (Z : Nat → Prop) (hz : SlR RP Z vG0 G0 w) (hZ : ∀ k, Z k → k < w.heap.size) :
  Calls Tryz.prog 19 #[.pointer (some ⟨rb, 0, none⟩)] w (StA Z rb va vc b (nx b p0 G0 ah0 none) w) := by
 refine asP fun Q hQ => ?_
 obtain ⟨W0, hW0⟩ : ∃ W0, w.alloc (.cells #[.pointer (some ⟨rb, 0, none⟩)] 42) = W0 := ⟨_, rfl⟩;obtain ⟨W1, hW1⟩ : ∃ W1, W0.alloc (.cells ziC 36) = W1 := ⟨_, rfl⟩;obtain ⟨W2, hW2⟩ : ∃ W2, W1.alloc (.cells #[.int .i64 0] 25) = W2 := ⟨_, rfl⟩;have s0 : W0.heap.size = w.heap.size + 1 := by rw [← hW0]; simp
 have s1 : W1.heap.size = w.heap.size + 1 + 1 := by rw [← hW1]; show (W0.heap.push _).size = _; rw [Array.size_push, s0]
 have s2 : W2.heap.size = w.heap.size + 1 + 1 + 1 := by rw [← hW2]; show (W1.heap.push _).size = _; rw [Array.size_push, s1]
 have n0 : Nw w W0 := by rw [← hW0]; exact (Fr.refl _ _).alloc _
 have n1 : Nw W0 W1 := by rw [← hW1]; exact (Fr.refl _ _).alloc _
 have n2 : Nw W1 W2 := by rw [← hW2]; exact (Fr.refl _ _).alloc _
 have n02 : Nw w W2 := (n0.trans n1).trans n2;have rx : W2.heap[w.heap.size]? = some (.cells #[.pointer (some ⟨rb, 0, none⟩)] 42) := Nw.heap n2 (Nw.heap n1 (by rw [← hW0]; exact newHeap _ _));have ri : W2.heap[w.heap.size + 1]? = some (.cells ziC 36) := Nw.heap n2 (by rw [← hW1, ← s0]; exact newHeap _ _);have re : W2.heap[w.heap.size + 1 + 1]? = some (.cells #[.int .i64 0] 25) := by rw [← hW2, ← s1]; exact newHeap _ _
 have hlt := Rm.lt hr;have hNX := qnext_any W2 p0 vG0 G0 (RL.step (Rm.nw hr n02) n02.size) hG B (hE.fr n02 hB.1 (fun k hk => hk.elim)) ⟨by omega, hB.2⟩ (fun k => Z k ∨ Btw w W2 k) (((hz.nw n02).both (Rm.nw hr n02).gl).mono (fun g hg => hg.elim .inl (fun hg => .inr (.inr hg.1)))) (fun k hk => hk.elim (fun h => by have := hZ k h; omega) (fun h => h.2));have HN : Hid (Calls Tryz.prog 26 #[.pointer (some ⟨rb, 0, none⟩)] W2 fun e V =>
   (∃ C t, e = .returned (.tuple #[.agg C, .bool t]) ∧ Hid ((Tryz.prog.info? 36).map (·.size) = some C.size ∧ C.all (·.oneCell') = true ∧ Fr (fun k => k = rb) W2 V ∧ ∀ V', Fr (Btw w W2) V V' → Q (.returned (.tuple #[.agg C, .bool t, .int .i64 0])) V')) ∨
   (∃ a E : Nat, e = gvR ((a : Nat) : Int) ((E : Nat) : Int) ∧ Hid (Fr (fun k => k = rb) W2 V ∧ ∃ (q : Nat) (vG' : Value), V.heap[rb]? = some (.cells #[.slice va b.length vc, .int .i64 (q : Nat), vG', .int .i64 0] 51) ∧ ∀ V', Fr (fun k => k = rb ∨ Btw w W2 k) V V' → V'.heap[rb]? = some (.cells #[.slice va b.length vc, .int .i64 (a : Nat), vG', .int .i64 (E : Nat)] 51) → Q (.returned (.tuple #[.agg ziC, .bool false, .int .i64 (E : Nat)])) V'))) := by
  refine hNX.mono fun e V h => ?_
  cases hR : nx b p0 G0 ah0 none with
  | fin a G' =>
   rw [hR] at h hQ;obtain ⟨vG', rfl, h1, h2, h3, h4⟩ := h;refine .inl ⟨ziC, false, rfl, ziI, by simp [ziC, Value.oneCell'], h1, fun V' f2 => ?_⟩;rw [hQ];obtain ⟨k1, k2, k3⟩ := live_mv hr n02 h1 h2 h4 f2;exact ⟨vG', rfl, k1, k2, h3, k3⟩
  | bad a E G' =>
   rw [hR] at h hQ;obtain ⟨rfl, vG', h1, ⟨q, h2⟩, _, _⟩ := h;refine .inr ⟨a, E, rfl, h1, q, vG', h2, fun V' f2 hrow => ?_⟩;rw [hQ];exact ⟨rfl, (n02.any.trans h1).then f2 (fun i hi => hi.elim .inl (fun hi => .inr hi.1)), vG', hrow⟩
  | more x a G' =>
   rw [hR] at h hQ;obtain ⟨vM, vP, vG', rfl, h1, h2, h3, h4, h5, h6, h7⟩ := h;obtain ⟨a1, m1, c1, e1⟩ := h4.1;obtain ⟨a2, m2, c2, e2⟩ := h6;refine .inl ⟨_, true, rfl, icI, by subst e1 e2; simp [icC, Value.oneCell'], h1, fun V' f2 => ?_⟩;rw [hQ];obtain ⟨k1, k2, k3⟩ := live_mv hr n02 h1 h2 h7 f2;exact ⟨vM, vP, vG', rfl, k1, k2, h3, h4.mv n02 f2, h5.mv n02 f2, ⟨a2, m2, c2, e2⟩, k3⟩
 have HW0 := tHid hW0;have HW1 := tHid hW1;have HW2 := tHid hW2;have HRX := tHid rx;have HRI := tHid ri;have HRE := tHid re;have HS2 := tHid s2;have HLT := tHid hlt;clear hNX hQ hr hG hE hB hz hZ n0 n1 n2 n02 rx ri re s0 s1 s2 hW0 hW1 hW2 hlt
 go_enter_defers Tryz.func19, Tryz.ntmps19
 go_wp2_with fail
 change Calls _ _ _ (((w.alloc (.cells #[.pointer (some ⟨rb, 0, none⟩)] 42)).alloc (.cells ziC 36)).alloc (.cells #[.int .i64 0] 25)) _
 rw [HW0.out, HW1.out, HW2.out];with_reducible refine HN.out.mono ?_
 rintro e V (⟨C, t, rfl, K⟩ | ⟨a, E, rfl, K⟩)
 ·obtain ⟨k1, k2, k3, k4⟩ := K;have i0 := cell_kept k3 HRI.out (fun h => by have := HLT.out; omega);have e0 := cell_kept k3 HRE.out (fun h => by have := HLT.out; omega);obtain ⟨W3, e3⟩ : ∃ W3, V.setRow (w.heap.size + 1) C = W3 := ⟨_, rfl⟩;obtain ⟨W4, e4⟩ : ∃ W4, W3.setRow (w.heap.size + 1) C = W4 := ⟨_, rfl⟩;have i3 : W3.heap[w.heap.size + 1]? = some (.cells C 36) := by rw [← e3]; exact setRow_heap _ _ _ _ 36 _ i0
  have i4 : W4.heap[w.heap.size + 1]? = some (.cells C 36) := by rw [← e4]; exact setRow_heap _ _ _ _ 36 _ i3
  have f3 : Fr (fun k => k = w.heap.size + 1) V W3 := by rw [← e3]; exact (Fr.refl _ _).setRow _ _ (.inl rfl)
  have f4 : Fr (fun k => k = w.heap.size + 1) W3 W4 := by rw [← e4]; exact (Fr.refl _ _).setRow _ _ (.inl rfl)
  have x4 := cell_kept (f3.trans f4) e0 (by omega);obtain ⟨W5, e5⟩ : ∃ W5, W4.setCell ⟨w.heap.size + 1 + 1, 0, none⟩ (.int .i64 0) = W5 := ⟨_, rfl⟩;have f5 : Fr (fun k => k = w.heap.size + 1 + 1) W4 W5 := by rw [← e5]; exact (Fr.refl _ _).setCell _ _ (.inl rfl)
  have x5 : W5.heap[w.heap.size + 1 + 1]? = some (.cells #[.int .i64 0] 25) := by rw [← e5]; exact row_setN x4 0 _
  have i5 := cell_kept f5 i4 (by omega);have hs2 := HS2.out;have hf : Fr (Btw w W2) V W5 := ((f3.trans f4).mono (fun i hi => .inl ⟨by omega, by omega⟩)).trans (f5.mono (fun i hi => .inl ⟨by omega, by omega⟩));have HP := tHid (k4 W5 hf);have HI0 := tHid i0;have HI3 := tHid i3;have HI5 := tHid i5;have HK1 := tHid k1;have HK2 := tHid k2;have HZ0 : Hid ((ziC : Array Value).size = C.size) := Option.some.inj (ziI.symm.trans k1);have cx : W4.cell? ⟨w.heap.size + 1 + 1, 0, none⟩ = some (.int .i64 0) := cell_of x4 0 _ rfl;have fx : W4.frozen? ⟨w.heap.size + 1 + 1, 0, none⟩ = false := frz_of x4 0
  have HX5 : Hid (W5.cell? ⟨w.heap.size + 1 + 1, 0, none⟩ = some (.int .i64 0)) := cell_of x5 0 _ rfl;clear k1 k2 k3 k4 i0 i3 i4 i5 e0 x4 x5 f3 f4 f5 hf hs2
  go_wp2_with (first
   | (refine wpList_store_row rfl 36 _ _ rfl (w.heap.size + 1) C (by first | rfl | simp [Act.eval]) (by first | rfl | simp [Act.eval]) 36 _ HI0.out HK1.out HZ0.out HK2.out ?_; rw [e3])
   | (refine wpList_load_row rfl 36 _ rfl (w.heap.size + 1) (by first | rfl | simp [Act.eval]) 36 _ (0, 0) _ HI3.out Tryz.underlying36 rfl HK1.out ?_)
   | (refine wpList_store_row rfl 36 _ _ rfl (w.heap.size + 1) C (by first | rfl | simp [Act.eval]) (by first | rfl | simp [Act.eval]) 36 _ HI3.out HK1.out rfl HK2.out ?_; rw [e4]))
  (try rw [e5])
  refine leaves_cons (f := 25) (args := #[.pointer (some ⟨w.heap.size, 0, none⟩), .pointer (some ⟨w.heap.size + 1 + 1, 0, none⟩)]) (by simp) (by simp [go_sem]) ?_;refine (qcatch_idle _ _ _).mono ?_;rintro e u' w5 ⟨rfl, rfl, rfl⟩;exact ⟨_, results_it3 rfl _ _ (w.heap.size + 1) (w.heap.size + 1 + 1) C (.bool t) (.int .i64 0) rfl rfl rfl HI5.out HK1.out HX5.out, HP.out⟩
 ·obtain ⟨k1, q, vG', k2, k3⟩ := K;have hlt := HLT.out;have x0 := cell_kept k1 HRX.out (by omega);have i0 := cell_kept k1 HRI.out (by omega);have e0 := cell_kept k1 HRE.out (by omega);have hC := qcatch_fault (va := va) (vc := vc) (b := b) w.heap.size (w.heap.size + 1 + 1) (a : Nat) (E : Nat) [] V q vG' _ k2 x0 e0 ⟨by omega, by omega, by omega⟩;have hs2 := HS2.out
  have HFI : Hid (∀ V', Fr (fun k => k = rb ∨ k = w.heap.size + 1 + 1) V V' → V'.heap[rb]? = some (.cells #[.slice va b.length vc, .int .i64 (a : Nat), vG', .int .i64 (E : Nat)] 51) → V'.heap[w.heap.size + 1 + 1]? = some (.cells #[.int .i64 (E : Nat)] 25) → V'.heap[w.heap.size + 1]? = some (.cells ziC 36) ∧ V'.cell? ⟨w.heap.size + 1 + 1, 0, none⟩ = some (.int .i64 (E : Nat)) ∧ Q (.returned (.tuple #[.agg ziC, .bool false, .int .i64 (E : Nat)])) V') := fun V' f h1 h2 =>
   ⟨cell_kept f i0 (by omega), cell_of h2 0 _ rfl, k3 V' (f.mono (fun i hi => .inl (hi.elim .inl (fun h => .inr ⟨by omega, by omega⟩)))) h1⟩
  have HC := tHid hC;clear hC k1 k2 k3 x0 i0 e0 hs2 hlt
  go_wp2_with fail
  refine leaves_cons (f := 25) (args := #[.pointer (some ⟨w.heap.size, 0, none⟩), .pointer (some ⟨w.heap.size + 1 + 1, 0, none⟩)]) (by simp) (by simp [go_sem]) ?_;refine HC.out.mono ?_;rintro e u' w5 ⟨rfl, rfl, f5, h5, h6⟩;obtain ⟨j1, j2, j3⟩ := HFI.out w5 f5 h5 h6;exact ⟨_, results_it3 rfl _ _ (w.heap.size + 1) (w.heap.size + 1 + 1) ziC (.bool false) (.int .i64 (E : Nat)) rfl rfl rfl j1 ziI j2, j3⟩
end Go.Proofs.YtlenihpbhlfcoaaGreatDoor
namespace Go.Proofs.YtlenihpbhlfcoaaGreatDoor
open Go.RowKit Go.Deep
variable {rb : Nat} {va : Option Addr} {vc : Nat} {b : List By}
theorem qNext_any (w : World) (p0 : Nat) (vG0 : Value) (G0 : List Pr) (hr : RL rb va vc b p0 vG0 G0 w) (hG : OkG G0) (B : Nat) (hE : EnvB B w) (hB : B ≤ w.heap.size ∧ B ≤ rb) (Z : Nat → Prop) (hz : SlR RP Z vG0 G0 w) (hZ : ∀ k, Z k → k < w.heap.size) :
  Calls Tryz.prog 13 #[.pointer (some ⟨rb, 0, none⟩)] w (StA Z rb va vc b (nx b p0 G0 ah0 none) w) := by
 refine asP fun Q hQ => ?_
 obtain ⟨W0, hW0⟩ : ∃ W0, w.alloc (.cells ziC 36) = W0 := ⟨_, rfl⟩;have s0 : W0.heap.size = w.heap.size + 1 := by rw [← hW0]; simp
 have n0 : Nw w W0 := by rw [← hW0]; exact (Fr.refl _ _).alloc _
 have ri : W0.heap[w.heap.size]? = some (.cells ziC 36) := by rw [← hW0]; exact newHeap _ _
 have hlt := Rm.lt hr;have hNX := qstep_any W0 p0 vG0 G0 (RL.step (Rm.nw hr n0) n0.size) hG B (hE.fr n0 hB.1 (fun k hk => hk.elim)) ⟨by omega, hB.2⟩ (fun k => Z k ∨ Btw w W0 k) (((hz.nw n0).both (Rm.nw hr n0).gl).mono (fun g hg => hg.elim .inl (fun hg => .inr (.inr hg.1)))) (fun k hk => hk.elim (fun h => by have := hZ k h; omega) (fun h => h.2));have c3 : W0.cell? ⟨rb, 3, none⟩ = some (.int .i64 0) := (Rm.nw hr n0).cells.2.2.2.2;have HN : Hid (Calls Tryz.prog 19 #[.pointer (some ⟨rb, 0, none⟩)] W0 fun e V =>
   ∃ C t E, e = .returned (.tuple #[.agg C, .bool t, .int .i64 E]) ∧ Hid ((Tryz.prog.info? 36).map (·.size) = some C.size ∧ C.all (·.oneCell') = true ∧ Fr (fun k => k = rb) W0 V ∧ ∀ V', Fr (Btw w W0) V V' → Q (.returned (.tuple #[.agg C, .bool t, .int .i64 E])) V')) := by
  refine hNX.mono fun e V h => ?_
  cases hR : nx b p0 G0 ah0 none with
  | fin a G' =>
   rw [hR] at h hQ;obtain ⟨vG', rfl, h1, h2, h3, h4⟩ := h;refine ⟨ziC, false, 0, rfl, ziI, by simp [ziC, Value.oneCell'], h1, fun V' f2 => ?_⟩;rw [hQ];obtain ⟨k1, k2, k3⟩ := live_mv hr n0 h1 h2 h4 f2;exact ⟨vG', rfl, k1, k2, h3, k3⟩
  | bad a E G' =>
   rw [hR] at h hQ;obtain ⟨rfl, h1, vG', h2⟩ := h;refine ⟨ziC, false, (E : Nat), rfl, ziI, by simp [ziC, Value.oneCell'], h1, fun V' f2 => ?_⟩;rw [hQ];exact ⟨rfl, (n0.any.trans h1).then f2 (fun i hi => .inr hi.1), vG', cell_kept f2 h2 (fun h => by have := h.1; omega)⟩
  | more x a G' =>
   rw [hR] at h hQ;obtain ⟨vM, vP, vG', rfl, h1, h2, h3, h4, h5, h6, h7⟩ := h;obtain ⟨a1, m1, c1, e1⟩ := h4.1;obtain ⟨a2, m2, c2, e2⟩ := h6;refine ⟨_, true, 0, rfl, icI, by subst e1 e2; simp [icC, Value.oneCell'], h1, fun V' f2 => ?_⟩;rw [hQ];obtain ⟨k1, k2, k3⟩ := live_mv hr n0 h1 h2 h7 f2;exact ⟨vM, vP, vG', rfl, k1, k2, h3, h4.mv n0 f2, h5.mv n0 f2, ⟨a2, m2, c2, e2⟩, k3⟩
 have HW0 := tHid hW0;have HRI := tHid ri;have HS0 := tHid s0;have HLT := tHid hlt;clear hNX hQ hr hG hE hB hz hZ n0 ri s0 hW0 hlt;unfold ziC at HW0;go_enter Tryz.func13, Tryz.ntmps13;go_upto_region 1 with fail;rw [HW0.out]
 go_wp2_with fail
 go_at_call 19
 with_reducible refine HN.out.mono ?_
 rintro e V ⟨C, t, E, rfl, K⟩;obtain ⟨hk1, hk2, hk3, hk4⟩ := K;have k1 := tHid hk1;have k2 := tHid hk2;have k3 := tHid hk3;have k4 := tHid hk4;clear hk1 hk2 hk3 hk4;have i0 := cell_kept k3.out HRI.out (fun h => by have := HLT.out; omega);obtain ⟨W3, e3⟩ : ∃ W3, V.setRow w.heap.size C = W3 := ⟨_, rfl⟩;have i3 : W3.heap[w.heap.size]? = some (.cells C 36) := by rw [← e3]; exact setRow_heap _ _ _ _ 36 _ i0
 have f3 : Fr (Btw w W0) V W3 := by rw [← e3]; exact (Fr.refl _ _).setRow _ _ (.inl ⟨Nat.le_refl _, by have := HS0.out; omega⟩)
 have HP := tHid (k4.out W3 f3);have HZ0 : Hid ((ziC : Array Value).size = C.size) := Option.some.inj (ziI.symm.trans k1.out);have HI0 := tHid i0;have HI3 := tHid i3;clear i0 i3 f3
 go_wp2_with (first
  | (refine wpList_store_row rfl 36 _ _ rfl w.heap.size C (by first | rfl | simp [Act.eval]) (by first | rfl | simp [Act.eval]) 36 _ HI0.out k1.out HZ0.out k2.out ?_; rw [e3]))
 (try simp only [Exit.inBlock, Exit.then])
 refine bodyPost_ret (results_it33 rfl _ _ w.heap.size C (.bool t) (.int .i64 E) rfl rfl rfl HI3.out k1.out) rfl ?_;exact HP.out
end Go.Proofs.YtlenihpbhlfcoaaGreatDoor
namespace Go.Proofs.YtlenihpbhlfcoaaGreatDoor
open Go.RowKit
structure Ix where
 x : It
 ma : Option Addr
 mn : Nat
 mc : Nat
 pa : Option Addr
 pn : Nat
 pc : Nat
def Ix.C (y : Ix) : Array Value := icC y.x y.x.size y.x.frm y.x.head y.x.data y.x.next (.slice y.ma y.mn y.mc) (.slice y.pa y.pn y.pc)
def zI : It := ⟨⟨#[]⟩, 0, 0, 0, 0, 0, 0, ⟨#[]⟩, ⟨#[]⟩, ⟨#[]⟩, 0, 0#8, 0, 0#8, 0, 0, 0, 0, 0, false, [], []⟩
def zIx : Ix := ⟨zI, none, 0, 0, none, 0, 0⟩
def RIx : RT Ix := { enc := fun y => y.C.toList, k := 22, T := 36, TS := 24, z := zIx, by_ := 232 }
theorem rixOk : RIx.Ok := by
 refine ⟨fun _ => rfl, by decide, fun x v hv => ?_, Tryz.underlying24, ?_⟩
 ·simp only [RIx, Ix.C, icC, List.mem_cons, List.mem_nil_iff, or_false] at hv;rcases hv with rfl | rfl | rfl | rfl | rfl | rfl | rfl | rfl | rfl | rfl | rfl | rfl | rfl | rfl | rfl | rfl | rfl | rfl | rfl | rfl | rfl | rfl <;> rfl
 ·have h : (Tryz.prog.info? 36).map (fun i => (i.zero, i.size, i.bytes)) = some (some (.agg zIx.C), 22, 232) := by kernel_rfl
  cases hq : Tryz.prog.info? 36 with
  | none => simp [hq] at h
  | some i => simp [hq] at h; exact ⟨i, _, hq, h.1, h.2.1, h.2.2, rfl⟩
theorem ixI {y : Ix} : (Tryz.prog.info? 36).map (·.size) = some y.C.size := icI
structure IxW (X : Nat → Prop) (y : Ix) (w : World) : Prop where
 m : SlR RG X (.slice y.ma y.mn y.mc) y.x.map w
 p : SlR RP X (.slice y.pa y.pn y.pc) y.x.pairs w
theorem IxW.kept {X Y : Nat → Prop} {y : Ix} {w w' : World} (h : IxW X y w) (f : Fr Y w w') (hx : ∀ g, Y g → X g) : IxW X y w' := ⟨h.m.kept f hx, h.p.kept f hx⟩
theorem IxW.nw {X : Nat → Prop} {y : Ix} {w w' : World} (h : IxW X y w) (f : Nw w w') : IxW X y w' := ⟨h.m.nw f, h.p.nw f⟩
theorem IxW.mono {X Y : Nat → Prop} {y : Ix} {w : World} (h : IxW X y w) (hxy : ∀ g, Y g → X g) : IxW Y y w := ⟨h.m.mono hxy, h.p.mono hxy⟩
theorem litIx (V : World) (y : Ix) : OwR RIx V.heap.size (.slice (some ⟨V.heap.size, 0, none⟩) 1 1) [y] (V.alloc (.cells y.C 36)) := OwR.built rixOk V [y] _ (by simp [flatR, RIx]) (by simp)
theorem pushIx (V : World) (og : Option Nat) (v : Value) (l : List Ix) (h : OgR RIx og v l V) (hl : l.length ≤ 600000000000) (y : Ix) :
  ∃ og' v' W, Hid (∀ ty, (Builtin.append_ #[24, 24] ty #[v, .slice (some ⟨V.heap.size, 0, none⟩) 1 1]).run Tryz.prog (V.alloc (.cells y.C 36)) = .ok v' W) ∧
   OgR RIx og' v' (l ++ [y]) W ∧ Fr (fun k => og = some k) V W ∧ Went og og' V := by
 have hN : Nw V (V.alloc (.cells y.C 36)) := (Fr.refl _ _).alloc _;have hb := litIx V y;obtain ⟨v', og', W, k1, k2, k3, k4⟩ := ogR_app rixOk _ og v l (h.nw hN) (.slice (some ⟨V.heap.size, 0, none⟩) 1 1) [y] ((hb.slr rixOk).mono (fun _ h => h.elim)) (by simp only [RIx, List.length_singleton]; omega) (by simp only [List.length_singleton]; omega);exact ⟨og', v', W, k1, k2, hN.any.trans k3, Went.trans (Went.refl _ _) k4 hN.size⟩
end Go.Proofs.YtlenihpbhlfcoaaGreatDoor
namespace Go.Proofs.YtlenihpbhlfcoaaGreatDoor
open Go.RowKit Go.Deep
def ReA (b : List By) (w : World) (e : Ending) (w' : World) : Prop :=
 ∃ (L : List Ix) (v : Value) (a E : Nat) (G : List Pr), rdR b 0 [] = (L.map (·.x), a, E, G) ∧ e = .returned (.tuple #[v, .int .i64 (a : Nat), .int .i64 (E : Nat)]) ∧
  Hid (Nw w w' ∧ ∃ og, OgR RIx og v L w' ∧ (∀ g, og = some g → w.heap.size ≤ g) ∧ ∀ y ∈ L, IxW (fun k => og = some k ∨ k < w.heap.size ∨ w'.heap.size ≤ k) y w')
structure RdJ (w : World) (rb : Nat) (va : Option Addr) (vc : Nat) (b : List By) (p : Nat) (vG : Value) (G : List Pr) (og : Option Nat) (v : Value) (L : List Ix) (V : World) : Prop where
 fr : Nw w V
 rl : RL rb va vc b p vG G V
 ok : OkG G
 gz : SlR RP (fun k => og = some k) vG G V
 bi : Sl (fun k => w.heap.size ≤ k) (.slice va b.length vc) b V
 lo : OgR RIx og v L V
 op : ∀ g, og = some g → w.heap.size ≤ g ∧ g ≠ rb
 le : w.heap.size ≤ rb
 it : ∀ y ∈ L, IxW (fun k => k = rb ∨ og = some k ∨ k < w.heap.size ∨ V.heap.size ≤ k) y V
 eq : rdR b 0 [] = (L.map (·.x) ++ (rdR b p G).1, (rdR b p G).2)
 ln : 512 * L.length ≤ p
variable {w V V1 V2 W : World} {rb : Nat} {va : Option Addr} {vc : Nat} {b : List By} {p : Nat} {vG : Value} {G : List Pr} {og : Option Nat} {v : Value} {L : List Ix}
theorem rdJ_start (va : Option Addr) (vc : Nat) (b : List By) (w : World) (hb : Old w (.slice va b.length vc) b) (hbl : b.length ≤ 140737488351232) : RdJ w w.heap.size va vc b 0 (.slice none 0 0) [] none (.slice none 0 0) [] (w.alloc (.cells #[.slice va b.length vc, .int .i64 0, .slice none 0 0, .int .i64 0] 51)) := by
 have n0 : Nw w (w.alloc (.cells #[.slice va b.length vc, .int .i64 0, .slice none 0 0, .int .i64 0] 51)) := (Fr.refl _ _).alloc _;have hs := n0.size;have hB : Sl (fun k => w.heap.size ≤ k) (.slice va b.length vc) b (w.alloc (.cells #[.slice va b.length vc, .int .i64 0, .slice none 0 0, .int .i64 0] 51)) := Sl.nw hb n0
 refine ⟨n0, ⟨newHeap _ _, hB.mono (fun g hg => hg.elim (fun h => by omega) (fun h => by omega)), .inl ⟨none, rfl, rfl⟩, .inl rfl, Nat.zero_le _, hbl⟩, ?_, .inl ⟨none, rfl, rfl⟩, hB, ⟨rfl, rfl⟩, (fun g hg => by cases hg), Nat.le_refl _, (fun y hy => by cases hy), rfl, Nat.zero_le _⟩;exact ⟨Nat.zero_le _, (fun x hx => by cases hx)⟩
theorem RdJ.push (h : RdJ w rb va vc b p vG G og v L V) {x : It} {a : Nat} {G' : List Pr} {vG' : Value} (hc : nx b p G ah0 none = .more x a G') (f : Fr (fun k => k = rb) V V1) (r : RL rb va vc b a vG' G' V1) (ok : OkG G') (y : Ix) (hyx : y.x = x)
  (hm : MpN V (.slice y.ma y.mn y.mc) x.map V1) (hp : NewP V (.slice y.pa y.pn y.pc) x.pairs V1) (hz : SlR RP (fun k => og = some k) vG' G' V1) (n2 : Nw V1 V2) {og' : Option Nat} {v' : Value} (f3 : Fr (fun k => og = some k) V2 W) (lo : OgR RIx og' v' (L ++ [y]) W) (wt : Went og og' V2) :
  RdJ w rb va vc b a vG' G' og' v' (L ++ [y]) W := by
 have hlt := Rm.lt h.rl;have s1 := ge_of f;have s2 := n2.size;have s3 := ge_of f3;have s0 := h.fr.size;have hle := h.le;have hog : ∀ g, og = some g → g < V.heap.size := fun g hg => h.lo.lt g hg
 have fw : Nw w W := ((h.fr.then f (fun i hi => .inr (by omega))).trans n2).then f3 (fun i hi => .inr (h.op i hi).1);have gg : SlR RP (fun k => (fun k => og = some k) k ∨ (fun k => k = rb ∨ V1.heap.size ≤ k) k) vG' G' W := ((hz.both r.gl).nw n2).kept f3 (fun g hg => .inl hg);have bi : Sl (fun k => w.heap.size ≤ k) (.slice va b.length vc) b W := ((h.bi.kept f (fun g hg => by show w.heap.size ≤ g; omega)).nw n2).kept f3 (fun g hg => (h.op g hg).1)
 refine ⟨fw, ⟨cell_kept f3 (Nw.heap n2 r.row) (fun e => (h.op rb e).2 rfl), bi.mono (fun g hg => ?_), gg.mono (fun g hg => ?_), .inl rfl, r.pl, r.bl⟩, ok, gg.mono (fun g hg => ?_), bi, lo, (fun g hg => ?_), h.le, (fun y' hy' => ?_), ?_, ?_⟩
 ·rcases hg with hg | hg
  ·show w.heap.size ≤ g; omega
  ·show w.heap.size ≤ g; omega
 ·rcases hg with hg | hg
  ·exact .inr (.inl hg)
  ·exact .inr (.inr (by omega))
 ·rcases wt with e | ⟨k, e, hk⟩
  ·exact .inl (by rw [← e]; exact hg)
  ·rw [e] at hg;injection hg with hg;exact .inr (.inr (by omega))
 ·rcases wt with e | ⟨k, e, hk⟩
  ·exact h.op g (by rw [← e]; exact hg)
  ·rw [e] at hg;injection hg with hg;exact ⟨by omega, by omega⟩
 ·rcases List.mem_append.1 hy' with hy' | hy'
  ·refine (((((h.it y' hy').kept f (fun g hg => .inl hg)).nw n2).kept f3 (fun g hg => .inr (.inl hg)))).mono (fun g hg => ?_);rcases hg with hg | hg | hg | hg
   ·exact .inl hg
   ·rcases wt with e | ⟨k, e, hk⟩
    ·exact .inr (.inl (by rw [← e]; exact hg))
    ·rw [e] at hg;injection hg with hg;exact .inr (.inr (.inr (by omega)))
   ·exact .inr (.inr (.inl hg))
   ·exact .inr (.inr (.inr (by omega)))
  ·rw [List.mem_singleton] at hy';subst hy';obtain ⟨_, o1, m1, m2⟩ := hm;obtain ⟨o2, m3, m4⟩ := hp;have l1 : ∀ g, o1 = some g → V.heap.size ≤ g ∧ g < V1.heap.size := fun g hg => ⟨m2 g hg, m1.lt g hg⟩
   have l2 : ∀ g, o2 = some g → V.heap.size ≤ g ∧ g < V1.heap.size := fun g hg => ⟨m4 g hg, m3.lt g hg⟩
   have w1 : ∀ k, (k = rb ∨ og' = some k ∨ k < w.heap.size ∨ W.heap.size ≤ k) → k < V.heap.size ∨ V1.heap.size ≤ k := fun k hk => by
    rcases hk with hk | hk | hk | hk
    ·exact .inl (by omega)
    ·rcases wt with e | ⟨k', e, hk'⟩
     ·exact .inl (hog k (by rw [← e]; exact hk))
     ·rw [e] at hk;injection hk with hk;exact .inr (by omega)
    ·exact .inl (by omega)
    ·exact .inr (by omega)
   rw [← hyx] at m1 m3;exact ⟨(((m1.slr rgOk).nw n2).kept f3 (fun g hg e => by have := (l1 g e).1; have := hog g hg; omega)).mono (fun k hk e => by have := l1 k e; have := w1 k hk; omega),
    (((m3.slr rpOk).nw n2).kept f3 (fun g hg e => by have := (l2 g e).1; have := hog g hg; omega)).mono (fun k hk e => by have := l2 k e; have := w1 k hk; omega)⟩
 ·have := h.eq;rw [rdR_more hc] at this;rw [this, List.map_append, List.map_cons, List.map_nil, hyx, List.append_assoc];rfl
 ·have := (nx_end hc).1;have := h.ln;rw [List.length_append, List.length_singleton];omega
theorem RdJ.ends (h : RdJ w rb va vc b p vG G og v L V) (f : Fr (fun k => k = rb) V V1) (n : Nw V1 W) {a E : Nat} {G' : List Pr} (hr : rdR b p G = ([], a, E, G')) : ReA b w (.returned (.tuple #[v, .int .i64 (a : Nat), .int .i64 (E : Nat)])) W := by
 have hle := h.le;have s1 := ge_of f;have s2 := n.size;refine ⟨L, v, a, E, G', ?_, rfl, (h.fr.then f (fun i hi => .inr (by omega))).trans n, og, (h.lo.kept f (fun g hg e => (h.op g hg).2 e)).nw n, fun g hg => (h.op g hg).1, fun y hy => ?_⟩
 ·have := h.eq;rw [hr] at this;rw [this, List.append_nil]
 ·refine (((h.it y hy).kept f (fun g hg => .inl hg)).nw n).mono (fun g hg => ?_);rcases hg with hg | hg | hg
  ·exact .inr (.inl hg)
  ·exact .inr (.inr (.inl hg))
  ·exact .inr (.inr (.inr (by omega)))
end Go.Proofs.YtlenihpbhlfcoaaGreatDoor

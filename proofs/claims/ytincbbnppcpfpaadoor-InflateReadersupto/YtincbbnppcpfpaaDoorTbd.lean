import Derived.Test.YtincbbnppcpfpaaDoorTbc
import Derived.Recover
import Derived.Defers
import Derived.Laws.EntriesVeiled
namespace Go.Proofs.YtincbbnppcpfpaaDoor
open Go.RowKit
set_option linter.unusedVariables false
set_option maxHeartbeats 4000000 in
set_option maxRecDepth 100000 in
/-- The deferred function, where nothing is to be recovered. -/
theorem scatch_idle (x : Addr) (w : World) :
    CallsD Tryd.prog 45 #[.pointer (some x)] .returning w fun e u' w' => e = .returned (.tuple #[]) ∧ u' = .returning ∧ w' = w := by
  refine callsD_of_wpS Tryd.func45 rfl fun c₀ cs hu => ?_
  apply wpS_seq
  apply wpS_region
  simp [wpOpsS, go_sem, recoverD, hu, Tryd.ntmps45, Exit.thenS]
  refine wpS_of_wp ?_
  go_wp2_with fail
  cases c₀
  simp_all [bodyPostS, results, Tryd.results45]
set_option maxHeartbeats 4000000 in
set_option maxRecDepth 100000 in
/-- The deferred function, where an error is recovered. -/
theorem scatch_fault (xb y : Nat) (older : _) (w : World) (vx : Value) (cx : w.cell? ⟨xb, 0, none⟩ = some vx) (fx : w.frozen? ⟨xb, 0, none⟩ = false) :
    CallsD Tryd.prog 45 #[.pointer (some ⟨xb, 0, none⟩)] (.panicking ({ v := .iface 24 (.int .i64 y), recovered := false } :: older)) w fun e u' w' => e = .returned (.tuple #[]) ∧ u' = .panicking ({ v := .iface 24 (.int .i64 y), recovered := true } :: older) ∧ w' = w.setCell ⟨xb, 0, none⟩ (.int .i64 y) := by
  refine callsD_of_wpS Tryd.func45 rfl fun c₀ cs hu => ?_
  apply wpS_seq
  apply wpS_region
  simp [wpOpsS, go_sem, recoverD, hu, Tryd.ntmps45, Exit.thenS]
  have hta : ∀ (v : Value) (w : World), (Instr.typeAssert (.iface 24 v) 20 24 true).run Tryd.prog w = .ok (.tuple #[v, .bool true]) w := fun v w => by kernel_rfl
  have heq : ∀ (v : Value) (w : World), (binOp BinOp.eql 20 (.iface 24 v) .nilIface).run Tryd.prog w = .ok (.bool false) w := fun v w => by kernel_rfl
  change Code.wpS Tryd.prog _ _ { tmps := #[.pointer (some ⟨xb, 0, none⟩), undef, undef, undef, .iface 24 (.int .i64 y), undef, undef, undef, undef, undef, undef], defers := [] } _ _
  refine wpS_of_wp ?_
  go_wp2_with fail
  cases c₀
  simp_all [bodyPostS, results, Tryd.results45]
variable {sb rb : Nat} {K : Nat → Prop} {rv : Value} {v : Value} {b : List By} {p : Nat} {skip left : Int} {most told : Nat} {m : Mm} {s : Sx} {w : World}
/-- An error's cell is no part of a code. -/
theorem CodV.less {C : Nat → Prop} {u : Value} {ls : List Nat} {xb : Nat} {A : Array Value} (h : CodV C u ls w) (hx : w.heap[xb]? = some (.cells A 24)) : CodV (fun k => C k ∧ k ≠ xb) u ls w := by
  rcases h with h | ⟨cb, gw, gs, ws, ss, h1, h2, h3, h4, h5, h6⟩
  · exact .inl h
  · refine .inr ⟨cb, gw, gs, ws, ss, h1, h2, h3, ⟨h4, fun e => ?_⟩, ⟨h5, fun e => ?_⟩, ⟨h6, fun e => ?_⟩⟩
    · have := h2.c.row
      rw [e, hx] at this
      injection this with this
      injection this with _ this
      exact absurd this (by decide)
    · have := h2.c.wd
      unfold SwR at this
      rw [e, hx] at this
      injection this with this
      injection this with _ this
      exact absurd this (by decide)
    · have := h2.c.st
      unfold SwR at this
      rw [e, hx] at this
      injection this with this
      injection this with _ this
      exact absurd this (by decide)
theorem SmI.less {xb : Nat} {A : Array Value} (h : SmI sb K rv skip left most told m s w) (hx : w.heap[xb]? = some (.cells A 24)) : SmI sb (fun k => K k ∧ k ≠ xb) rv skip left most told m s w :=
  ⟨h.row, fun hk => h.ks hk.1, fun k hk => h.lt k hk.1, h.win, h.wi, h.pl, fun g hg => ⟨fun hk => (h.nw g hg).1 hk.1, (h.nw g hg).2⟩, fun g hg => ⟨fun hk => (h.np g hg).1 hk.1, (h.np g hg).2⟩, h.ls, fun e => ⟨(h.cs e).1.less hx, (h.cs e).2.less hx⟩, fun e => ⟨(h.cf e).1.less hx, (h.cf e).2.less hx⟩, h.pu, h.pd, h.ol, h.ml, h.td⟩
/-- What steps answers. -/
def Stp (sb rb : Nat) (K : Nat → Prop) (b : List By) (p : Nat) (skip : Int) (most told : Nat) (s : Sx) (w : World) (e : Ending) (w' : World) : Prop :=
  ∃ s' p' m' K' y, run most s (bt b p) = (s', bt b p', y) ∧ e = .returned (.int .i64 (y : Nat)) ∧ SmI sb K' (.pointer (some ⟨rb, 0, none⟩)) skip ((8 * b.length - p' : Nat) : Int) most told m' s' w' ∧ p' ≤ 8 * b.length ∧ Bd most p' s' ∧ (∀ k, K k → K' k) ∧ (∀ k, K' k → K k ∨ w.heap.size ≤ k) ∧ Fr (fun k => ¬ K k) w w'
/-- How its loop stands. -/
structure StL (sb rb : Nat) (K : Nat → Prop) (v : Value) (b : List By) (p : Nat) (skip left : Int) (most told : Nat) (s : Sx) (w : World) (s1 : Sx) (p1 : Nat) (m1 : Mm) (K1 : Nat → Prop) (W : World) : Prop where
  st : StI sb rb K1 v b p1 skip left most told m1 s1 W
  bd : Bd most p1 s1
  rn : run most s (bt b p) = run most s1 (bt b p1)
  k1 : ∀ k, K k → K1 k
  k2 : ∀ k, K1 k → K k ∨ w.heap.size ≤ k
  kx : K1 w.heap.size
  row : W.heap[w.heap.size]? = some (.cells #[.int .i64 0] 24)
  fr : Fr (fun k => ¬ K k) w W
  tb : Tab W
/-- The cell of the error is written: the answer. -/
theorem StL.done {s1 : Sx} {p1 : Nat} {m1 : Mm} {K1 : Nat → Prop} {W V : World} {r : Int} {y : Nat} {m2 : Mm} (h : StL sb rb K v b p skip left most told s w s1 p1 m1 K1 W) (hK : ∀ k, K k → k < w.heap.size) (hr : run most s1 (bt b p1) = (s1, bt b p1, y)) (hs : SmI sb K1 (.pointer (some ⟨rb, 0, none⟩)) skip ((8 * b.length - p1 : Nat) : Int) most told m2 s1 V) (hf : Fr (fun k => ¬ K1 k) W V) (z : Int) :
    Stp sb rb K b p skip most told s w (.returned (.int .i64 (y : Nat))) (V.setCell ⟨w.heap.size, 0, none⟩ (.int .i64 z)) := by
  have hrow := row_kept h.row hf (fun e => e h.kx)
  have fs : Fr (fun k => k = w.heap.size) V (V.setCell ⟨w.heap.size, 0, none⟩ (.int .i64 z)) := (Fr.refl _ _).setCell _ _ (.inl rfl)
  have hne : sb ≠ w.heap.size := fun e => hs.ks (by rw [e]; exact h.kx)
  refine ⟨s1, p1, m2, fun k => K1 k ∧ k ≠ w.heap.size, y, h.rn.trans hr, rfl, (hs.less hrow).keep fs hne (fun k hk e => hk.2 e) (fun g hg e => (hs.nw g hg).1 (by rw [e]; exact h.kx)) (fun g hg e => (hs.np g hg).1 (by rw [e]; exact h.kx)), h.st.bl, h.bd, fun k hk => ⟨h.k1 k hk, by have := hK k hk; omega⟩, fun k hk => h.k2 k hk.1, ?_⟩
  exact (h.fr.trans (hf.mono (fun i hi => .inl (fun hk => hi (h.k1 i hk))))).then fs (fun i hi => .inr (by omega))
end Go.Proofs.YtincbbnppcpfpaaDoor

namespace Go.Proofs.YtincbbnppcpfpaaDoor
open Go.RowKit
set_option linter.unusedVariables false
variable {sb rb : Nat} {K : Nat → Prop} {rv : Value} {v : Value} {b : List By} {p : Nat} {skip left : Int} {most told : Nat} {m : Mm} {s : Sx} {w : World}
/-- How many bits are left is noted. -/
theorem StI.noted (h : StI sb rb K v b p skip left most told m s w) (z : Int) : StI sb rb K v b p skip z most told m s (w.setCell ⟨sb, 2, none⟩ (.int .i64 z)) ∧ Fr (fun k => k = sb) w (w.setCell ⟨sb, 2, none⟩ (.int .i64 z)) := by
  obtain ⟨q1, q2⟩ := h.sm.set 2 (.int .i64 z) (.pointer (some ⟨rb, 0, none⟩)) skip z m s rfl rfl rfl rfl rfl rfl rfl h.sm.ls h.sm.cs h.sm.cf h.sm.pu h.sm.pd
  exact ⟨h.sm' q1 q2 rfl rfl, q2⟩
theorem left_noted (h : StI sb rb K v b p skip left most told m s w) : Calls Tryd.prog 43 #[.pointer (some ⟨rb, 0, none⟩)] w fun e V => e = .returned (.int .i64 (8 * b.length - p : Nat)) ∧ (∃ u, V.cell? ⟨sb, 2, none⟩ = some u) ∧ V.frozen? ⟨sb, 2, none⟩ = false ∧ Hid (Nw w V) ∧ Hid (StI sb rb K v b p skip ((8 * b.length - p : Nat) : Int) most told m s (V.setCell ⟨sb, 2, none⟩ (.int .i64 ((8 * b.length - p : Nat) : Int))) ∧ Fr (fun k => ¬ K k) w (V.setCell ⟨sb, 2, none⟩ (.int .i64 ((8 * b.length - p : Nat) : Int)))) := by
  refine (left_any h.rr h.bl).mono (fun e V ⟨a1, a2⟩ => ?_)
  have h1 := h.nw a2
  obtain ⟨c1, c2⟩ := sc2 h1.sm.row
  obtain ⟨q1, q2⟩ := h1.noted ((8 * b.length - p : Nat) : Int)
  exact ⟨a1, ⟨_, c1⟩, c2, a2, q1, a2.any.trans (h1.frs q2)⟩
set_option maxHeartbeats 32000000 in
set_option maxRecDepth 100000 in
theorem steps_any (h : StI sb rb K v b p skip left most told m s w) (hb : Bd most p s) (hT : Tab w) (h0 : K 0) :
    Calls Tryd.prog 34 #[.pointer (some ⟨sb, 0, none⟩)] w (Stp sb rb K b p skip most told s w) := by
  obtain ⟨P, hP⟩ : ∃ P : Ending → World → Prop, P = Stp sb rb K b p skip most told s w := ⟨_, rfl⟩
  rw [← hP]
  have hN1 : Nw w (w.alloc (.cells #[.int .i64 0] 24)) := (Fr.refl _ _).alloc _
  have hs1 : (w.alloc (.cells #[.int .i64 0] 24)).heap.size = w.heap.size + 1 := by simp
  have H1 := h.fresh (h.nw hN1) hN1.size
  have hK : ∀ k, K k → k < w.heap.size := h.sm.lt
  obtain ⟨W1, hW1⟩ : ∃ W1, w.alloc (.cells #[.int .i64 0] 24) = W1 := ⟨_, rfl⟩
  have hrow1 : W1.heap[w.heap.size]? = some (.cells #[.int .i64 0] 24) := by rw [← hW1]; exact new_heap _ _
  rw [hW1] at hN1 hs1 H1
  -- the first note
  have HL0 : Hid (Calls Tryd.prog 43 #[.pointer (some ⟨rb, 0, none⟩)] W1 fun e V => e = .returned (.int .i64 (8 * b.length - p : Nat)) ∧ (∃ u, V.cell? ⟨sb, 2, none⟩ = some u) ∧ V.frozen? ⟨sb, 2, none⟩ = false ∧ Hid (∃ K1, StL sb rb K v b p skip ((8 * b.length - p : Nat) : Int) most told s w s p m K1 (V.setCell ⟨sb, 2, none⟩ (.int .i64 ((8 * b.length - p : Nat) : Int))))) := (left_noted H1).mono (fun e V ⟨a1, a2, a3, a4, a5⟩ => by
    obtain ⟨q1, q2⟩ := a5.out
    refine ⟨a1, a2, a3, _, q1, hb, rfl, fun k hk => .inl hk, fun k hk => hk.imp id (fun e => e.1), .inr ⟨Nat.le_refl _, by omega⟩, row_kept hrow1 q2 (fun e => e (.inr ⟨Nat.le_refl _, by omega⟩)), hN1.any.trans (q2.mono (fun i hi => .inl (fun hk => hi (.inl hk)))), ?_⟩
    exact (hT.kept hN1 (fun h => h)).kept q2 (fun e => e (.inl h0)))
  -- a step
  have HSTP : Hid (∀ s1 p1 m1 K1 W, StL sb rb K v b p skip ((8 * b.length - p1 : Nat) : Int) most told s w s1 p1 m1 K1 W → s1.md ≠ 3 → Calls Tryd.prog 46 #[.pointer (some ⟨sb, 0, none⟩)] W fun e V => (∃ y : Nat, e = gv y ∧ V.cell? ⟨w.heap.size, 0, none⟩ = some (.int .i64 0) ∧ V.frozen? ⟨w.heap.size, 0, none⟩ = false ∧ Hid (P (.returned (.int .i64 y)) (V.setCell ⟨w.heap.size, 0, none⟩ (.int .i64 y)))) ∨ (∃ r, e = .returned r ∧ V.cell? ⟨sb, 0, none⟩ = some (.pointer (some ⟨rb, 0, none⟩)) ∧ Hid (∃ p2, p1 < p2 ∧ p2 ≤ 8 * b.length ∧ Calls Tryd.prog 43 #[.pointer (some ⟨rb, 0, none⟩)] V fun e U => e = .returned (.int .i64 (8 * b.length - p2 : Nat)) ∧ (∃ u, U.cell? ⟨sb, 2, none⟩ = some u) ∧ U.frozen? ⟨sb, 2, none⟩ = false ∧ Hid (∃ s2 m2 K2, StL sb rb K v b p skip ((8 * b.length - p2 : Nat) : Int) most told s w s2 p2 m2 K2 (U.setCell ⟨sb, 2, none⟩ (.int .i64 ((8 * b.length - p2 : Nat) : Int))))))) := by
    intro s1 p1 m1 K1 W hL hmd
    refine (step_any hL.st hL.bd hmd hL.tb (hL.k1 0 h0)).mono ?_
    rintro e V (⟨y, a1, a2⟩ | ⟨r, a1, a2⟩)
    · refine .inl ⟨y, a1, ?_⟩
      rcases a2.out with ⟨y', b1, b2, ⟨l', b3⟩, b4⟩ | ⟨s', p', m', K', x, b1, b2, b3, b4, _⟩
      · injection b2 with b2
        injection b2 with b2
        injection b2 with b2
        injection b2 with _ b2
        injection b2 with _ b2
        have hyy : y = y' := by exact_mod_cast b2
        subst hyy
        have hrow := row_kept hL.row b4 (fun e => e hL.kx)
        refine ⟨(row_cell hrow 0 _ rfl).1, (row_cell hrow 0 (.int .i64 0) rfl).2, ?_⟩
        show P _ _
        rw [hP]
        exact hL.done (r := 0) hK (run_bad hmd b1) b3 b4 _
      · cases b4
    · refine .inr ⟨r, a1, ?_⟩
      rcases a2.out r with ⟨y', b1, b2, _⟩ | ⟨s', p', m', K', x, b1, b2, b3, b4, b5, b6, b7, b8⟩
      · cases b2
      · refine ⟨(sc0 b5.sm.row).1, p', b2, b5.bl, ?_⟩
        refine (left_noted b5).mono (fun e U ⟨c1, c2, c3, c4, c5⟩ => ⟨c1, c2, c3, ?_⟩)
        obtain ⟨q1, q2⟩ := c5.out
        have hfr := hL.fr.trans (b8.mono (fun i hi => .inl (fun hk => hi (hL.k1 i hk))))
        have hws := hL.fr.size
        refine ⟨s', m', K', q1, b3, hL.rn.trans b1, fun k hk => b6 k (hL.k1 k hk), fun k hk => ?_, b6 _ hL.kx, row_kept (row_kept hL.row b8 (fun e => e hL.kx)) q2 (fun e => e (b6 _ hL.kx)), hfr.trans (q2.mono (fun i hi => .inl (fun hk => hi (b6 _ (hL.k1 i hk))))), ?_⟩
        · rcases b7 k hk with e | e
          · exact hL.k2 k e
          · exact .inr (by omega)
        · exact (hL.tb.kept b8 (fun e => e (hL.k1 0 h0))).kept q2 (fun e => e (b6 _ (hL.k1 0 h0)))
  have HEND : Hid (∀ s1 p1 m1 K1 W, StL sb rb K v b p skip ((8 * b.length - p1 : Nat) : Int) most told s w s1 p1 m1 K1 W → s1.md = 3 → W.cell? ⟨w.heap.size, 0, none⟩ = some (.int .i64 0) ∧ W.frozen? ⟨w.heap.size, 0, none⟩ = false ∧ P (.returned (.int .i64 0)) (W.setCell ⟨w.heap.size, 0, none⟩ (.int .i64 0))) := fun s1 p1 m1 K1 W hL hmd => by
    refine ⟨(row_cell hL.row 0 _ rfl).1, (row_cell hL.row 0 (.int .i64 0) rfl).2, ?_⟩
    rw [hP]
    exact hL.done (r := 0) (y := 0) hK (run_end hmd) hL.st.sm (Fr.refl _ _) 0
  have HMD : Hid (∀ s1 p1 m1 K1 W, StL sb rb K v b p skip ((8 * b.length - p1 : Nat) : Int) most told s w s1 p1 m1 K1 W → W.cell? ⟨sb, 7, none⟩ = some (.int .i64 s1.md) ∧ p1 ≤ 8 * b.length ∧ s1.md ≤ 3) := fun s1 p1 m1 K1 W hL => ⟨(sc7 hL.st.sm.row).1, hL.st.bl, hL.bd.1⟩
  have c0 := (sc0 H1.sm.row).1
  have hbl := h.rr.bl
  have hmf : ∀ (fn : Fn) (first cap : Array Value) (w : World), (Instr.makeFunc fn first cap).run Tryd.prog w = .ok (.func fn first cap) w := fun _ _ _ _ => rfl
  clear hP h hb hT h0 H1 hN1 hs1 hrow1 hK
  generalize hLL : 8 * b.length = LL at *
  have hLLb : LL ≤ 1600000000000000 := by omega
  clear hLL
  obtain ⟨xb, hxb⟩ : ∃ xb, xb = w.heap.size := ⟨_, rfl⟩
  rw [← hxb] at HSTP HEND
  have HXB : Hid (xb = w.heap.size) := hxb
  clear hxb
  go_enter_defers Tryd.func34, Tryd.ntmps34
  go_wp2_with (first | (go_at_call 43; (with_reducible refine HL0.out.mono ?_); rintro e w2 ⟨rfl, ⟨u, x0⟩, x1, H2⟩))
  rw [← HXB.out]
  go_loopg [12] LL (fun kx i wr => ∃ p1, LL - p1 ≤ kx ∧ Hid (∃ s1 m1 K1, StL sb rb K v b p skip ((LL - p1 : Nat) : Int) most told s w s1 p1 m1 K1 wr))
  case atStart =>
    obtain ⟨K1, hh⟩ := H2.out
    exact ⟨p, by omega, s, m, K1, hh⟩
  case round =>
    obtain ⟨p1, hkx, HI⟩ := hrel
    clear H2 x0 x1 HL0 hW1 c0
    obtain ⟨s1, m1, K1, hL⟩ := HI.out
    obtain ⟨c7, hp1, hm3⟩ := HMD.out s1 p1 m1 K1 wr hL
    by_cases hmd : s1.md = 3
    · obtain ⟨k1, k2, k3⟩ := HEND.out s1 p1 m1 K1 wr hL hmd
      have HF : Hid (P (.returned (.int .i64 0)) (wr.setCell ⟨xb, 0, none⟩ (.int .i64 0))) := k3
      have hz : ((s1.md : Int) != 3) = false := by rw [hmd]; rfl
      clear k3 HI hL HSTP HEND HMD
      generalize s1.md = md at *
      have c1 : (wr.setCell ⟨xb, 0, none⟩ (.int .i64 0)).cell? ⟨xb, 0, none⟩ = some (.int .i64 0) := World.cell?_setCell_same _ _ _ k1
      go_wp2_with fail
      refine leaves_cons (f := 45) (args := #[.pointer (some ⟨xb, 0, none⟩)]) (by simp) (by simp [go_sem]) ?_
      refine (scatch_idle ⟨xb, 0, none⟩ _).mono ?_
      rintro e u' w5 ⟨rfl, rfl, rfl⟩
      simp [Leaves, settle, results, Tryd.results34, go_sem, c1]
      exact HF.out
    · have HC : Hid _ := HSTP.out s1 p1 m1 K1 wr hL hmd
      have hz : ((s1.md : Int) != 3) = true := by
        simp only [bne_iff_ne, ne_eq]; omega
      have HC2 : Hid (Calls Tryd.prog 46 #[.pointer (some ⟨sb, 0, none⟩)] wr fun e V => (∃ y : Nat, e = gv y ∧ V.cell? ⟨xb, 0, none⟩ = some (.int .i64 0) ∧ V.frozen? ⟨xb, 0, none⟩ = false ∧ Hid (P (.returned (.int .i64 y)) (V.setCell ⟨xb, 0, none⟩ (.int .i64 y)))) ∨ (∃ r, e = .returned r ∧ V.cell? ⟨sb, 0, none⟩ = some (.pointer (some ⟨rb, 0, none⟩)) ∧ Hid (∃ p2, p1 < p2 ∧ p2 ≤ LL ∧ Calls Tryd.prog 43 #[.pointer (some ⟨rb, 0, none⟩)] V fun e U => e = .returned (.int .i64 (LL - p2 : Nat)) ∧ (∃ u, U.cell? ⟨sb, 2, none⟩ = some u) ∧ U.frozen? ⟨sb, 2, none⟩ = false ∧ Hid (∃ s2 m2 K2, StL sb rb K v b p skip ((LL - p2 : Nat) : Int) most told s w s2 p2 m2 K2 (U.setCell ⟨sb, 2, none⟩ (.int .i64 ((LL - p2 : Nat) : Int))))))) := HC.out
      clear HC HI hL HSTP HEND HMD hmd
      generalize s1.md = md at *
      go_wp2_with fail
      go_at_call 46
      with_reducible refine HC2.out.mono ?_
      rintro e w3 (⟨y, rfl, k1, k2, HF⟩ | ⟨r, rfl, k1, HD⟩)
      · have c1 : (w3.setCell ⟨xb, 0, none⟩ (.int .i64 y)).cell? ⟨xb, 0, none⟩ = some (.int .i64 y) := World.cell?_setCell_same _ _ _ k1
        go_wp2_with fail
        refine leaves_cons (f := 45) (args := #[.pointer (some ⟨xb, 0, none⟩)]) (by simp) (by simp [go_sem]) ?_
        refine (scatch_fault xb y [] w3 _ k1 k2).mono ?_
        rintro e u' w5 ⟨rfl, rfl, rfl⟩
        simp [Leaves, settle, results, Tryd.results34, go_sem, c1]
        exact HF.out
      · obtain ⟨p2, d1, d2, d3⟩ := HD.out
        have HLF : Hid (Calls Tryd.prog 43 #[.pointer (some ⟨rb, 0, none⟩)] w3 fun e U => e = .returned (.int .i64 (LL - p2 : Nat)) ∧ (∃ u, U.cell? ⟨sb, 2, none⟩ = some u) ∧ U.frozen? ⟨sb, 2, none⟩ = false ∧ Hid (∃ s2 m2 K2, StL sb rb K v b p skip ((LL - p2 : Nat) : Int) most told s w s2 p2 m2 K2 (U.setCell ⟨sb, 2, none⟩ (.int .i64 ((LL - p2 : Nat) : Int))))) := d3
        clear d3 HD HC2
        go_wp2_with (first | (go_at_call 43; (with_reducible refine HLF.out.mono ?_); rintro e w4 ⟨rfl, ⟨u2, x0⟩, x1, H4⟩))
        go_roundg (LL - p2)
        all_goals (first | omega | exact ⟨p2, Nat.le_refl _, H4.out⟩)
end Go.Proofs.YtincbbnppcpfpaaDoor

import Derived.Test.YtpjnbhflnbhnoaaGreatDoorWbh
import Derived.Recover
import Derived.Defers
import Derived.Laws.EntriesVeiled
namespace Go.Proofs.YtpjnbhflnbhnoaaGreatDoor
open Go.RowKit
set_option linter.unusedVariables false
set_option maxHeartbeats 4000000 in
set_option maxRecDepth 100000 in
/-- The deferred function, where nothing is to be recovered. -/
theorem scatch_idle (x : Addr) (w : World) :
    CallsD Tryz.prog 130 #[.pointer (some x)] .returning w fun e u' w' => e = .returned (.tuple #[]) ∧ u' = .returning ∧ w' = w := by
  refine callsD_of_wpS Tryz.func130 rfl fun c₀ cs hu => ?_
  apply wpS_seq
  apply wpS_region
  simp [wpOpsS, go_sem, recoverD, hu, Tryz.ntmps130, Exit.thenS]
  refine wpS_of_wp ?_
  go_wp2_with fail
  cases c₀
  simp_all [bodyPostS, results, Tryz.results130]
set_option maxHeartbeats 4000000 in
set_option maxRecDepth 100000 in
/-- The deferred function, where an error is recovered. -/
theorem scatch_fault (xb y : Nat) (older : _) (w : World) (vx : Value) (cx : w.cell? ⟨xb, 0, none⟩ = some vx) (fx : w.frozen? ⟨xb, 0, none⟩ = false) :
    CallsD Tryz.prog 130 #[.pointer (some ⟨xb, 0, none⟩)] (.panicking ({ v := .iface 27 (.int .i64 y), recovered := false } :: older)) w fun e u' w' => e = .returned (.tuple #[]) ∧ u' = .panicking ({ v := .iface 27 (.int .i64 y), recovered := true } :: older) ∧ w' = w.setCell ⟨xb, 0, none⟩ (.int .i64 y) := by
  refine callsD_of_wpS Tryz.func130 rfl fun c₀ cs hu => ?_
  apply wpS_seq
  apply wpS_region
  simp [wpOpsS, go_sem, recoverD, hu, Tryz.ntmps130, Exit.thenS]
  have hta : ∀ (v : Value) (w : World), (Instr.typeAssert (.iface 27 v) 20 27 true).run Tryz.prog w = .ok (.tuple #[v, .bool true]) w := fun v w => by kernel_rfl
  have heq : ∀ (v : Value) (w : World), (binOp BinOp.eql 20 (.iface 27 v) .nilIface).run Tryz.prog w = .ok (.bool false) w := fun v w => by kernel_rfl
  change Code.wpS Tryz.prog _ _ { tmps := #[.pointer (some ⟨xb, 0, none⟩), undef, undef, undef, .iface 27 (.int .i64 y), undef, undef, undef, undef, undef, undef], defers := [] } _ _
  refine wpS_of_wp ?_
  go_wp2_with fail
  cases c₀
  simp_all [bodyPostS, results, Tryz.results130]
variable {sb rb : Nat} {K : Nat → Prop} {rv : Value} {v : Value} {b : List By} {p : Nat} {skip left : Int} {most told : Nat} {m : Mm} {s : Sx} {w : World}
/-- An error's cell is no part of a code. -/
theorem CodV.less {C : Nat → Prop} {u : Value} {ls : List Nat} {xb : Nat} {A : Array Value} (h : CodV C u ls w) (hx : w.heap[xb]? = some (.cells A 27)) : CodV (fun k => C k ∧ k ≠ xb) u ls w := by
  rcases h with h | ⟨cb, gw, gs, ws, ss, h1, h2, h3, h4, h5, h6⟩
  · exact .inl h
  · refine .inr ⟨cb, gw, gs, ws, ss, h1, h2, h3, ⟨h4, fun e => ?_⟩, ⟨h5, fun e => ?_⟩, ⟨h6, fun e => ?_⟩⟩
    · have := h2.c.row
      rw [e, hx] at this
      injection this with this
      injection this with _ this
      exact absurd this (by decide)
    · have := h2.c.wd
      unfold SwR at this
      rw [e, hx] at this
      injection this with this
      injection this with _ this
      exact absurd this (by decide)
    · have := h2.c.st
      unfold SwR at this
      rw [e, hx] at this
      injection this with this
      injection this with _ this
      exact absurd this (by decide)
theorem SmI.less {xb : Nat} {A : Array Value} (h : SmI sb K rv skip left most told m s w) (hx : w.heap[xb]? = some (.cells A 27)) : SmI sb (fun k => K k ∧ k ≠ xb) rv skip left most told m s w :=
  ⟨h.row, fun hk => h.ks hk.1, fun k hk => h.lt k hk.1, h.win, h.wi, h.pl, fun g hg => ⟨fun hk => (h.nw g hg).1 hk.1, (h.nw g hg).2⟩, fun g hg => ⟨fun hk => (h.np g hg).1 hk.1, (h.np g hg).2⟩, h.ls, fun e => ⟨(h.cs e).1.less hx, (h.cs e).2.less hx⟩, fun e => ⟨(h.cf e).1.less hx, (h.cf e).2.less hx⟩, h.pu, h.pd, h.ol, h.ml, h.td⟩
/-- What steps answers. -/
def Stp (sb rb : Nat) (K : Nat → Prop) (b : List By) (p : Nat) (skip : Int) (most told : Nat) (s : Sx) (w : World) (e : Ending) (w' : World) : Prop :=
  ∃ s' p' m' K' y, run most s (bt b p) = (s', bt b p', y) ∧ e = .returned (.int .i64 (y : Nat)) ∧ SmI sb K' (.pointer (some ⟨rb, 0, none⟩)) skip ((8 * b.length - p' : Nat) : Int) most told m' s' w' ∧ p' ≤ 8 * b.length ∧ Bd most p' s' ∧ (∀ k, K k → K' k) ∧ (∀ k, K' k → K k ∨ w.heap.size ≤ k) ∧ Fr (fun k => ¬ K k) w w'
/-- How its loop stands. -/
structure StL (sb rb : Nat) (K : Nat → Prop) (v : Value) (b : List By) (p : Nat) (skip left : Int) (most told : Nat) (s : Sx) (w : World) (s1 : Sx) (p1 : Nat) (m1 : Mm) (K1 : Nat → Prop) (W : World) : Prop where
  st : StI sb rb K1 v b p1 skip left most told m1 s1 W
  bd : Bd most p1 s1
  rn : run most s (bt b p) = run most s1 (bt b p1)
  k1 : ∀ k, K k → K1 k
  k2 : ∀ k, K1 k → K k ∨ w.heap.size ≤ k
  kx : K1 w.heap.size
  row : W.heap[w.heap.size]? = some (.cells #[.int .i64 0] 27)
  fr : Fr (fun k => ¬ K k) w W
  tb : Tab W
/-- The cell of the error is written: the answer. -/
theorem StL.done {s1 : Sx} {p1 : Nat} {m1 : Mm} {K1 : Nat → Prop} {W V : World} {r : Int} {y : Nat} {m2 : Mm} (h : StL sb rb K v b p skip left most told s w s1 p1 m1 K1 W) (hK : ∀ k, K k → k < w.heap.size) (hr : run most s1 (bt b p1) = (s1, bt b p1, y)) (hs : SmI sb K1 (.pointer (some ⟨rb, 0, none⟩)) skip ((8 * b.length - p1 : Nat) : Int) most told m2 s1 V) (hf : Fr (fun k => ¬ K1 k) W V) (z : Int) :
    Stp sb rb K b p skip most told s w (.returned (.int .i64 (y : Nat))) (V.setCell ⟨w.heap.size, 0, none⟩ (.int .i64 z)) := by
  have hrow := row_kept h.row hf (fun e => e h.kx)
  have fs : Fr (fun k => k = w.heap.size) V (V.setCell ⟨w.heap.size, 0, none⟩ (.int .i64 z)) := (Fr.refl _ _).setCell _ _ (.inl rfl)
  have hne : sb ≠ w.heap.size := fun e => hs.ks (by rw [e]; exact h.kx)
  refine ⟨s1, p1, m2, fun k => K1 k ∧ k ≠ w.heap.size, y, h.rn.trans hr, rfl, (hs.less hrow).keep fs hne (fun k hk e => hk.2 e) (fun g hg e => (hs.nw g hg).1 (by rw [e]; exact h.kx)) (fun g hg e => (hs.np g hg).1 (by rw [e]; exact h.kx)), h.st.bl, h.bd, fun k hk => ⟨h.k1 k hk, by have := hK k hk; omega⟩, fun k hk => h.k2 k hk.1, ?_⟩
  exact (h.fr.trans (hf.mono (fun i hi => .inl (fun hk => hi (h.k1 i hk))))).then fs (fun i hi => .inr (by omega))
end Go.Proofs.YtpjnbhflnbhnoaaGreatDoor

namespace Go.Proofs.YtpjnbhflnbhnoaaGreatDoor
open Go.RowKit
set_option linter.unusedVariables false
variable {sb rb : Nat} {K : Nat → Prop} {rv : Value} {v : Value} {b : List By} {p : Nat} {skip left : Int} {most told : Nat} {m : Mm} {s : Sx} {w : World}
/-- How many bits are left is noted. -/
theorem StI.noted (h : StI sb rb K v b p skip left most told m s w) (z : Int) : StI sb rb K v b p skip z most told m s (w.setCell ⟨sb, 2, none⟩ (.int .i64 z)) ∧ Fr (fun k => k = sb) w (w.setCell ⟨sb, 2, none⟩ (.int .i64 z)) := by
  obtain ⟨q1, q2⟩ := h.sm.set 2 (.int .i64 z) (.pointer (some ⟨rb, 0, none⟩)) skip z m s rfl rfl rfl rfl rfl rfl rfl h.sm.ls h.sm.cs h.sm.cf h.sm.pu h.sm.pd
  exact ⟨h.sm' q1 q2 rfl rfl, q2⟩
theorem left_noted (h : StI sb rb K v b p skip left most told m s w) : Calls Tryz.prog 128 #[.pointer (some ⟨rb, 0, none⟩)] w fun e V => e = .returned (.int .i64 (8 * b.length - p : Nat)) ∧ (∃ u, V.cell? ⟨sb, 2, none⟩ = some u) ∧ V.frozen? ⟨sb, 2, none⟩ = false ∧ Hid (Nw w V) ∧ Hid (StI sb rb K v b p skip ((8 * b.length - p : Nat) : Int) most told m s (V.setCell ⟨sb, 2, none⟩ (.int .i64 ((8 * b.length - p : Nat) : Int))) ∧ Fr (fun k => ¬ K k) w (V.setCell ⟨sb, 2, none⟩ (.int .i64 ((8 * b.length - p : Nat) : Int)))) := by
  refine (left_any h.rr h.bl).mono (fun e V ⟨a1, a2⟩ => ?_)
  have h1 := h.nw a2
  obtain ⟨c1, c2⟩ := sc2 h1.sm.row
  obtain ⟨q1, q2⟩ := h1.noted ((8 * b.length - p : Nat) : Int)
  exact ⟨a1, ⟨_, c1⟩, c2, a2, q1, a2.any.trans (h1.frs q2)⟩
set_option maxHeartbeats 32000000 in
set_option maxRecDepth 100000 in
theorem steps_any (h : StI sb rb K v b p skip left most told m s w) (hb : Bd most p s) (hT : Tab w) (h0 : K 5) :
    Calls Tryz.prog 88 #[.pointer (some ⟨sb, 0, none⟩)] w (Stp sb rb K b p skip most told s w) := by
  obtain ⟨P, hP⟩ : ∃ P : Ending → World → Prop, P = Stp sb rb K b p skip most told s w := ⟨_, rfl⟩
  rw [← hP]
  have hN1 : Nw w (w.alloc (.cells #[.int .i64 0] 27)) := (Fr.refl _ _).alloc _
  have hs1 : (w.alloc (.cells #[.int .i64 0] 27)).heap.size = w.heap.size + 1 := by simp
  have H1 := h.fresh (h.nw hN1) hN1.size
  have hK : ∀ k, K k → k < w.heap.size := h.sm.lt
  obtain ⟨W1, hW1⟩ : ∃ W1, w.alloc (.cells #[.int .i64 0] 27) = W1 := ⟨_, rfl⟩
  have hrow1 : W1.heap[w.heap.size]? = some (.cells #[.int .i64 0] 27) := by rw [← hW1]; exact new_heap _ _
  rw [hW1] at hN1 hs1 H1
  -- the first note
  have HL0 : Hid (Calls Tryz.prog 128 #[.pointer (some ⟨rb, 0, none⟩)] W1 fun e V => e = .returned (.int .i64 (8 * b.length - p : Nat)) ∧ (∃ u, V.cell? ⟨sb, 2, none⟩ = some u) ∧ V.frozen? ⟨sb, 2, none⟩ = false ∧ Hid (∃ K1, StL sb rb K v b p skip ((8 * b.length - p : Nat) : Int) most told s w s p m K1 (V.setCell ⟨sb, 2, none⟩ (.int .i64 ((8 * b.length - p : Nat) : Int))))) := (left_noted H1).mono (fun e V ⟨a1, a2, a3, a4, a5⟩ => by
    obtain ⟨q1, q2⟩ := a5.out
    refine ⟨a1, a2, a3, _, q1, hb, rfl, fun k hk => .inl hk, fun k hk => hk.imp id (fun e => e.1), .inr ⟨Nat.le_refl _, by omega⟩, row_kept hrow1 q2 (fun e => e (.inr ⟨Nat.le_refl _, by omega⟩)), hN1.any.trans (q2.mono (fun i hi => .inl (fun hk => hi (.inl hk)))), ?_⟩
    exact (hT.kept hN1 (fun h => h)).kept q2 (fun e => e (.inl h0)))
  -- a step
  have HSTP : Hid (∀ s1 p1 m1 K1 W, StL sb rb K v b p skip ((8 * b.length - p1 : Nat) : Int) most told s w s1 p1 m1 K1 W → s1.md ≠ 3 → Calls Tryz.prog 131 #[.pointer (some ⟨sb, 0, none⟩)] W fun e V => (∃ y : Nat, e = gv y ∧ V.cell? ⟨w.heap.size, 0, none⟩ = some (.int .i64 0) ∧ V.frozen? ⟨w.heap.size, 0, none⟩ = false ∧ Hid (P (.returned (.int .i64 y)) (V.setCell ⟨w.heap.size, 0, none⟩ (.int .i64 y)))) ∨ (∃ r, e = .returned r ∧ V.cell? ⟨sb, 0, none⟩ = some (.pointer (some ⟨rb, 0, none⟩)) ∧ Hid (∃ p2, p1 < p2 ∧ p2 ≤ 8 * b.length ∧ Calls Tryz.prog 128 #[.pointer (some ⟨rb, 0, none⟩)] V fun e U => e = .returned (.int .i64 (8 * b.length - p2 : Nat)) ∧ (∃ u, U.cell? ⟨sb, 2, none⟩ = some u) ∧ U.frozen? ⟨sb, 2, none⟩ = false ∧ Hid (∃ s2 m2 K2, StL sb rb K v b p skip ((8 * b.length - p2 : Nat) : Int) most told s w s2 p2 m2 K2 (U.setCell ⟨sb, 2, none⟩ (.int .i64 ((8 * b.length - p2 : Nat) : Int))))))) := by
    intro s1 p1 m1 K1 W hL hmd
    refine (step_any hL.st hL.bd hmd hL.tb (hL.k1 5 h0)).mono ?_
    rintro e V (⟨y, a1, a2⟩ | ⟨r, a1, a2⟩)
    · refine .inl ⟨y, a1, ?_⟩
      rcases a2.out with ⟨y', b1, b2, ⟨l', b3⟩, b4⟩ | ⟨s', p', m', K', x, b1, b2, b3, b4, _⟩
      · injection b2 with b2
        injection b2 with b2
        injection b2 with b2
        injection b2 with _ b2
        injection b2 with _ b2
        have hyy : y = y' := by exact_mod_cast b2
        subst hyy
        have hrow := row_kept hL.row b4 (fun e => e hL.kx)
        refine ⟨(row_cell hrow 0 _ rfl).1, (row_cell hrow 0 (.int .i64 0) rfl).2, ?_⟩
        show P _ _
        rw [hP]
        exact hL.done (r := 0) hK (run_bad hmd b1) b3 b4 _
      · cases b4
    · refine .inr ⟨r, a1, ?_⟩
      rcases a2.out r with ⟨y', b1, b2, _⟩ | ⟨s', p', m', K', x, b1, b2, b3, b4, b5, b6, b7, b8⟩
      · cases b2
      · refine ⟨(sc0 b5.sm.row).1, p', b2, b5.bl, ?_⟩
        refine (left_noted b5).mono (fun e U ⟨c1, c2, c3, c4, c5⟩ => ⟨c1, c2, c3, ?_⟩)
        obtain ⟨q1, q2⟩ := c5.out
        have hfr := hL.fr.trans (b8.mono (fun i hi => .inl (fun hk => hi (hL.k1 i hk))))
        have hws := hL.fr.size
        refine ⟨s', m', K', q1, b3, hL.rn.trans b1, fun k hk => b6 k (hL.k1 k hk), fun k hk => ?_, b6 _ hL.kx, row_kept (row_kept hL.row b8 (fun e => e hL.kx)) q2 (fun e => e (b6 _ hL.kx)), hfr.trans (q2.mono (fun i hi => .inl (fun hk => hi (b6 _ (hL.k1 i hk))))), ?_⟩
        · rcases b7 k hk with e | e
          · exact hL.k2 k e
          · exact .inr (by omega)
        · exact (hL.tb.kept b8 (fun e => e (hL.k1 5 h0))).kept q2 (fun e => e (b6 _ (hL.k1 5 h0)))
  have HEND : Hid (∀ s1 p1 m1 K1 W, StL sb rb K v b p skip ((8 * b.length - p1 : Nat) : Int) most told s w s1 p1 m1 K1 W → s1.md = 3 → W.cell? ⟨w.heap.size, 0, none⟩ = some (.int .i64 0) ∧ W.frozen? ⟨w.heap.size, 0, none⟩ = false ∧ P (.returned (.int .i64 0)) (W.setCell ⟨w.heap.size, 0, none⟩ (.int .i64 0))) := fun s1 p1 m1 K1 W hL hmd => by
    refine ⟨(row_cell hL.row 0 _ rfl).1, (row_cell hL.row 0 (.int .i64 0) rfl).2, ?_⟩
    rw [hP]
    exact hL.done (r := 0) (y := 0) hK (run_end hmd) hL.st.sm (Fr.refl _ _) 0
  have HMD : Hid (∀ s1 p1 m1 K1 W, StL sb rb K v b p skip ((8 * b.length - p1 : Nat) : Int) most told s w s1 p1 m1 K1 W → W.cell? ⟨sb, 7, none⟩ = some (.int .i64 s1.md) ∧ p1 ≤ 8 * b.length ∧ s1.md ≤ 3) := fun s1 p1 m1 K1 W hL => ⟨(sc7 hL.st.sm.row).1, hL.st.bl, hL.bd.1⟩
  have c0 := (sc0 H1.sm.row).1
  have hbl := h.rr.bl
  have hmf : ∀ (fn : Fn) (first cap : Array Value) (w : World), (Instr.makeFunc fn first cap).run Tryz.prog w = .ok (.func fn first cap) w := fun _ _ _ _ => rfl
  clear hP h hb hT h0 H1 hN1 hs1 hrow1 hK
  generalize hLL : 8 * b.length = LL at *
  have hLLb : LL ≤ 1600000000000000 := by omega
  clear hLL
  obtain ⟨xb, hxb⟩ : ∃ xb, xb = w.heap.size := ⟨_, rfl⟩
  rw [← hxb] at HSTP HEND
  have HXB : Hid (xb = w.heap.size) := hxb
  clear hxb
  go_enter_defers Tryz.func88, Tryz.ntmps88
  go_wp2_with (first | (go_at_call 128; (with_reducible refine HL0.out.mono ?_); rintro e w2 ⟨rfl, ⟨u, x0⟩, x1, H2⟩))
  rw [← HXB.out]
  go_loopg [12] LL (fun kx i wr => ∃ p1, LL - p1 ≤ kx ∧ Hid (∃ s1 m1 K1, StL sb rb K v b p skip ((LL - p1 : Nat) : Int) most told s w s1 p1 m1 K1 wr))
  case atStart =>
    obtain ⟨K1, hh⟩ := H2.out
    exact ⟨p, by omega, s, m, K1, hh⟩
  case round =>
    obtain ⟨p1, hkx, HI⟩ := hrel
    clear H2 x0 x1 HL0 hW1 c0
    obtain ⟨s1, m1, K1, hL⟩ := HI.out
    obtain ⟨c7, hp1, hm3⟩ := HMD.out s1 p1 m1 K1 wr hL
    by_cases hmd : s1.md = 3
    · obtain ⟨k1, k2, k3⟩ := HEND.out s1 p1 m1 K1 wr hL hmd
      have HF : Hid (P (.returned (.int .i64 0)) (wr.setCell ⟨xb, 0, none⟩ (.int .i64 0))) := k3
      have hz : ((s1.md : Int) != 3) = false := by rw [hmd]; rfl
      clear k3 HI hL HSTP HEND HMD
      generalize s1.md = md at *
      have c1 : (wr.setCell ⟨xb, 0, none⟩ (.int .i64 0)).cell? ⟨xb, 0, none⟩ = some (.int .i64 0) := World.cell?_setCell_same _ _ _ k1
      go_wp2_with fail
      refine leaves_cons (f := 130) (args := #[.pointer (some ⟨xb, 0, none⟩)]) (by simp) (by simp [go_sem]) ?_
      refine (scatch_idle ⟨xb, 0, none⟩ _).mono ?_
      rintro e u' w5 ⟨rfl, rfl, rfl⟩
      simp [Leaves, settle, results, Tryz.results88, go_sem, c1]
      exact HF.out
    · have HC : Hid _ := HSTP.out s1 p1 m1 K1 wr hL hmd
      have hz : ((s1.md : Int) != 3) = true := by
        simp only [bne_iff_ne, ne_eq]; omega
      have HC2 : Hid (Calls Tryz.prog 131 #[.pointer (some ⟨sb, 0, none⟩)] wr fun e V => (∃ y : Nat, e = gv y ∧ V.cell? ⟨xb, 0, none⟩ = some (.int .i64 0) ∧ V.frozen? ⟨xb, 0, none⟩ = false ∧ Hid (P (.returned (.int .i64 y)) (V.setCell ⟨xb, 0, none⟩ (.int .i64 y)))) ∨ (∃ r, e = .returned r ∧ V.cell? ⟨sb, 0, none⟩ = some (.pointer (some ⟨rb, 0, none⟩)) ∧ Hid (∃ p2, p1 < p2 ∧ p2 ≤ LL ∧ Calls Tryz.prog 128 #[.pointer (some ⟨rb, 0, none⟩)] V fun e U => e = .returned (.int .i64 (LL - p2 : Nat)) ∧ (∃ u, U.cell? ⟨sb, 2, none⟩ = some u) ∧ U.frozen? ⟨sb, 2, none⟩ = false ∧ Hid (∃ s2 m2 K2, StL sb rb K v b p skip ((LL - p2 : Nat) : Int) most told s w s2 p2 m2 K2 (U.setCell ⟨sb, 2, none⟩ (.int .i64 ((LL - p2 : Nat) : Int))))))) := HC.out
      clear HC HI hL HSTP HEND HMD hmd
      generalize s1.md = md at *
      go_wp2_with fail
      go_at_call 131
      with_reducible refine HC2.out.mono ?_
      rintro e w3 (⟨y, rfl, k1, k2, HF⟩ | ⟨r, rfl, k1, HD⟩)
      · have c1 : (w3.setCell ⟨xb, 0, none⟩ (.int .i64 y)).cell? ⟨xb, 0, none⟩ = some (.int .i64 y) := World.cell?_setCell_same _ _ _ k1
        go_wp2_with fail
        refine leaves_cons (f := 130) (args := #[.pointer (some ⟨xb, 0, none⟩)]) (by simp) (by simp [go_sem]) ?_
        refine (scatch_fault xb y [] w3 _ k1 k2).mono ?_
        rintro e u' w5 ⟨rfl, rfl, rfl⟩
        simp [Leaves, settle, results, Tryz.results88, go_sem, c1]
        exact HF.out
      · obtain ⟨p2, d1, d2, d3⟩ := HD.out
        have HLF : Hid (Calls Tryz.prog 128 #[.pointer (some ⟨rb, 0, none⟩)] w3 fun e U => e = .returned (.int .i64 (LL - p2 : Nat)) ∧ (∃ u, U.cell? ⟨sb, 2, none⟩ = some u) ∧ U.frozen? ⟨sb, 2, none⟩ = false ∧ Hid (∃ s2 m2 K2, StL sb rb K v b p skip ((LL - p2 : Nat) : Int) most told s w s2 p2 m2 K2 (U.setCell ⟨sb, 2, none⟩ (.int .i64 ((LL - p2 : Nat) : Int))))) := d3
        clear d3 HD HC2
        go_wp2_with (first | (go_at_call 128; (with_reducible refine HLF.out.mono ?_); rintro e w4 ⟨rfl, ⟨u2, x0⟩, x1, H4⟩))
        go_roundg (LL - p2)
        all_goals (first | omega | exact ⟨p2, Nat.le_refl _, H4.out⟩)
end Go.Proofs.YtpjnbhflnbhnoaaGreatDoor

namespace Go.Proofs.YtpjnbhflnbhnoaaGreatDoor
open Go.RowKit
set_option linter.unusedVariables false
variable {sb rb : Nat} {K : Nat → Prop} {rv : Value} {v : Value} {b : List By} {p : Nat} {skip left : Int} {most told : Nat} {m : Mm} {s : Sx} {w : World}
/-- A reader is put into a stream. -/
theorem SmI.opened (h : SmI sb K (.pointer none) skip left most told m s w) (rb : Nat) : SmI sb K (.pointer (some ⟨rb, 0, none⟩)) skip left most told m s (w.setCell ⟨sb, 0, none⟩ (.pointer (some ⟨rb, 0, none⟩))) ∧ Fr (fun k => k = sb) w (w.setCell ⟨sb, 0, none⟩ (.pointer (some ⟨rb, 0, none⟩))) :=
  h.set 0 (.pointer (some ⟨rb, 0, none⟩)) (.pointer (some ⟨rb, 0, none⟩)) skip left m s rfl rfl rfl rfl rfl rfl rfl h.ls h.cs h.cf h.pu h.pd
/-- A stream is closed: its plain bytes are told. -/
theorem SmI.closed (h : SmI sb K (.pointer (some ⟨rb, 0, none⟩)) skip left most told m s w) (z : Int) :
    SmI sb K (.pointer none) z left most s.out.length { m with vp := .slice none 0 0, op := none } s (((w.setCell ⟨sb, 1, none⟩ (.int .i64 z)).setCell ⟨sb, 0, none⟩ (.pointer none)).setCell ⟨sb, 6, none⟩ (.slice none 0 0)) ∧ Fr (fun k => k = sb) w (((w.setCell ⟨sb, 1, none⟩ (.int .i64 z)).setCell ⟨sb, 0, none⟩ (.pointer none)).setCell ⟨sb, 6, none⟩ (.slice none 0 0)) := by
  have hks : ∀ k, K k → ¬ k = sb := fun k hk e => h.ks (by rw [← e]; exact hk)
  have fa : Fr (fun k => k = sb) w (((w.setCell ⟨sb, 1, none⟩ (.int .i64 z)).setCell ⟨sb, 0, none⟩ (.pointer none)).setCell ⟨sb, 6, none⟩ (.slice none 0 0)) := Fr.setCell (Fr.setCell (Fr.setCell (Fr.refl (fun k => k = sb) w) ⟨sb, 1, none⟩ _ (.inl rfl)) ⟨sb, 0, none⟩ _ (.inl rfl)) ⟨sb, 6, none⟩ _ (.inl rfl)
  refine ⟨⟨row_set (row_set (row_set h.row 1 _) 0 _) 6 _, h.ks, fun k hk => Nat.lt_of_lt_of_le (h.lt k hk) fa.size, h.win.kept fa (fun g hg e => (h.nw g hg).2 e), h.wi, ⟨rfl, by simp⟩, h.nw, fun g hg => (by cases hg), h.ls, fun e => ⟨(h.cs e).1.kept fa hks, (h.cs e).2.kept fa hks⟩, fun e => ⟨(h.cf e).1.kept fa hks, (h.cf e).2.kept fa hks⟩, h.pu, h.pd, h.ol, h.ml, Nat.le_refl _⟩, fa⟩
/-- What read answers. -/
def Rdd (sb : Nat) (K : Nat → Prop) (b : List By) (most told : Nat) (p : Nat) (s : Sx) (w : World) (e : Ending) (w' : World) : Prop :=
  ∃ s' p' m' K' y a c lf, run most s (bt b p) = (s', bt b p', y) ∧ e = .returned (.tuple #[.slice a (s'.out.length - told) c, .int .i64 ((8 * b.length - p' + 7) / 8 : Nat), .int .i64 (y : Nat)]) ∧ p' ≤ 8 * b.length ∧ Bd most p' s' ∧ told ≤ s'.out.length ∧
    SmI sb K' (.pointer none) ((8 * ((8 * b.length - p' + 7) / 8) - (8 * b.length - p') : Nat) : Int) lf most s'.out.length m' s' w' ∧ m'.op = none ∧ (∃ og, Og og (.slice a (s'.out.length - told) c) (s'.out.drop told) w' ∧ ∀ g, og = some g → ¬ K' g ∧ g ≠ sb ∧ m'.ow ≠ some g) ∧ (∀ k, K k → K' k) ∧ (∀ k, K' k → K k ∨ w.heap.size ≤ k) ∧ Fr (fun k => ¬ K k) w w'
set_option maxHeartbeats 16000000 in
set_option maxRecDepth 100000 in
theorem read_any' {sk : Nat} (h : SmI sb K (.pointer none) sk left most told m s w) (hop : m.op = none) (hs : Sl (fun k => ¬ K k) v b w) (hbl : b.length ≤ 200000000000000) (hsk : sk ≤ 7) (hsk2 : sk ≤ 8 * b.length) (hb : Bd most sk s) (hT : Tab w) (h0 : K 5) :
    Calls Tryz.prog 56 #[.pointer (some ⟨sb, 0, none⟩), v] w (Rdd sb K b most told sk s w) := by
  obtain ⟨P, hP⟩ : ∃ P : Ending → World → Prop, P = Rdd sb K b most told sk s w := ⟨_, rfl⟩
  rw [← hP]
  have hlt := h.lts
  have hrk : ¬ K w.heap.size := fun hk => by have := h.lt _ hk; omega
  obtain ⟨a, c, rfl, _, _⟩ := hs.form
  -- the reader
  have HNR : Hid (Calls Tryz.prog 86 #[.slice a b.length c] w fun e w1 => e = .returned (.pointer (some ⟨w.heap.size, 0, none⟩)) ∧ w1.cell? ⟨sb, 0, none⟩ = some (.pointer none) ∧ w1.frozen? ⟨sb, 0, none⟩ = false ∧ Hid (StI sb w.heap.size K (.slice a b.length c) b 0 sk left most told m s (w1.setCell ⟨sb, 0, none⟩ (.pointer (some ⟨w.heap.size, 0, none⟩))) ∧ Fr (fun k => ¬ K k) w (w1.setCell ⟨sb, 0, none⟩ (.pointer (some ⟨w.heap.size, 0, none⟩))))) := (newReader_any w (fun k => ¬ K k) _ b hs hrk hbl).mono (fun e w1 ⟨a1, a2, a3⟩ => by
    have h1 := h.keep a3 (fun h => h) (fun _ _ h => h) (fun _ _ h => h) (fun _ _ h => h)
    obtain ⟨q1, q2⟩ := h1.opened w.heap.size
    obtain ⟨c1, c2⟩ := sc0 h1.row
    refine ⟨a1, c1, c2, ⟨q1, a2.kept q2 (fun e => by omega) (fun g hg => by rw [hg]; exact h.ks), by omega, fun e => by have := h.win.lt _ e; omega, by rw [hop]; simp, by omega⟩, a3.any.trans (q2.mono (fun i hi => .inl (by rw [hi]; exact h.ks)))⟩)
  have HTK : Hid (∀ w2, StI sb w.heap.size K (.slice a b.length c) b 0 sk left most told m s w2 → Fr (fun k => ¬ K k) w w2 → ∀ V, Nw w2 V → Calls Tryz.prog 87 #[.pointer (some ⟨w.heap.size, 0, none⟩), .int .i64 sk] V fun e w3 => (∃ x y, e = .returned (.tuple #[.int .u32 x, .int .i64 y])) ∧ Hid (StI sb w.heap.size K (.slice a b.length c) b sk sk left most told m s w3 ∧ Fr (fun k => ¬ K k) w w3)) := fun w2 h2 f2 V hV => by
    have h3 := h2.nw hV
    have hF : takeF (8 * b.length) (le b) 0 sk = (le b / 2 ^ 0 % 2 ^ sk, 0, 0 + sk) := by rw [takeF, if_neg (by omega), if_neg (by omega), Int.toNat_natCast]
    have ht := btake_any h3.rr h3.bl sk
    rw [hF, Nat.zero_add] at ht
    refine ht.mono (fun e w3 ⟨a1, a2, a3⟩ => ⟨⟨_, _, a1⟩, h3.go (h3.lt.go a2 a3 hsk2) a3, (f2.trans hV.any).trans (h3.frr a3)⟩)
  have HSS : Hid (∀ w3, StI sb w.heap.size K (.slice a b.length c) b sk sk left most told m s w3 → Fr (fun k => ¬ K k) w w3 → Calls Tryz.prog 88 #[.pointer (some ⟨sb, 0, none⟩)] w3 (Stp sb w.heap.size K b sk sk most told s w3)) := fun w3 h3 f3 => steps_any h3 hb (hT.kept f3 (fun e => e h0)) h0
  have HP : Hid (P = Rdd sb K b most told sk s w) := hP
  clear hP h hs hT h0 hb hop
  obtain ⟨rb, hrb⟩ : ∃ rb, rb = w.heap.size := ⟨_, rfl⟩
  rw [← hrb] at HNR HTK HSS
  have HLT : Hid (sb < w.heap.size) := hlt
  clear hrb hrk hlt
  generalize hLL : b.length = L at *
  have HL : Hid (b.length = L) := hLL
  clear hLL
  go_enter Tryz.func56, Tryz.ntmps56
  go_upto_region 2 with (first | (go_at_call 86; (with_reducible refine HNR.out.mono ?_); rintro e w1 ⟨rfl, x0, x1, H1⟩))
  obtain ⟨w2, hw2⟩ : ∃ w2, w1.setCell ⟨sb, 0, none⟩ (.pointer (some ⟨rb, 0, none⟩)) = w2 := ⟨_, rfl⟩
  rw [hw2] at H1 ⊢
  clear hw2 x0 x1 HNR
  obtain ⟨h2, f2⟩ := H1.out
  have d0 := (sc0 h2.sm.row).1
  have d1 := (sc1 h2.sm.row).1
  have HT2 : Hid (∀ V, Nw w2 V → Calls Tryz.prog 87 #[.pointer (some ⟨rb, 0, none⟩), .int .i64 sk] V fun e w3 => (∃ x y, e = .returned (.tuple #[.int .u32 x, .int .i64 y])) ∧ Hid (StI sb rb K (.slice a L c) b sk sk left most told m s w3 ∧ Fr (fun k => ¬ K k) w w3)) := HTK.out w2 h2 f2
  have hNN : Nw w2 w2 := Fr.refl _ _
  clear h2 f2 H1 HTK
  go_cut [10] (fun x wx => Hid (StI sb rb K (.slice a L c) b sk sk left most told m s wx ∧ Fr (fun k => ¬ K k) w wx))
  case first =>
    clear HSS HP
    go_region_with (first
      | (go_at_call 87; with_reducible refine (HT2.out _ ?_).mono ?_; (first | assumption | exact (Fr.refl _ _).drew | exact Fr.refl _ _ | exact (Fr.refl _ _).drewN _); rintro e w3 ⟨⟨x, y, rfl⟩, H3⟩))
    all_goals go_wp2_with fail
    all_goals go_meet
    all_goals exact H3
  case rest =>
  have HS2 : Hid (Calls Tryz.prog 88 #[.pointer (some ⟨sb, 0, none⟩)] wc (Stp sb rb K b sk sk most told s wc)) := HSS.out wc hcut.out.1 hcut.out.2
  clear HSS HT2 d0 d1 hNN
  go_wp2_with fail
  go_at_call 88
  with_reducible refine HS2.out.mono ?_
  unfold Stp
  rintro e w4 ⟨s', p', m', K', y, b1, rfl, b3, b4, b5, b6, b7, b8⟩
  rw [HL.out] at b3 b4
  obtain ⟨Lf, hLf⟩ : ∃ Lf, Lf = 8 * L - p' := ⟨_, rfl⟩
  obtain ⟨q, hq⟩ : ∃ q, q = (Lf + 7) / 8 := ⟨_, rfl⟩
  obtain ⟨sk', hsk'⟩ : ∃ sk', sk' = 8 * q - Lf := ⟨_, rfl⟩
  rw [← hLf] at b3
  obtain ⟨z1, z2⟩ := b3.closed (sk' : Int)
  obtain ⟨pa, pc, hvp, _, _⟩ := b3.pl.form
  have hdl : (s'.out.drop told).length = s'.out.length - told := List.length_drop
  rw [hdl] at hvp
  obtain ⟨n, hn⟩ : ∃ n, n = s'.out.length - told := ⟨_, rfl⟩
  have HF : Hid (∀ z : Int, z = (q : Int) → P (.returned (.tuple #[.slice pa n pc, .int .i64 z, .int .i64 y])) (((w4.setCell ⟨sb, 1, none⟩ (.int .i64 sk')).setCell ⟨sb, 0, none⟩ (.pointer none)).setCell ⟨sb, 6, none⟩ (.slice none 0 0))) := by
    intro z hz
    subst hz
    rw [HP.out, hn]
    have hcf := hcut.out.2
    refine ⟨s', p', { m' with vp := .slice none 0 0, op := none }, K', y, pa, pc, Lf, b1, ?_, by rw [HL.out]; exact b4, b5, b3.td, ?_, rfl, ⟨m'.op, ?_, fun g hg => b3.np g hg⟩, b6, fun k hk => ?_, (hcf.trans b8).then z2 (fun i hi => .inl (by rw [hi]; exact fun hk => b3.ks (b6 _ hk)))⟩
    · rw [HL.out, ← hLf, ← hq]
    · rw [HL.out, ← hLf, ← hq, ← hsk']
      exact z1
    · rw [← hvp]
      exact b3.pl.kept z2 (fun g hg e => (b3.np g hg).2.1 e)
    · rcases b7 k hk with e | e
      · exact .inl e
      · exact .inr (Nat.le_trans hcf.size e)
  obtain ⟨c20, c21⟩ := sc2 b3.row
  obtain ⟨c10, c11⟩ := sc1 b3.row
  have r1 := row_set b3.row 1 (.int .i64 sk')
  have e6 : (w4.setCell ⟨sb, 1, none⟩ (.int .i64 sk')).cell? ⟨sb, 6, none⟩ = some (.slice pa n pc) := by
    rw [hn, ← hvp]; exact (row_cell r1 6 _ rfl).1
  have e0 : (w4.setCell ⟨sb, 1, none⟩ (.int .i64 sk')).cell? ⟨sb, 0, none⟩ = some (.pointer (some ⟨rb, 0, none⟩)) := (row_cell r1 0 _ rfl).1
  have e0f : (w4.setCell ⟨sb, 1, none⟩ (.int .i64 sk')).frozen? ⟨sb, 0, none⟩ = false := (row_cell r1 0 (.pointer (some ⟨rb, 0, none⟩)) rfl).2
  have r2 := row_set r1 0 (.pointer none)
  have e6b : ((w4.setCell ⟨sb, 1, none⟩ (.int .i64 sk')).setCell ⟨sb, 0, none⟩ (.pointer none)).cell? ⟨sb, 6, none⟩ = some m'.vp := (row_cell r2 6 _ rfl).1
  have e6f : ((w4.setCell ⟨sb, 1, none⟩ (.int .i64 sk')).setCell ⟨sb, 0, none⟩ (.pointer none)).frozen? ⟨sb, 6, none⟩ = false := (row_cell r2 6 m'.vp rfl).2
  have y1 : ((Lf : Int) + 7) / 8 = (q : Int) := by omega
  have y2 : (8 : Int) * (q : Int) - (Lf : Int) = (sk' : Int) := by omega
  have y3 : Lf ≤ 1600000000000000 := by
    have := HL.out
    omega
  have y4 : q ≤ 200000000000000 := by omega
  have y5 : sk' ≤ 7 := by omega
  clear b1 b3 b4 b5 b6 b7 b8 z1 z2 hvp hdl hLf hq hsk' hn r1 r2 HP hcut HS2
  go_wp2_with fail
  exact HF.out _ y1
end Go.Proofs.YtpjnbhflnbhnoaaGreatDoor

namespace Go.Proofs.YtpjnbhflnbhnoaaGreatDoor
open Go.RowKit
set_option linter.unusedVariables false
/-- A stream's beginning. -/
def ini : Sx := ⟨0, false, 0, [], [], []⟩
def mini : Mm := ⟨.slice none 0 0, .slice none 0 0, .pointer none, .pointer none, false, false, none, none, []⟩
/-- Decode, as the document has it. -/
noncomputable def idec (b : List By) (most : Int) : List By × Nat × Nat :=
  if most < 0 ∨ 4194304 < most then ([], 0, 1) else
    if (run most.toNat ini (bt b 0)).2.2 = 0 then ((run most.toNat ini (bt b 0)).1.out, b.length - ((run most.toNat ini (bt b 0)).2.1.n + 7) / 8, 0) else ([], 0, (run most.toNat ini (bt b 0)).2.2)
/-- Decode's answer. -/
def Dcd (r : List By × Nat × Nat) (w : World) (e : Ending) (w' : World) : Prop :=
  ∃ a c, e = .returned (.tuple #[.slice a r.1.length c, .int .i64 r.2.1, .int .i64 r.2.2]) ∧ Mine (fun k => k < w.heap.size) (.slice a r.1.length c) r.1 w' ∧ Nw w w'
theorem mayBe_any (most : Int) (w : World) : Calls Tryz.prog 55 #[.int .i64 most] w fun e w' => e = .returned (.bool (decide (0 ≤ most ∧ most ≤ 4194304))) ∧ w = w' := by
  obtain ⟨P, hP⟩ : ∃ P : Ending → World → Prop, P = fun e w' => e = .returned (.bool (decide (0 ≤ most ∧ most ≤ 4194304))) ∧ w = w' := ⟨_, rfl⟩
  rw [← hP]
  by_cases h1 : 0 ≤ most
  · by_cases h2 : most ≤ 4194304
    · have HF : Hid (P (.returned (.bool true)) w) := by
        show P _ _
        rw [hP, decide_eq_true ⟨h1, h2⟩]; exact ⟨rfl, rfl⟩
      clear hP
      go_enter Tryz.func55, Tryz.ntmps55
      go_wp2
      exact HF.out
    · have HF : Hid (P (.returned (.bool false)) w) := by
        show P _ _
        rw [hP, decide_eq_false (by omega)]; exact ⟨rfl, rfl⟩
      clear hP
      go_enter Tryz.func55, Tryz.ntmps55
      go_wp2
      exact HF.out
  · have HF : Hid (P (.returned (.bool false)) w) := by
      show P _ _
      rw [hP, decide_eq_false (by omega)]; exact ⟨rfl, rfl⟩
    clear hP
    go_enter Tryz.func55, Tryz.ntmps55
    go_wp2
    exact HF.out
/-- A new stream. -/
theorem smi_new (w : World) (K : Nat → Prop) (most : Nat) (hm : most ≤ 4194304) (hK : ∀ k, K k → k < w.heap.size) : SmI w.heap.size K (.pointer none) 0 0 most 0 mini ini (w.alloc (.cells (srow (.pointer none) 0 0 most mini ini) 93)) := by
  have hN : Nw w (w.alloc (.cells (srow (.pointer none) 0 0 most mini ini) 93)) := (Fr.refl _ _).alloc _
  refine ⟨new_heap _ _, fun hk => by have := hK _ hk; omega, fun k hk => Nat.lt_of_lt_of_le (hK k hk) hN.size, ⟨rfl, rfl⟩, ⟨rfl, fun i hi => by simp [ini] at hi⟩, ⟨rfl, rfl⟩, fun g hg => (by cases hg), fun g hg => (by cases hg), fun e => absurd rfl e, fun e => (by cases e), fun e => (by cases e), ⟨_, rfl⟩, ⟨_, rfl⟩, by simp [ini], hm, by simp⟩
theorem bd_ini (most p : Nat) : Bd most p ini := ⟨by simp [ini], fun e => by simp [ini] at e⟩
set_option maxHeartbeats 16000000 in
set_option maxRecDepth 100000 in
theorem idecode_any (w : World) (vb : Value) (b : List By) (most : Int) (hb : Old w vb b) (hbl : b.length ≤ 200000000000000) (hT : Tab w) :
    Calls Tryz.prog 40 #[vb, .int .i64 most] w (Dcd (idec b most) w) := by
  obtain ⟨P, hP⟩ : ∃ P : Ending → World → Prop, P = Dcd (idec b most) w := ⟨_, rfl⟩
  rw [← hP]
  obtain ⟨a, c, rfl, hc, hc2⟩ := hb.form
  have HMB : Hid (Calls Tryz.prog 55 #[.int .i64 most] w fun e w' => e = .returned (.bool (decide (0 ≤ most ∧ most ≤ 4194304))) ∧ w = w') := mayBe_any most w
  by_cases hm : most < 0 ∨ 4194304 < most
  · have HF : Hid (P (.returned (.tuple #[.slice none 0 0, .int .i64 0, .int .i64 1])) w) := by
      show P _ _
      rw [hP, idec, if_pos hm]
      exact ⟨none, 0, rfl, .inl ⟨rfl, rfl⟩, Fr.refl _ _⟩
    rw [decide_eq_false (by omega)] at HMB
    clear hP hb
    generalize b.length = L at *
    go_enter Tryz.func40, Tryz.ntmps40
    go_wp2_with (first | (go_at_call 55; (with_reducible refine HMB.out.mono ?_); rintro e w1 ⟨rfl, rfl⟩))
    exact HF.out
  · obtain ⟨mo, rfl⟩ : ∃ mo : Nat, most = mo := ⟨most.toNat, by omega⟩
    rw [decide_eq_true (by omega)] at HMB
    obtain ⟨W1, hW1⟩ : ∃ W1, w.alloc (.cells (srow (.pointer none) 0 0 mo mini ini) 93) = W1 := ⟨_, rfl⟩
    have hN1 : Nw w W1 := by rw [← hW1]; exact (Fr.refl _ _).alloc _
    have hS1 := smi_new w (fun k => k < w.heap.size) mo (by omega) (fun _ h => h)
    rw [hW1] at hS1
    have h00 : 5 < w.heap.size := World.block_lt_of_cell? _ _ (hT 0 (by decide))
    have hRD := read_any' (sk := 0) hS1 rfl ((hb.nw hN1).mono (fun g hg => by omega)) hbl (by decide) (by omega) (bd_ini mo 0) (hT.kept hN1 (fun h => h)) h00
    have HRD : Hid (Calls Tryz.prog 56 #[.pointer (some ⟨w.heap.size, 0, none⟩), .slice a b.length c] W1 fun e w2 => ∃ pa n pc q y, e = .returned (.tuple #[.slice pa n pc, .int .i64 (q : Nat), .int .i64 (y : Nat)]) ∧ q ≤ b.length ∧ ((y ≠ 0 ∧ Hid (P (.returned (.tuple #[.slice none 0 0, .int .i64 0, .int .i64 y])) w2)) ∨ (y = 0 ∧ Hid (P (.returned (.tuple #[.slice pa n pc, .int .i64 (b.length - q : Nat), .int .i64 0])) w2)))) := hRD.mono (by
      rintro e w2 ⟨s', p', m', K', y, pa, pc, lf, r1, r2, r3, r4, r5, r6, r7, ⟨og, r8, r9⟩, r10, r11, r12⟩
      refine ⟨pa, _, pc, _, y, r2, by omega, ?_⟩
      have hNw : Nw w w2 := Fr.then hN1 r12 (fun i hi => .inr (by omega))
      have hd : idec b mo = if y = 0 then (s'.out, b.length - ((bt b p').n + 7) / 8, 0) else ([], 0, y) := by
        rw [idec, if_neg (by omega), Int.toNat_natCast, r1]
      by_cases hy : y = 0
      · refine .inr ⟨hy, ?_⟩
        show P _ _
        rw [hP, hd, if_pos hy]
        rw [Nat.sub_zero] at r8 ⊢
        rw [List.drop_zero] at r8
        refine ⟨pa, pc, by rw [bt_n]; rfl, ?_, hNw⟩
        cases og with
        | none => exact .inl r8
        | some g => exact .inr ⟨g, fun hg => (r9 g rfl).1 (r10 g hg), r8⟩
      · refine .inl ⟨hy, ?_⟩
        show P _ _
        rw [hP, hd, if_neg hy]
        exact ⟨none, 0, rfl, .inl ⟨rfl, rfl⟩, hNw⟩)
    clear hP hb hRD hS1 hN1 hT
    have hW1' : w.alloc (.cells #[.pointer none, .int .i64 0, .int .i64 0, .int .i64 mo, .int .i64 0, .slice none 0 0, .slice none 0 0, .int .i64 0, .bool false, .int .i64 0, .pointer none, .pointer none, .bool false] 93) = W1 := hW1
    clear hW1
    generalize b.length = L at *
    go_enter Tryz.func40, Tryz.ntmps40
    go_wp2_with (first | (go_at_call 55; (with_reducible refine HMB.out.mono ?_); rintro e w1 ⟨rfl, rfl⟩))
    go_at_call 56
    with_reducible refine HRD.out.mono ?_
    rintro e w2 ⟨pa, n, pc, q, y, rfl, hq, (⟨hy, HF⟩ | ⟨hy, HF⟩)⟩
    · have hz : ((y : Int) != 0) = true := by simp only [bne_iff_ne, ne_eq]; omega
      go_wp2_with fail
      exact HF.out
    · subst hy
      have hs : (L : Int) - (q : Int) = ((L - q : Nat) : Int) := by omega
      go_wp2_with fail
      exact HF.out
end Go.Proofs.YtpjnbhflnbhnoaaGreatDoor

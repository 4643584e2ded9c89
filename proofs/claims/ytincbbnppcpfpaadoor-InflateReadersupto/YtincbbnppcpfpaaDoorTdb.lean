import Derived.Test.YtincbbnppcpfpaaDoorTda
import Derived.Test.YtincbbnppcpfpaaDoorTbj
import Derived.Test.YtincbbnppcpfpaaDoorTbg
import Derived.Deep.RegionHeld3
import Derived.Deep.CutBlock
import Derived.Deep.RegionLaw
namespace Go.Proofs.YtincbbnppcpfpaaDoor
open Go.RowKit
set_option linter.unusedVariables false
variable {db most told er : Nat} {x z : List By} {og : Option Nat} {va : Value} {w : World}
/-- A fresh variable of three cells, written cell by cell. -/
theorem fresh3 (w : World) (v0 v1 v2 u0 u1 u2 : Value) (T : Nat) :
    (w.alloc (.cells #[u0, u1, u2] T)).cell? ⟨w.heap.size, 0, none⟩ = some u0 ∧ (w.alloc (.cells #[u0, u1, u2] T)).frozen? ⟨w.heap.size, 0, none⟩ = false ∧
    ((w.alloc (.cells #[u0, u1, u2] T)).setCell ⟨w.heap.size, 0, none⟩ v0).cell? ⟨w.heap.size, 1, none⟩ = some u1 ∧ ((w.alloc (.cells #[u0, u1, u2] T)).setCell ⟨w.heap.size, 0, none⟩ v0).frozen? ⟨w.heap.size, 1, none⟩ = false ∧
    (((w.alloc (.cells #[u0, u1, u2] T)).setCell ⟨w.heap.size, 0, none⟩ v0).setCell ⟨w.heap.size, 1, none⟩ v1).cell? ⟨w.heap.size, 2, none⟩ = some u2 ∧ (((w.alloc (.cells #[u0, u1, u2] T)).setCell ⟨w.heap.size, 0, none⟩ v0).setCell ⟨w.heap.size, 1, none⟩ v1).frozen? ⟨w.heap.size, 2, none⟩ = false := by
  have r0 := new_heap w (.cells #[u0, u1, u2] T)
  have r1 : ((w.alloc (.cells #[u0, u1, u2] T)).setCell ⟨w.heap.size, 0, none⟩ v0).heap[w.heap.size]? = some (.cells #[v0, u1, u2] T) := row_set r0 0 v0
  have r2 : (((w.alloc (.cells #[u0, u1, u2] T)).setCell ⟨w.heap.size, 0, none⟩ v0).setCell ⟨w.heap.size, 1, none⟩ v1).heap[w.heap.size]? = some (.cells #[v0, v1, u2] T) := row_set r1 1 v1
  exact ⟨(row_cell r0 0 _ rfl).1, (row_cell r0 0 u0 rfl).2, (row_cell r1 1 _ rfl).1, (row_cell r1 1 u1 rfl).2, (row_cell r2 2 _ rfl).1, (row_cell r2 2 u2 rfl).2⟩
theorem fresh3' {w V0 : World} {u0 u1 u2 : Value} {T : Nat} (hN : Nw (V0.alloc (.cells #[u0, u1, u2] T)) w) (v0 v1 : Value) :
    w.cell? ⟨V0.heap.size, 0, none⟩ = some u0 ∧ w.frozen? ⟨V0.heap.size, 0, none⟩ = false ∧
    (w.setCell ⟨V0.heap.size, 0, none⟩ v0).cell? ⟨V0.heap.size, 1, none⟩ = some u1 ∧ (w.setCell ⟨V0.heap.size, 0, none⟩ v0).frozen? ⟨V0.heap.size, 1, none⟩ = false ∧
    ((w.setCell ⟨V0.heap.size, 0, none⟩ v0).setCell ⟨V0.heap.size, 1, none⟩ v1).cell? ⟨V0.heap.size, 2, none⟩ = some u2 ∧ ((w.setCell ⟨V0.heap.size, 0, none⟩ v0).setCell ⟨V0.heap.size, 1, none⟩ v1).frozen? ⟨V0.heap.size, 2, none⟩ = false := by
  have r0 := hN.heap (new_heap V0 (.cells #[u0, u1, u2] T))
  have r1 : (w.setCell ⟨V0.heap.size, 0, none⟩ v0).heap[V0.heap.size]? = some (.cells #[v0, u1, u2] T) := row_set r0 0 v0
  have r2 : ((w.setCell ⟨V0.heap.size, 0, none⟩ v0).setCell ⟨V0.heap.size, 1, none⟩ v1).heap[V0.heap.size]? = some (.cells #[v0, v1, u2] T) := row_set r1 1 v1
  exact ⟨(row_cell r0 0 _ rfl).1, (row_cell r0 0 u0 rfl).2, (row_cell r1 1 _ rfl).1, (row_cell r1 1 u1 rfl).2, (row_cell r2 2 _ rfl).1, (row_cell r2 2 u2 rfl).2⟩
theorem fresh3d {w V0 : World} {u0 u1 u2 : Value} {T : Nat} (hN : Nw (V0.alloc (.cells #[u0, u1, u2] T)).drew w) (v0 v1 : Value) :
    w.cell? ⟨V0.heap.size, 0, none⟩ = some u0 ∧ w.frozen? ⟨V0.heap.size, 0, none⟩ = false ∧
    (w.setCell ⟨V0.heap.size, 0, none⟩ v0).cell? ⟨V0.heap.size, 1, none⟩ = some u1 ∧ (w.setCell ⟨V0.heap.size, 0, none⟩ v0).frozen? ⟨V0.heap.size, 1, none⟩ = false ∧
    ((w.setCell ⟨V0.heap.size, 0, none⟩ v0).setCell ⟨V0.heap.size, 1, none⟩ v1).cell? ⟨V0.heap.size, 2, none⟩ = some u2 ∧ ((w.setCell ⟨V0.heap.size, 0, none⟩ v0).setCell ⟨V0.heap.size, 1, none⟩ v1).frozen? ⟨V0.heap.size, 2, none⟩ = false :=
  fresh3' (V0 := V0) (((Fr.refl _ _).drew).trans hN) v0 v1
theorem set3_keep {w : World} {tb d i : Nat} {u : Value} (h : w.cell? ⟨d, i, none⟩ = some u) (hn : tb ≠ d) (v0 v1 v2 : Value) : (((w.setCell ⟨tb, 0, none⟩ v0).setCell ⟨tb, 1, none⟩ v1).setCell ⟨tb, 2, none⟩ v2).cell? ⟨d, i, none⟩ = some u :=
  (three_fr w tb v0 v1 v2).cellv h (fun e => hn e.symm)
theorem step_app2 {ops : Array Oper} {o : Oper} {a : Act} {w : World} {K : Act → World → Prop} {Q : Exit → Act → World → Prop} {E : Prop} (t : TypeId) (hg : o.guard = none) (s x : Operand) (hop : o.op = Op.call { callee := Callee.builtin Builtin.append, args := #[s, x], argTypes := #[t, t] })
    (vs vx : Value) (hs : a.eval s = vs) (hx : a.eval x = vx) (v' : Value) (W : World) (hrun : ∀ ty, (Builtin.append_ #[t, t] ty #[vs, vx]).run Tryd.prog w = .ok v' W) (hK : K (a.put o.dst v') W) :
    if Region.wanted o (yielded ops a.tmps) = true then Oper.wp Tryd.prog o a w K Q else E := by
  have hw : Region.wanted o (yielded ops a.tmps) = true := by simp [Region.wanted, hg]
  rw [if_pos hw]
  unfold Oper.wp
  simp [execOp, hop, resolve, invoke, builtin, hs, hx, hrun, Result.andThen]
  exact hK
/-- How the variable s stands behind Read. -/
def SvI (W4 : World) (most : Nat) (X : List By) (tb : Nat) (a : Option Addr) (n c p er : Nat) (wx : World) : Prop := wx.heap[tb]? = some (.cells #[.slice a n c, .int .i64 (p : Nat), .int .i64 (er : Nat)] 64) ∧ W4.heap.size ≤ tb ∧ Nw W4 wx ∧ er = (rf most X).2.2 ∧ n = (rf most X).1.out.length ∧ ∃ og, Og og (.slice a n c) (rf most X).1.out wx ∧ ∀ g, og = some g → W4.heap.size ≤ g ∧ g ≠ tb
theorem svA {W4 V w5 : World} {X : List By} {a : Option Addr} {n c p er : Nat} (hV : Nw W4 V) (K : Nw V w5 ∧ er = (rf most X).2.2 ∧ n = (rf most X).1.out.length ∧ ∃ og, Og og (.slice a n c) (rf most X).1.out w5 ∧ ∀ g, og = some g → V.heap.size ≤ g) : SvI W4 most X w5.heap.size a n c p er (w5.alloc (.cells #[.slice a n c, .int .i64 (p : Nat), .int .i64 (er : Nat)] 64)) := by
  obtain ⟨k1, k2, k3, og, k4, k5⟩ := K
  have hN : Nw w5 (w5.alloc (.cells #[.slice a n c, .int .i64 (p : Nat), .int .i64 (er : Nat)] 64)) := (Fr.refl _ _).alloc _
  have s1 := hV.size
  have s2 := k1.size
  refine ⟨new_heap _ _, by omega, (hV.trans k1).trans hN, k2, k3, og, k4.nw hN, fun g hg => ⟨by have := k5 g hg; omega, fun e => ?_⟩⟩
  have := k4.lt g hg
  omega
theorem svB {W4 w5 : World} {X : List By} {a : Option Addr} {n c p er : Nat} {u0 u1 u2 : Value} (K : Nw (W4.drew.alloc (.cells #[u0, u1, u2] 64)) w5 ∧ er = (rf most X).2.2 ∧ n = (rf most X).1.out.length ∧ ∃ og, Og og (.slice a n c) (rf most X).1.out w5 ∧ ∀ g, og = some g → (W4.drew.alloc (.cells #[u0, u1, u2] 64)).heap.size ≤ g) : SvI W4 most X W4.heap.size a n c p er (((w5.setCell ⟨W4.heap.size, 0, none⟩ (.slice a n c)).setCell ⟨W4.heap.size, 1, none⟩ (.int .i64 (p : Nat))).setCell ⟨W4.heap.size, 2, none⟩ (.int .i64 (er : Nat))) := by
  obtain ⟨k1, k2, k3, og, k4, k5⟩ := K
  have hr : w5.heap[W4.heap.size]? = some (.cells #[u0, u1, u2] 64) := k1.heap (new_heap W4.drew (.cells #[u0, u1, u2] 64))
  have hN : Nw W4 w5 := ((Fr.refl _ _).drew.alloc _).trans k1
  have hsz : (W4.drew.alloc (.cells #[u0, u1, u2] 64)).heap.size = W4.heap.size + 1 := by simp
  rw [hsz] at k5
  have f3 := three_fr w5 W4.heap.size (.slice a n c) (.int .i64 (p : Nat)) (.int .i64 (er : Nat))
  refine ⟨three_set _ _ _ hr, Nat.le_refl _, Fr.then hN f3 (fun i hi => .inr (by omega)), k2, k3, og, k4.kept f3 (fun g hg e => by have := k5 g hg; omega), fun g hg => ?_⟩
  have := k5 g hg
  exact ⟨by omega, by omega⟩
/-- What the document's Feed answers while no error came. -/
def MFd (db : Nat) (most : Nat) (x z : List By) (w : World) (e : Ending) (w' : World) : Prop :=
  ∃ a c ogo og' va' told', e = .returned (.tuple #[.slice a (toldOf most x z).length c, .int .i64 (whyOf most (x ++ z) : Nat)]) ∧ Og ogo (.slice a (toldOf most x z).length c) (toldOf most x z) w' ∧ (∀ g, ogo = some g → w.heap.size ≤ g) ∧ DrI db og' va' most told' (whyOf most (x ++ z)) (x ++ z) w' ∧ (∀ g, og' = some g → w.heap.size ≤ g ∧ ogo ≠ some g) ∧ Fr (fun k => k = db) w w'
set_option maxHeartbeats 16000000 in
set_option maxRecDepth 100000 in
theorem mfeed_ok (h : DrI db og va most told 0 x w) (vz : Value) (hz : Old w vz z) (hxz : x.length + z.length ≤ 1099511627776) : Calls Tryd.prog 30 #[.pointer (some ⟨db, 0, none⟩), vz] w (MFd db most x z w) := by
  obtain ⟨P, hP⟩ : ∃ P : Ending → World → Prop, P = MFd db most x z w := ⟨_, rfl⟩
  rw [← hP]
  obtain ⟨xa, xc, hva, _, _⟩ := h.ho.form
  subst hva
  obtain ⟨za, zc, rfl, _, _⟩ := hz.form
  obtain ⟨g1, c1, W1, hap1, hO1, hg1, hN1⟩ := copyB w (.slice xa x.length xc) x (og_old h.ho) (by omega)
  obtain ⟨v3, g3, W3, hap3, hO3, hF3, hg3⟩ := app_any W1 g1 _ x hO1 (.slice za z.length zc) z ((Sl.later hz hN1).mono (fun _ h => h.elim)) (by omega)
  have hO3' := hO3
  obtain ⟨ys, rfl, _⟩ := hO3'
  have hs1 := hN1.size
  have hs3 := hF3.size
  have hg3' : w.heap.size ≤ g3 := by rcases hg3 with e | e <;> omega
  have hdlt : db < w.heap.size := (Array.getElem?_eq_some_iff.1 h.row).1
  have row1 := hN1.heap h.row
  have row3 := (hF3.block db (by omega) (by omega)).trans row1
  obtain ⟨v4, hv4⟩ : ∃ v4, v4 = Value.slice (some ⟨g3, 0, none⟩) (x ++ z).length ys.length := ⟨_, rfl⟩
  obtain ⟨W4, hW4⟩ : ∃ W4, W3.setCell ⟨db, 2, none⟩ (.slice (some ⟨g3, 0, none⟩) (x ++ z).length ys.length) = W4 := ⟨_, rfl⟩
  have row4 : W4.heap[db]? = some (.cells #[.int .i64 most, .int .i64 told, .slice (some ⟨g3, 0, none⟩) (x ++ z).length ys.length, .int .i64 0] 67) := by rw [← hW4]; exact row_set row3 2 _
  have f4 : Fr (fun k => k = db) W3 W4 := by rw [← hW4]; exact (Fr.refl _ _).setCell _ _ (.inl rfl)
  have hO4 : Ow g3 (.slice (some ⟨g3, 0, none⟩) (x ++ z).length ys.length) (x ++ z) W4 := hO3.kept f4 (by omega)
  have f04 : Fr (fun k => k = db) w W4 := Fr.then (Fr.then (hN1.any) hF3 (fun i hi => .inr (by omega))) f4 (fun i hi => .inl hi)
  have hs4 := f04.size
  have HR : Hid (∀ V, Nw W4 V → Calls Tryd.prog 25 #[.slice (some ⟨g3, 0, none⟩) (x ++ z).length ys.length, .int .i64 most] V fun e w5 => ∃ a n c p er, e = .returned (.agg #[.slice a n c, .int .i64 (p : Nat), .int .i64 (er : Nat)]) ∧ w5.cell? ⟨db, 0, none⟩ = some (.int .i64 most) ∧ w5.cell? ⟨db, 2, none⟩ = some (.slice (some ⟨g3, 0, none⟩) (x ++ z).length ys.length) ∧ Hid (Nw V w5 ∧ er = (rf most (x ++ z)).2.2 ∧ n = (rf most (x ++ z)).1.out.length ∧ ∃ og, Og og (.slice a n c) (rf most (x ++ z)).1.out w5 ∧ ∀ g, og = some g → V.heap.size ≤ g)) := fun V hV => by
    refine (gread_any V _ (x ++ z) most ((hO4.nw hV).old.mono (fun _ h => h.elim)) (by rw [List.length_append]; omega) h.hm).mono ?_
    rintro e w5 ⟨vo, og5, p, er5, rfl, H5⟩
    obtain ⟨q1, q2, q3, q4, _⟩ := H5.out
    obtain ⟨a, c, rfl, _⟩ := q2.form
    have r5 := q4.heap (hV.heap row4)
    exact ⟨a, _, c, p, er5, rfl, (row_cell r5 0 _ rfl).1, (row_cell r5 2 _ rfl).1, q4, q1, rfl, og5, q2, q3⟩
  -- the end, from the world on in which told and the error are set
  have HE : Hid (∀ V V0 a n c (ogr : Option Nat), Nw W4 V0 → Og ogr (.slice a n c) (rf most (x ++ z)).1.out V0 → n = (rf most (x ++ z)).1.out.length → (∀ g, ogr = some g → g ≠ db) → ∀ A c', Sl (fun k => k = db ∨ V0.heap.size ≤ k) (.slice A (n - told) c') ((rf most (x ++ z)).1.out.drop told) V0 → Fr (fun k => k = db) V0 V → ∀ er : Nat, er = whyOf most (x ++ z) → V.heap[db]? = some (.cells #[.int .i64 most, .int .i64 n, .slice (some ⟨g3, 0, none⟩) (x ++ z).length ys.length, .int .i64 er] 67) → ∃ g9 c9 W9, Hid (∀ ty, (Builtin.append_ #[22, 22] ty #[.slice (some ⟨V.heap.size, 0, none⟩) 0 0, .slice A (n - told) c']).run Tryd.prog (V.alloc (.cells #[] 5)) = .ok (.slice (some ⟨g9, 0, none⟩) (n - told) c9) W9) ∧ W9.cell? ⟨db, 3, none⟩ = some (.int .i64 er) ∧ Hid (∀ U, Nw W9 U → P (.returned (.tuple #[.slice (some ⟨g9, 0, none⟩) (n - told) c9, .int .i64 er])) U)) := fun V V0 a n c ogr hV0 hOr hn hne A c' hsl fV er her hrow => by
    have hlt : (toldOf most x z).length = n - told := by unfold toldOf; rw [List.length_drop, hn, h.tl]
    have hto : toldOf most x z = (rf most (x ++ z)).1.out.drop told := by unfold toldOf; rw [h.tl]
    rw [← hto] at hsl
    have hsV := hV0.size
    have hsV2 := fV.size
    have hold : Old V (.slice A (n - told) c') (toldOf most x z) := by
      exact (hsl.kept fV (fun k hk => .inl hk)).mono (fun k hk => .inr (by omega))
    obtain ⟨g9, c9, W9, hap9, hO9, hg9, hN9⟩ := copyB V _ _ hold (by have := rf_out most (x ++ z); have := h.hm; omega)
    rw [hlt] at hap9 hO9
    refine ⟨g9, c9, W9, hap9, (row_cell (hN9.heap hrow) 3 _ rfl).1, fun U hU => ?_⟩
    rw [hP]
    have f0V : Fr (fun k => k = db) w V := (f04.trans hV0.any).trans fV
    have hs0V := f0V.size
    refine ⟨_, c9, some g9, some g3, .slice (some ⟨g3, 0, none⟩) (x ++ z).length ys.length, n, by rw [hlt, her], by rw [hlt]; exact hO9.nw hU, fun g hg => ?_, ⟨?_, ?_, ?_, h.hm, by rw [List.length_append]; omega, hn, rfl⟩, fun g hg => ?_, f0V.trans (hN9.trans hU).any⟩
    · injection hg with hg; subst hg; omega
    · rw [← her]; exact hU.heap (hN9.heap hrow)
    · exact ((hO4.nw hV0).kept fV (by omega)).nw (hN9.trans hU)
    · intro e; injection e with e; omega
    · injection hg with hg
      subst hg
      have := hO4.lt
      exact ⟨hg3', fun e => by injection e with e; omega⟩
  have htn : told ≤ (rf most (x ++ z)).1.out.length := by
    rw [h.tl, ← told_app (z := z), List.length_append]; omega
  have HS : Hid (∀ V0 a n c (ogr : Option Nat), Og ogr (.slice a n c) (rf most (x ++ z)).1.out V0 → n = (rf most (x ++ z)).1.out.length → (∀ g, ogr = some g → g ≠ db) → ∀ A c', ((∃ g, a = some ⟨g, 0, none⟩ ∧ A = some ⟨g, told, none⟩ ∧ c' = c - told) ∨ (c = told ∧ c' = 0)) → Sl (fun k => k = db ∨ V0.heap.size ≤ k) (.slice A (n - told) c') ((rf most (x ++ z)).1.out.drop told) V0) := fun V0 a n c ogr hOr hn hne A c' hA => by
    cases ogr with
    | none =>
      obtain ⟨e1, e2⟩ := hOr
      injection e1 with e1 e3 e4
      rw [e2] at htn
      simp at htn
      rcases hA with ⟨g, e, _⟩ | ⟨hc, rfl⟩
      · rw [e1] at e; cases e
      · exact .inl ⟨_, by rw [e3, htn], by rw [e2]; simp⟩
    | some g =>
      have hOw : Ow g (.slice a n c) (rf most (x ++ z)).1.out V0 := hOr
      obtain ⟨yy, ev, _⟩ := id hOw
      injection ev with ea _ _
      subst ea
      rw [hn] at hOw ⊢
      have hcut := sl_cut hOw told ((rf most (x ++ z)).1.out.length - told) (by omega) A (fun k => k = db ∨ V0.heap.size ≤ k) (fun e => e.elim (hne g rfl) (fun e => by have := hOw.lt; omega))
      rcases hA with ⟨g', e, rfl, rfl⟩ | ⟨hc, rfl⟩
      · injection e with e
        injection e with e
        subst e
        exact hcut.2
      · exact hcut.1 hc
  have c2 := h.c2
  have c3 := h.c3
  have a2 : (w.alloc (.cells #[] 5)).cell? ⟨db, 2, none⟩ = some (.slice xa x.length xc) := Nw.cell ((Fr.refl _ _).alloc _) c2
  have d3 := (row_cell row3 2 _ rfl).1
  have d3f := (row_cell row3 2 (.slice xa x.length xc) rfl).2
  have e0 := (row_cell row4 0 _ rfl).1
  have e2 := (row_cell row4 2 _ rfl).1
  have t0 : W4.drew.cell? ⟨db, 0, none⟩ = some (.int .i64 most) := e0
  have t2 : W4.drew.cell? ⟨db, 2, none⟩ = some (.slice (some ⟨g3, 0, none⟩) (x ++ z).length ys.length) := e2
  have HAP1 := hap1
  have HAP3 : Hid (∀ ty, (Builtin.append_ #[22, 22] ty #[.slice (some ⟨g1, 0, none⟩) x.length c1, .slice za z.length zc]).run Tryd.prog W1 = .ok (.slice (some ⟨g3, 0, none⟩) (x ++ z).length ys.length) W3) := hap3
  have HD4 : Hid (db < W4.heap.size) := by show db < W4.heap.size; omega
  have HR4 : Hid (W4.heap[db]? = some (.cells #[.int .i64 most, .int .i64 told, .slice (some ⟨g3, 0, none⟩) (x ++ z).length ys.length, .int .i64 0] 67)) := row4
  have HL : Hid (told ≤ (rf most (x ++ z)).1.out.length ∧ (rf most (x ++ z)).1.out.length ≤ most ∧ most ≤ 4194304) := ⟨htn, rf_out _ _, h.hm⟩
  clear hP h hz hap1 hO1 hg1 hN1 hap3 hO3 hF3 hg3 hs1 hs3 hg3' hdlt row1 row3 row4 f4 hO4 f04 hs4 hxz htn hv4
  generalize (x ++ z).length = NL at *
  generalize x.length = XL at *
  generalize z.length = ZL at *
  generalize ys.length = YL at *
  go_enter Tryd.func30, Tryd.ntmps30
  go_upto_region 4 with (first | (at_builtin; refine Lib.wpList_append_run _ rfl _ _ 22 22 rfl (.slice (some ⟨w.heap.size, 0, none⟩) 0 0) (.slice xa XL xc) (by simp [Act.eval]) (by simp [Act.eval]) _ _ (HAP1.out _) ?_) | (at_builtin; refine Lib.wpList_append_run _ rfl _ _ 22 22 rfl (.slice (some ⟨g1, 0, none⟩) XL c1) (.slice za ZL zc) (by simp [Act.eval]) (by simp [Act.eval]) _ _ (HAP3.out _) ?_))
  go_cut [6] (fun v wx => ∃ tb a n c p er, v = .pointer (some ⟨tb, 0, none⟩) ∧ Hid (SvI W4 most (x ++ z) tb a n c p er wx))
  case first =>
    have nn4 : W4.heap.size ≠ db := World.new_ne W4 _ e0
    clear HE HS HAP1 HAP3 HR4
    go_region_held3 (fun W => W.cell? ⟨db, 0, none⟩ = some (.int .i64 most) ∧ W.cell? ⟨db, 2, none⟩ = some (.slice (some ⟨g3, 0, none⟩) NL YL))
      (first | assumption | (refine ⟨?_, ?_⟩ <;> assumption) | (refine ⟨?_, ?_⟩ <;> (first | assumption | exact Nw.cell ((Fr.refl _ _).alloc _) (by assumption) | exact set3_keep (by assumption) nn4 _ _ _)) | go_keep)
      (first
        | (go_at_call 25; with_reducible refine (HR.out _ (Fr.refl _ _).drew).mono ?_; rintro e w5 ⟨a, n, c, p, er, rfl, u0, u2, K5⟩; have uu0 := World.new_ne w5 _ u0; have uu2 := World.new_ne w5 _ u2)
        | (go_at_call 25; with_reducible refine (HR.out _ ((Fr.refl _ _).drew.alloc _)).mono ?_; rintro e w5 ⟨a, n, c, p, er, rfl, u0, u2, K5⟩; have uu0 := World.new_ne w5 _ u0; have uu2 := World.new_ne w5 _ u2; obtain ⟨y1, y2, y3, y4, y5, y6⟩ := fresh3' K5.out.1 (.slice a n c) (.int .i64 (p : Nat)))
        | (go_at_call 25; with_reducible refine (HR.out _ ((Fr.refl _ _).alloc _).drew).mono ?_; rintro e w5 ⟨a, n, c, p, er, rfl, u0, u2, K5⟩; have uu0 := World.new_ne w5 _ u0; have uu2 := World.new_ne w5 _ u2; obtain ⟨y1, y2, y3, y4, y5, y6⟩ := fresh3d K5.out.1 (.slice a n c) (.int .i64 (p : Nat))))
    all_goals go_wp2_with fail
    all_goals go_meet
    all_goals (first
      | exact ⟨_, a, n, c, p, er, rfl, svA (Fr.refl _ _).drew K5.out⟩
      | exact ⟨_, a, n, c, p, er, rfl, svB K5.out⟩)
  case rest =>
  obtain ⟨tb, a, n, c, p, er, rfl, HT⟩ := hcut
  obtain ⟨rT, hTb, hN4, her, hn, ogr, hOr, hgr⟩ := HT.out
  have rD := hN4.heap HR4.out
  obtain ⟨l1, l2, l3⟩ := HL.out
  have hnc : n ≤ c ∧ c < 9223372036854775808 := by
    obtain ⟨a', c', e1, e2, e3⟩ := hOr.form
    injection e1 with _ _ e1
    omega
  have hdb := HD4.out
  have HS2 := HS.out wc a n c ogr hOr hn (fun g hg => by have := (hgr g hg).1; omega)
  have hform : (a = none ∧ c = 0 ∧ n = 0) ∨ ∃ g, a = some ⟨g, 0, none⟩ := by
    cases ogr with
    | none => obtain ⟨e1, e2⟩ := hOr; injection e1 with e1 e2 e3; exact .inl ⟨e1, e3, e2⟩
    | some g =>
      have hO : Ow g (.slice a n c) (rf most (x ++ z)).1.out wc := hOr
      obtain ⟨xs, e, _⟩ := hO
      injection e with e1
      exact .inr ⟨g, e1⟩
  have HSl : Hid (∀ A c', ((∃ g, a = some ⟨g, 0, none⟩ ∧ A = some ⟨g, told, none⟩ ∧ c' = c - told) ∨ (c = told ∧ c' = 0)) → Sl (fun k => k = db ∨ wc.heap.size ≤ k) (.slice A (n - told) c') ((rf most (x ++ z)).1.out.drop told) wc) := HS2
  have HE2 : Hid (∀ V0, Nw wc V0 → ∀ A c', Sl (fun k => k = db ∨ wc.heap.size ≤ k) (.slice A (n - told) c') ((rf most (x ++ z)).1.out.drop told) wc → ∀ V er, Fr (fun k => k = db) V0 V → er = whyOf most (x ++ z) → V.heap[db]? = some (.cells #[.int .i64 most, .int .i64 n, .slice (some ⟨g3, 0, none⟩) NL YL, .int .i64 (er : Nat)] 67) → ∃ g9 c9 W9, Hid (∀ ty, (Builtin.append_ #[22, 22] ty #[.slice (some ⟨V.heap.size, 0, none⟩) 0 0, .slice A (n - told) c']).run Tryd.prog (V.alloc (.cells #[] 5)) = .ok (.slice (some ⟨g9, 0, none⟩) (n - told) c9) W9) ∧ W9.cell? ⟨db, 3, none⟩ = some (.int .i64 er) ∧ Hid (∀ U, Nw W9 U → P (.returned (.tuple #[.slice (some ⟨g9, 0, none⟩) (n - told) c9, .int .i64 er])) U)) := fun V0 hV0 A c' hsl V er' fV he hrow => by
    have hs := hV0.size
    exact HE.out V V0 a n c ogr (hN4.trans hV0) (hOr.nw hV0) hn (fun g hg => by have := (hgr g hg).1; omega) A c' ((hsl.nw hV0).mono (fun k hk => by omega)) fV er' he hrow
  have r0 := (row_cell rT 0 _ rfl).1
  have r2 := (row_cell rT 2 _ rfl).1
  have m1 := (row_cell rD 1 _ rfl).1
  have hzn : (told : Int) ≤ (n : Int) := by omega
  have hzc : (n : Int) ≤ (c : Int) := by omega
  have hz0 : (0 : Int) ≤ (told : Int) := by omega
  have hzt : (told : Int) ≤ (c : Int) := by omega
  have HTT : Hid (SvI W4 most (x ++ z) tb a n c p er wc) := HT.out
  have HNN : Hid (n = (rf most (x ++ z)).1.out.length ∧ told ≤ n ∧ n ≤ c) := ⟨hn, by omega, hnc.1⟩
  have HER : Hid (er = (rf most (x ++ z)).2.2) := her
  clear HE HS HS2 HT HR HAP1 HAP3 hOr hgr rT rD hn her hN4 hTb l1 l2 l3 hdb
  go_upto_region 5 with fail
  go_cut [7] (fun v wx => ∃ A c', v = .slice A (n - told) c' ∧ Hid (Nw wc wx ∧ Sl (fun k => k = db ∨ wc.heap.size ≤ k) (.slice A (n - told) c') ((rf most (x ++ z)).1.out.drop told) wc))
  case first =>
    clear HE2 HTT HR4 HL HER
    rcases hform with ⟨rfl, rfl, rfl⟩ | ⟨g, rfl⟩
    · obtain rfl : told = 0 := by have := HNN.out; omega
      go_quiet (fail)
      all_goals go_wp2_with fail
      all_goals go_meet
      all_goals exact ⟨_, _, rfl, (Fr.refl _ _).drewN _, HSl.out _ _ (.inr (by simp))⟩
    · by_cases hct : c ≤ told
      · have HCT : Hid (c = told) := by have := HNN.out; show c = told; omega
        go_quiet (fail)
        all_goals go_wp2_with fail
        all_goals go_meet
        all_goals exact ⟨_, _, rfl, (Fr.refl _ _).drewN _, HSl.out _ _ (.inr ⟨HCT.out, rfl⟩)⟩
      · go_quiet (fail)
        all_goals go_wp2_with fail
        all_goals go_meet
        all_goals exact ⟨_, _, rfl, (Fr.refl _ _).drewN _, HSl.out _ _ (.inl ⟨g, rfl, rfl, rfl⟩)⟩
  case rest =>
  obtain ⟨A, c', rfl, HQ⟩ := hcut
  obtain ⟨hNc, hsl⟩ := HQ.out
  have rT0 := HTT.out.1
  have hTb := HTT.out.2.1
  have hN4 := HTT.out.2.2.1
  have her := HTT.out.2.2.2.1
  have rT := hNc.heap rT0
  have rD := hNc.heap (hN4.heap HR4.out)
  have hdb := HD4.out
  have htd : tb ≠ db := by omega
  have k1 := (row_cell rD 1 _ rfl).1
  have k1f := (row_cell rD 1 (.int .i64 told) rfl).2
  have s0 := (row_cell rT 0 _ rfl).1
  obtain ⟨W5, hW5⟩ : ∃ W5, wc.setCell ⟨db, 1, none⟩ (.int .i64 n) = W5 := ⟨_, rfl⟩
  have row5 : W5.heap[db]? = some (.cells #[.int .i64 most, .int .i64 n, .slice (some ⟨g3, 0, none⟩) NL YL, .int .i64 0] 67) := by rw [← hW5]; exact row_set rD 1 _
  have f5 : Fr (fun k => k = db) wc W5 := by rw [← hW5]; exact (Fr.refl _ _).setCell _ _ (.inl rfl)
  have rT5 := row_kept rT f5 htd
  have s2 := (row_cell rT5 2 _ rfl).1
  have k3 := (row_cell row5 3 _ rfl).1
  have k3f := (row_cell row5 3 (.int .i64 0) rfl).2
  have hErr : er = 4 ∨ er = 0 → whyOf most (x ++ z) = 0 := fun e => by
    unfold whyOf
    rw [← her]
    split
    · rfl
    · rcases e with e | e
      · contradiction
      · exact e
  have hErr2 : er ≠ 4 → whyOf most (x ++ z) = er := fun e => by
    unfold whyOf
    rw [← her, if_neg e]
  by_cases he : er = 4 ∨ er = 0
  · obtain ⟨g9, c9, W9, HAP9, k9, HF9⟩ := HE2.out wc hNc A c' hsl W5.drew 0 f5.drew (hErr he).symm row5
    have k3a : (W5.drew.alloc (.cells #[] 5)).cell? ⟨db, 3, none⟩ = some (.int .i64 0) := Nw.cell ((Fr.refl _ _).alloc _) k3
    have k3b : (W5.alloc (.cells #[] 5)).drew.cell? ⟨db, 3, none⟩ = some (.int .i64 0) := k3a
    have k3d : W5.drew.cell? ⟨db, 3, none⟩ = some (.int .i64 0) := k3
    clear HE2 HQ HTT HR4 HD4 HL HER HNN hErr hErr2 hsl rT0 rT rD hNc hN4 her hTb hdb htd row5 f5 rT5 HSl hform hnc
    rcases he with rfl | rfl
    · go_wp2_with fail
      go_region_law (first | (refine step_app2 22 rfl _ _ rfl (.slice (some ⟨W5.heap.size, 0, none⟩) 0 0) (.slice A (n - told) c') (by first | rfl | simp [Act.eval, Act.put]) (by first | rfl | simp [Act.eval, Act.put]) _ _ (HAP9.out) ?_))
      all_goals go_wp2_with fail
      all_goals (first | exact HF9.out _ (Fr.refl _ _) | (go_ret2; exact HF9.out _ (Fr.refl _ _)) | (simp only [Act.put]; go_ret2; exact HF9.out _ (Fr.refl _ _)) | (refine bodyPost_ret (v := .tuple #[.slice (some ⟨g9, 0, none⟩) (n - told) c9, _]) ?_ rfl (HF9.out _ (Fr.refl _ _)); simp [results, Act.put]))
    · go_wp2_with fail
      go_region_law (first | (refine step_app2 22 rfl _ _ rfl (.slice (some ⟨W5.heap.size, 0, none⟩) 0 0) (.slice A (n - told) c') (by first | rfl | simp [Act.eval, Act.put]) (by first | rfl | simp [Act.eval, Act.put]) _ _ (HAP9.out) ?_))
      all_goals go_wp2_with fail
      all_goals (first | exact HF9.out _ (Fr.refl _ _) | (go_ret2; exact HF9.out _ (Fr.refl _ _)) | (simp only [Act.put]; go_ret2; exact HF9.out _ (Fr.refl _ _)) | (refine bodyPost_ret (v := .tuple #[.slice (some ⟨g9, 0, none⟩) (n - told) c9, _]) ?_ rfl (HF9.out _ (Fr.refl _ _)); simp [results, Act.put]))
  · obtain ⟨W6, hW6⟩ : ∃ W6, W5.setCell ⟨db, 3, none⟩ (.int .i64 er) = W6 := ⟨_, rfl⟩
    have row6 : W6.heap[db]? = some (.cells #[.int .i64 most, .int .i64 n, .slice (some ⟨g3, 0, none⟩) NL YL, .int .i64 er] 67) := by rw [← hW6]; exact row_set row5 3 _
    have f6 : Fr (fun k => k = db) wc W6 := by rw [← hW6]; exact f5.setCell _ _ (.inl rfl)
    obtain ⟨g9, c9, W9, HAP9, k9, HF9⟩ := HE2.out wc hNc A c' hsl W6.drew er f6.drew (hErr2 (fun e => he (.inl e))).symm row6
    have k4 := (row_cell row6 3 _ rfl).1
    have k4a : (W6.drew.alloc (.cells #[] 5)).cell? ⟨db, 3, none⟩ = some (.int .i64 er) := Nw.cell ((Fr.refl _ _).alloc _) k4
    have k4b : (W6.alloc (.cells #[] 5)).drew.cell? ⟨db, 3, none⟩ = some (.int .i64 er) := k4a
    have k4d : W6.drew.cell? ⟨db, 3, none⟩ = some (.int .i64 er) := k4
    have hz1 : ((er : Int) != 0) = true := by simp only [bne_iff_ne, ne_eq]; omega
    have hz2 : ((er : Int) != 4) = true := by simp only [bne_iff_ne, ne_eq]; omega
    clear HE2 HQ HTT HR4 HD4 HL HER HNN hErr hErr2 hsl rT0 rT rD hNc hN4 her hTb hdb htd row5 f5 rT5 HSl hform hnc row6 f6
    go_wp2_with fail
    go_region_law (first | (refine step_app2 22 rfl _ _ rfl (.slice (some ⟨W6.heap.size, 0, none⟩) 0 0) (.slice A (n - told) c') (by first | rfl | simp [Act.eval, Act.put]) (by first | rfl | simp [Act.eval, Act.put]) _ _ (HAP9.out) ?_))
    all_goals go_wp2_with fail
    all_goals (first | exact HF9.out _ (Fr.refl _ _) | (go_ret2; exact HF9.out _ (Fr.refl _ _)) | (simp only [Act.put]; go_ret2; exact HF9.out _ (Fr.refl _ _)) | (refine bodyPost_ret (v := .tuple #[.slice (some ⟨g9, 0, none⟩) (n - told) c9, _]) ?_ rfl (HF9.out _ (Fr.refl _ _)); simp [results, Act.put]))
end Go.Proofs.YtincbbnppcpfpaaDoor

import Derived.Test.YtcogkhcfpgelhabGreatVfF
import Derived.BigRegion
import Derived.Handy
namespace Go.Proofs.YtcogkhcfpgelhabGreat
open Go.RowKit
set_option linter.unusedVariables false
set_option maxRecDepth 100000
variable {fb mb : Nat} {ot : Option Nat} {L : Int → Lay} {h : Hx} {q : Int → Option Pn} {cnt : Nat} {T : List Ac} {w w' : World} {X : Nat → Prop}
def appV (tys : Array TypeId) (ty : TypeId) (args : Array Value) : Sem Value := Builtin.append_ tys ty args
theorem appV_fold (tys : Array TypeId) (ty : TypeId) (args : Array Value) : Builtin.append_ tys ty args = appV tys ty args := rfl
theorem rset {w : World} {rb : Nat} {a : Array Value} {T : Nat} (h : w.heap[rb]? = some (.cells a T)) (j : Nat) (v : Value) : (w.setCell ⟨rb, j, none⟩ v).heap[rb]? = some (.cells (a.setIfInBounds j v) T) := by
  simp [World.setCell, Array.getElem?_modify, h]
abbrev acC (x : Ac) : Array Value := #[.int .i64 x.op, .int .i64 x.dir, .string (mk x.name), .int .i64 x.node, .int .i64 x.too, .string (mk x.other), .int .i64 x.pl, .int .i64 x.n]
/-- A call that is done, put behind the trace. -/
theorem FsH.push (H : FsH fb mb ot L h q cnt T w) (hT : T.length ≤ 2000000000000) (x : Ac) : ∃ a c, w.cell? ⟨fb, 5, none⟩ = some (.slice a T.length c) ∧ T.length ≤ c ∧ c < 9223372036854775808 ∧ ∃ a' c' W, (∀ ty, (appV #[48, 48] ty #[.slice a T.length c, .slice (some ⟨w.heap.size, 0, none⟩) 1 1]).run Tryz.prog (w.alloc (.cells (acC x) 51)) = .ok (.slice a' (T.length + 1) c') W) ∧ W.frozen? ⟨fb, 5, none⟩ = false ∧ (∃ u, W.cell? ⟨fb, 5, none⟩ = some u) ∧ ∃ ot', FsH fb mb ot' L h q cnt (T ++ [x]) (W.setCell ⟨fb, 5, none⟩ (.slice a' (T.length + 1) c')) ∧ Fr (fun k => k = fb ∨ ot = some k) w (W.setCell ⟨fb, 5, none⟩ (.slice a' (T.length + 1) c')) ∧ (ot' = ot ∨ ∃ g, ot' = some g ∧ w.heap.size ≤ g) := by
  obtain ⟨tv, h1, h2⟩ := H.blk
  obtain ⟨a, c, rfl, hc1, hc2⟩ := h2.form
  have hN : Nw w (w.alloc (.cells (RAc.enc x).toArray 51)) := (Fr.refl _ _).alloc _
  have hb := OwR.built racOk w [x] (RAc.enc x).toArray (by simp [flatR]) (by simp)
  obtain ⟨v', ot', W, k1, k2, k3, k4⟩ := ogR_app racOk _ ot _ T (h2.nw hN) (.slice (some ⟨w.heap.size, 0, none⟩) 1 1) [x] ((hb.slr racOk).mono (fun _ h => h.elim)) (by simp only [RAc, List.length_singleton]; omega) (by simp only [List.length_singleton]; omega)
  obtain ⟨a', c', e2, q1, q2⟩ := k2.form
  rw [List.length_append, List.length_singleton] at e2 q1
  subst e2
  have hfo : ot ≠ some fb := fun e => by
    have t1 := H.tot fb e
    rw [H.tfb] at t1; cases t1
  have hW : W.heap[fb]? = some (.cells #[.map (some mb), .int .i64 h.nodes, .int .i64 h.bytes, .int .i64 h.held, .int .i64 h.next, .slice a T.length c] 82) := k3.heap (hN.heap h1) (fun e => hfo e)
  have ho : ot' = ot ∨ ∃ g, ot' = some g ∧ w.heap.size ≤ g := by
    rcases k4 with e | ⟨g, e, hg⟩
    · exact .inl e
    · refine .inr ⟨g, e, ?_⟩
      have : (w.alloc (.cells (RAc.enc x).toArray 51)).heap.size = w.heap.size + 1 := by simp
      omega
  have hfo' : ot' ≠ some fb := fun e => by
    rcases ho with e2 | ⟨g, e2, hg⟩
    · exact hfo (e2 ▸ e)
    · rw [e2] at e; injection e with e; have := blt h1; omega
  have hF : Fr (fun k => k = fb ∨ ot = some k) w (W.setCell ⟨fb, 5, none⟩ (.slice a' (T.length + 1) c')) :=
    ((hN.any.trans (k3.mono (fun i hi => .inl (.inr hi))))).setCell _ _ (.inl (.inl rfl))
  have hs : (W.setCell ⟨fb, 5, none⟩ (.slice a' (T.length + 1) c')).heap[fb]? = some (.cells #[.map (some mb), .int .i64 h.nodes, .int .i64 h.bytes, .int .i64 h.held, .int .i64 h.next, .slice a' (T.length + 1) c'] 82) := rset hW 5 _
  refine ⟨a, c, (rc h1 5 _ rfl).1, hc1, hc2, a', c', W, k1, (rc hW 5 _ rfl).2, ⟨_, (rc hW 5 _ rfl).1⟩, ot', ?_, hF, ho⟩
  refine H.head hF (fun k hk => hk) ho hs ?_
  exact k2.kept ((Fr.refl (fun k => k = fb) W).setCell ⟨fb, 5, none⟩ _ (.inl rfl)) (fun g hg e => hfo' (by rw [hg, e]))
/-- What did leaves. -/
def DidO (fb mb : Nat) (ot : Option Nat) (L : Int → Lay) (h : Hx) (q : Int → Option Pn) (cnt : Nat) (T : List Ac) (w w' : World) : Prop := ∃ ot', FsH fb mb ot' L h q cnt T w' ∧ Fr (fun k => k = fb ∨ ot = some k) w w' ∧ (ot' = ot ∨ ∃ g, ot' = some g ∧ w.heap.size ≤ g)
section
attribute [local go_sem ↓] appV_fold
set_option maxHeartbeats 4000000 in
theorem did_any (H : FsH fb mb ot L h q cnt T w) (hT : T.length ≤ 2000000000000) (x : Ac) : Calls Tryz.prog 53 #[.pointer (some ⟨fb, 0, none⟩), .agg (acC x)] w fun e w' => (∃ r, e = .returned r) ∧ DidO fb mb ot L h q cnt (T ++ [x]) w w' := by
  obtain ⟨P, hP⟩ : ∃ P : Ending → World → Prop, P = fun e w' => (∃ r, e = .returned r) ∧ DidO fb mb ot L h q cnt (T ++ [x]) w w' := ⟨_, rfl⟩
  rw [← hP]
  obtain ⟨V, hV⟩ : ∃ V, V = w.alloc (.cells (acC x) 51) := ⟨_, rfl⟩
  have hN : Nw w V := by rw [hV]; exact (Fr.refl _ _).alloc _
  have HV := H.nw hN
  obtain ⟨a, c, x5, z1, z2, a1, c1, W1, r1, g1, ⟨u1, y1⟩, o1⟩ := HV.push hT x
  obtain ⟨a2, c2, x5', _, _, a3, c3, W3, r3, g3, ⟨u3, y3⟩, o3⟩ := (HV.nw ((Fr.refl _ _).drew)).push hT x
  have e5 : (V.drew).cell? ⟨fb, 5, none⟩ = V.cell? ⟨fb, 5, none⟩ := rfl
  rw [e5, x5] at x5'
  simp only [Option.some.injEq, Value.slice.injEq, true_and] at x5'
  obtain ⟨rfl, rfl⟩ := x5'
  have HF : Hid (∀ r, P (.returned r) (W1.setCell ⟨fb, 5, none⟩ (.slice a1 (T.length + 1) c1))) := fun r => by
    rw [hP]
    obtain ⟨ot', k1, k2, k3⟩ := o1
    have hs := hN.size
    refine ⟨⟨r, rfl⟩, ot', k1, hN.any.trans k2, ?_⟩
    rcases k3 with e | ⟨g, e, hg⟩
    · exact .inl e
    · exact .inr ⟨g, e, by omega⟩
  have HF3 : Hid (∀ r, P (.returned r) (W3.setCell ⟨fb, 5, none⟩ (.slice a3 (T.length + 1) c3))) := fun r => by
    rw [hP]
    obtain ⟨ot', k1, k2, k3⟩ := o3
    have hs := hN.size
    have hs2 : (V.drew).heap.size = V.heap.size := rfl
    refine ⟨⟨r, rfl⟩, ot', k1, (hN.any.trans (Fr.refl _ _).drew).trans k2, ?_⟩
    rcases k3 with e | ⟨g, e, hg⟩
    · exact .inl e
    · exact .inr ⟨g, e, by omega⟩
  have hb : ∀ j v, (acC x)[j]? = some v → V.cell? ⟨w.heap.size, j, none⟩ = some v := fun j v hv => by rw [hV]; exact (rc (nh w _) j v hv).1
  have b0 := hb 0 _ rfl
  have b1 := hb 1 _ rfl
  have b2 := hb 2 _ rfl
  have b3 := hb 3 _ rfl
  have b4 := hb 4 _ rfl
  have b5 := hb 5 _ rfl
  have b6 := hb 6 _ rfl
  have b7 := hb 7 _ rfl
  have hfl := H.cs.lt
  have hfv := HV.cs.lt
  have hne : ¬ fb = V.heap.size := by omega
  have r3' : ∀ ty, (appV #[48, 48] ty #[.slice a T.length c, .slice (some ⟨V.heap.size, 0, none⟩) 1 1]).run Tryz.prog (V.alloc (.cells (acC x) 51)).drew = .ok (.slice a3 (T.length + 1) c3) W3 := r3
  clear H HV o1 o3 hP hb e5 r3
  unfold acC at *
  generalize mk x.name = nm at *
  generalize mk x.other = om at *
  generalize T.length = N at *
  go_enter Tryz.func53, Tryz.ntmps53
  go_upto_region 1 with fail
  rw [← hV]
  clear hV
  go_region
  all_goals go_wp2_with fail
  all_goals (first | exact HF.out _ | exact HF3.out _ | (go_end0; first | exact HF.out _ | exact HF3.out _))
end
end Go.Proofs.YtcogkhcfpgelhabGreat

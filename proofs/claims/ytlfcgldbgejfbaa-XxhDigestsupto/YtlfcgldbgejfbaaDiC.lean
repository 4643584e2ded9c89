import Derived.Test.YtlfcgldbgejfbaaDiB
import Derived.Test.YtlfcgldbgejfbaaWoA
import Derived.Test.YtlfcgldbgejfbaaXxZ
import Derived.Lib.AppendZeros
namespace Go.Proofs.Ytlfcgldbgejfbaa
open Go.RowKit
set_option linter.unusedVariables false
def upd {α : Type} (f : Nat → α) (i : Nat) (x : α) : Nat → α := fun j => if j = i then x else f j
theorem step_append_run {ops : Array Oper} {o : Oper} {a : Act} {w : World} {K : Act → World → Prop} {Q : Exit → Act → World → Prop} {E : Prop} (hg : o.guard = none) (s x : Operand) (hop : o.op = Op.call { callee := Callee.builtin Builtin.append, args := #[s, x], argTypes := #[24, 24] })
    (vs vx : Value) (hs : a.eval s = vs) (hx : a.eval x = vx) (v' : Value) (W : World) (hrun : ∀ ty, (Builtin.append_ #[24, 24] ty #[vs, vx]).run Try.prog w = .ok v' W) (hK : K (a.put o.dst v') W) :
    if Region.wanted o (yielded ops a.tmps) = true then Oper.wp Try.prog o a w K Q else E := by
  have hw : Region.wanted o (yielded ops a.tmps) = true := by simp [Region.wanted, hg]
  rw [if_pos hw]
  unfold Oper.wp
  simp [execOp, hop, resolve, invoke, builtin, hs, hx, hrun, Result.andThen]
  exact hK
theorem scells_set (s o : BitVec 64) (D : Nat → Nat) (T : Nat → Value) (i : Nat) (hi : i < 4) (v : Value) : (scells s o D T).setIfInBounds (4 + i) v = scells s o D (upd T i v) := by
  obtain rfl | rfl | rfl | rfl : i = 0 ∨ i = 1 ∨ i = 2 ∨ i = 3 := by omega
  all_goals simp [scells, upd]
theorem DInv.wrote {w : World} {sb : Nat} {s o : BitVec 64} {D : Nat → Nat} {T : Nat → Value} {L : Nat → List By} {V : World} (h : DInv w sb s o D T L V) (i : Nat) (hi : i < 4) (W : World) (hF : Fr (fun k => k = D i) V W) (l' : List By) (hT : Tk s o i (D i) l' W) (v : Value)
    (hO : (v = .slice none 0 0 ∧ l' = []) ∨ ∃ g, V.heap.size ≤ g ∧ Ow g v l' W) : DInv w sb s o D (upd T i v) (upd L i l') (W.setCell ⟨sb, 4 + i, none⟩ v) := by
  have hsl : sb < V.heap.size := (Array.getElem?_eq_some_iff.1 h.st).1
  have hst : W.heap[sb]? = some (.cells (scells s o D T) 36) := (hF.block sb hsl (fun e => h.sbd i hi e.symm)).trans h.st
  have hS : Fr (fun k => k = sb) W (W.setCell ⟨sb, 4 + i, none⟩ v) := (Fr.refl _ _).setCell _ _ (.inl rfl)
  have hFS : Fr (fun k => k = D i ∨ k = sb) V (W.setCell ⟨sb, 4 + i, none⟩ v) := (hF.mono (fun k hk => .inl (.inl hk))).trans (hS.mono (fun k hk => .inl (.inr hk)))
  refine ⟨?_, ?_, ?_, h.inj, h.sbd, h.base, ?_⟩
  · rw [← scells_set s o D T i hi v]
    simp only [World.setCell, Array.getElem?_modify, hst]
    simp
  · intro j hj
    by_cases e : j = i
    · subst e
      simp only [upd, if_pos]
      exact hT.kept hS (h.sbd j hj)
    · simp only [upd, if_neg e]
      exact (h.tk j hj).kept hFS (fun hk => by
        rcases hk with hk | hk
        · exact e (h.inj j i hj hi hk)
        · exact h.sbd j hj hk)
  · intro j hj
    by_cases e : j = i
    · subst e
      simp only [upd, if_pos]
      rcases hO with hO | ⟨g, hg, hO⟩
      · exact .inl hO
      · refine .inr ⟨g, by omega, fun k hk => by have := (h.tk k hk).lt; omega, hO.kept hS (by show ¬ g = sb; omega)⟩
    · simp only [upd, if_neg e]
      exact (h.own j hj).kept hFS (fun g hg => by
        rcases hg with hg | hg
        · exact .inr (.inl ⟨i, hi, hg⟩)
        · exact .inl hg)
  · refine Fr.then h.nw hFS (fun k hk => .inr ?_)
    rcases hk with rfl | rfl
    · exact h.base.2 i hi
    · exact h.base.1
end Go.Proofs.Ytlfcgldbgejfbaa

import Derived.Test.YtpjnbhflnbhnoaaGreatDoorWau
import Derived.Deep.MidRow
import Derived.Deep.RegionHeld3
import Derived.Great.BuildSlice
namespace Go.Proofs.YtpjnbhflnbhnoaaGreatDoor
open Go.RowKit
set_option linter.unusedVariables false
section
variable {ops : Array Oper} {o : Oper} {a : Act} {w W : World} {K : Act → World → Prop} {Q : Exit → Act → World → Prop} {E : Prop} {v : Value}
theorem step_run (hg : o.guard = none) (h : (execOp a.eval o).run Tryz.prog w = .ok (.value v) W) (hK : K (a.put o.dst v) W) : if Region.wanted o (yielded ops a.tmps) = true then Oper.wp Tryz.prog o a w K Q else E := by
  have hw : Region.wanted o (yielded ops a.tmps) = true := by simp [Region.wanted, hg]
  rw [if_pos hw]
  unfold Oper.wp
  rw [h]
  exact hK
theorem step_mw {L : Nat} (hg : o.guard = none) (hop : o.op = .makeSlice 211 (.tmp 20) (.tmp 20)) (hx : a.eval (.tmp 20) = .int .i64 L) (hrun : (Instr.makeSlice 211 (.int .i64 L) (.int .i64 L)).run Tryz.prog w = .ok v W) (hK : K (a.put o.dst v) W) : if Region.wanted o (yielded ops a.tmps) = true then Oper.wp Tryz.prog o a w K Q else E :=
  step_run hg (by simp [execOp, hop, hx, hrun, Result.andThen]) hK
theorem step_mi {L : Nat} (hg : o.guard = none) (hop : o.op = .makeSlice 124 (.tmp 23) (.tmp 23)) (hx : a.eval (.tmp 23) = .int .i64 L) (hrun : (Instr.makeSlice 124 (.int .i64 L) (.int .i64 L)).run Tryz.prog w = .ok v W) (hK : K (a.put o.dst v) W) : if Region.wanted o (yielded ops a.tmps) = true then Oper.wp Tryz.prog o a w K Q else E :=
  step_run hg (by simp [execOp, hop, hx, hrun, Result.andThen]) hK
theorem step_al (hg : o.guard = none) (hop : o.op = .alloc 89) (hK : K (a.put o.dst (.pointer (some ⟨w.heap.size, 0, none⟩))) (w.alloc (.cells #[.pointer none] 89))) : if Region.wanted o (yielded ops a.tmps) = true then Oper.wp Tryz.prog o a w K Q else E := by
  refine step_run hg ?_ hK
  have h : ∀ w : World, (execOp a.eval { o with op := .alloc 89 }).run Tryz.prog w = .ok (.value (.pointer (some ⟨w.heap.size, 0, none⟩))) (w.alloc (.cells #[.pointer none] 89)) := fun w => by kernel_rfl
  have e : o = { o with op := .alloc 89 } := by rw [← hop]
  rw [e]; exact h w
theorem step_bx {C : Array Value} (hg : o.guard = none) (hop : o.op = .box 213 (.tmp 26)) (hx : a.eval (.tmp 26) = .agg C) (hK : K (a.put o.dst (.pointer (some ⟨w.heap.size, 0, none⟩))) (w.alloc (.cells C 213))) : if Region.wanted o (yielded ops a.tmps) = true then Oper.wp Tryz.prog o a w K Q else E := by
  refine step_run hg ?_ hK
  have h : (newVar 213 (.agg C)).run Tryz.prog w = .ok ⟨w.heap.size, 0, none⟩ (w.alloc (.cells C 213)) := by kernel_rfl
  simp [execOp, hop, hx, Result.andThen, Instr.box, h]
theorem step_st {b : Nat} {u : Value} {x : Addr} (hg : o.guard = none) (hop : o.op = .store 89 (.tmp 5) (.tmp 27)) (hx : a.eval (.tmp 5) = .pointer (some ⟨b, 0, none⟩)) (hy : a.eval (.tmp 27) = .pointer (some x)) (hc : w.heap[b]? = some (.cells #[u] 89)) (hK : K (a.put o.dst undef) (w.setRow b #[.pointer (some x)])) : if Region.wanted o (yielded ops a.tmps) = true then Oper.wp Tryz.prog o a w K Q else E := by
  have hw : Region.wanted o (yielded ops a.tmps) = true := by simp [Region.wanted, hg]
  rw [if_pos hw]
  unfold Oper.wp execOp
  have hi : (Tryz.prog.info? 89).map (·.size) = some 1 := by kernel_rfl
  simp only [hop, hx, hy, Instr.storeAt, Instr.sureAddr, Sem.run_bind, Sem.run_pure, Result.andThen_ok, run_storeVar_one w b 89 89 u (.pointer (some x)) hc hi rfl]
  exact hK
theorem yields_build {S : World → Prop} {p0 p1 p2 C : Value} (hg : o.guard = none) (hop : o.op = .build 213 #[(0, .tmp 21), (1, .tmp 24), (2, .tmp 25)]) (h0 : a.eval (.tmp 21) = p0) (h1 : a.eval (.tmp 24) = p1) (h2 : a.eval (.tmp 25) = p2)
    (hb : ∀ V, (Instr.build 213 #[(0, p0), (1, p1), (2, p2)]).run Tryz.prog V = .ok C V) : YieldsIf Tryz.prog ops S o C a := by
  refine .inl ⟨by simp [Region.wanted, hg], fun w _ => ?_⟩
  simp [execOp, hop, h0, h1, h2, hb, Result.andThen]
end
theorem hp_alloc (w : World) (o : Obj) (i : Nat) : (w.alloc o).heap[i]? = if i = w.heap.size then some o else w.heap[i]? := by
  show (w.heap.push o)[i]? = _
  rw [Array.getElem?_push]
theorem hs_alloc (w : World) (o : Obj) : (w.alloc o).heap.size = w.heap.size + 1 := by simp
theorem hs_set (w : World) (b : Nat) (cs : Array Value) : (w.setRow b cs).heap.size = w.heap.size := by simp [World.setRow]
theorem hs_drew (w : World) : w.drew.heap.size = w.heap.size := rfl
theorem rng_of {w : World} {rr T : Nat} {AL : List Value} (h : w.heap[rr]? = some (.cells AL.toArray T)) : w.rangeAt rr 0 AL := fun j v hv => by
  rw [Nat.zero_add]
  exact (row_cell h j v (by simpa using hv)).1
theorem rng_alloc {w : World} {rr : Nat} {AL : List Value} (h : w.rangeAt rr 0 AL) (o : Obj) : (w.alloc o).rangeAt rr 0 AL := fun j v hv => Nw.cell ((Fr.refl _ _).alloc _) (h j v hv)
theorem rng_set {w : World} {rr : Nat} {AL : List Value} (h : w.rangeAt rr 0 AL) (b : Nat) (cs : Array Value) (hb : rr ≠ b) : (w.setRow b cs).rangeAt rr 0 AL := fun j v hv => (Fr.setRow (X := fun k => k = b) (Fr.refl _ w) b cs (.inl rfl)).cellv (h j v hv) hb
end Go.Proofs.YtpjnbhflnbhnoaaGreatDoor

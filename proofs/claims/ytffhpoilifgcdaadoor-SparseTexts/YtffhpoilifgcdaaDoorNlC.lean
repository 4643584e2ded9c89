import Derived.Test.YtffhpoilifgcdaaDoorGnA
import Derived.Test.YtffhpoilifgcdaaDoorNlB
import Derived.Test.YtffhpoilifgcdaaDoorThA
import Derived.Lib.MinMax
import Derived.Lib.AppendZeros
import Derived.Handy
namespace Go.Proofs.YtffhpoilifgcdaaDoor
open Go.RowKit
set_option linter.unusedVariables false
/-! ### Rows of ranges -/
def rgC (x : Rg) : Array Value := #[.int .i64 x.1, .int .i64 x.2]
def RG : RT Rg := { enc := fun x => [.int .i64 x.1, .int .i64 x.2], k := 2, T := 51, TS := 22, z := (0, 0), by_ := 16 }
theorem rgOk : RG.Ok := by
  refine ⟨fun _ => rfl, by decide, fun x v hv => ?_, Tryd.underlying22, ?_⟩
  · simp only [RG, List.mem_cons, List.mem_nil_iff, or_false] at hv
    rcases hv with rfl | rfl <;> rfl
  · have h : (Tryd.prog.info? 51).map (fun i => (i.zero, i.size, i.bytes)) = some (some (.agg #[.int .i64 0, .int .i64 0]), 2, 16) := by kernel_rfl
    cases hq : Tryd.prog.info? 51 with
    | none => simp [hq] at h
    | some i => simp [hq] at h; exact ⟨i, _, hq, h.1, h.2.1, h.2.2, rfl⟩
theorem SlR.anyG {X : Nat → Prop} {v : Value} {l : List Rg} {w : World} (h : SlR RG X v l w) : SlR RG (fun _ => False) v l w := h.mono (fun _ h => h.elim)
theorem nHeap (w : World) (o : Obj) : (w.alloc o).heap[w.heap.size]? = some o := by
  show (w.heap.push o)[w.heap.size]? = _
  simp
theorem litG (V : World) (x : Rg) : OwR RG V.heap.size (.slice (some ⟨V.heap.size, 0, none⟩) 1 1) [x] (V.alloc (.cells (rgC x) 51)) := OwR.built rgOk V [x] _ (by simp [flatR, RG, rgC]) (by simp)
/-- One more behind a list of ranges. -/
theorem pushG (V : World) (og : Option Nat) (v : Value) (l : List Rg) (h : OgR RG og v l V) (hl : l.length ≤ 1000000000) (x : Rg) :
    ∃ og' v' W, Hid (∀ ty, (Builtin.append_ #[22, 22] ty #[v, .slice (some ⟨V.heap.size, 0, none⟩) 1 1]).run Tryd.prog (V.alloc (.cells (rgC x) 51)) = .ok v' W) ∧
      OgR RG og' v' (l ++ [x]) W ∧ Fr (fun k => og = some k) V W ∧ Went og og' V := by
  have hN : Nw V (V.alloc (.cells (rgC x) 51)) := (Fr.refl _ _).alloc _
  have hb := litG V x
  obtain ⟨v', og', W, k1, k2, k3, k4⟩ := ogR_app rgOk _ og v l (h.nw hN) (.slice (some ⟨V.heap.size, 0, none⟩) 1 1) [x] (hb.slr rgOk).anyG (by simp only [RG, List.length_singleton]; omega) (by simp only [List.length_singleton]; omega)
  exact ⟨og', v', W, k1, k2, hN.any.trans k3, Went.trans (Went.refl _ _) k4 hN.size⟩
theorem one_cell {w : World} {g : Nat} {v : Value} {T : Nat} (h : w.heap[g]? = some (.cells #[v] T)) : w.cell? ⟨g, 0, none⟩ = some v ∧ w.frozen? ⟨g, 0, none⟩ = false := by
  constructor <;> simp [World.cell?, World.frozen?, h]
theorem one_set {w : World} {g : Nat} {u v : Value} {T : Nat} (h : w.heap[g]? = some (.cells #[u] T)) : (w.setCell ⟨g, 0, none⟩ v).heap[g]? = some (.cells #[v] T) := by
  simp [World.setCell, Array.getElem?_modify, h]
theorem fr_set (w : World) (g : Nat) (v : Value) : Fr (fun k => k = g) w (w.setCell ⟨g, 0, none⟩ v) := (Fr.refl _ _).setCell _ _ (.inl rfl)
theorem Fr.heapv {X : Nat → Prop} {w w' : World} (h : Fr X w w') {g : Nat} {o : Obj} (hv : w.heap[g]? = some o) (hx : ¬ X g) : w'.heap[g]? = some o := (h.block g (Array.getElem?_eq_some_iff.1 hv).1 hx).trans hv
/-! ### Find's own memory -/
end Go.Proofs.YtffhpoilifgcdaaDoor

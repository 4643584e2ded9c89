import Derived.Test.YtkpkiajehclbhaaCqG
import Derived.Test.YtkpkiajehclbhaaBiE
import Derived.Laws.StructEq
namespace Go.Proofs.Ytkpkiajehclbhaa
open Go.RowKit
set_option linter.unusedVariables false
theorem Cod.some {ls : List Nat} (h : Cod ls) : 0 < ls.length := by
  cases ls with
  | nil => have := h.pos; simp [room, nm, ct] at this
  | cons x r => simp
theorem box_word (W : World) (a b : Value) : (W.alloc (.cells #[a, b] 62)).heap[W.heap.size]? = some (.cells #[a, b] 62) ∧ Nw W (W.alloc (.cells #[a, b] 62)) := ⟨new_heap _ _, (Fr.refl _ _).alloc _⟩
theorem neq_word (a b : Int) (w : World) : (binOp BinOp.neq 62 (.agg #[.int .u32 a, .int .i64 b]) (.agg #[.int .u32 a, .int .i64 b])).run Try.prog w = .ok (.bool false) w := by
  have u3 := Try.underlying3
  have u32 := Try.underlying32
  have hS : Try.prog.underlying 62 = some (.struct (Try.prog.fieldsOf 62)) := by kernel_rfl
  have he : (Op.equalIn 10000 62 (.agg #[.int .u32 a, .int .i64 b]) (.agg #[.int .u32 a, .int .i64 b])).run Try.prog w = .ok true w := by
    rw [show (10000 : Nat) = 9999 + 1 from rfl, run_equalIn_agg w 9999 62 _ _ hS (by kernel_rfl)]
    simp only [Program.fieldsOf, Try.underlying62]
    go_simp
  have he' : (Op.equalIn Op.maxDepth 62 (.agg #[.int .u32 a, .int .i64 b]) (.agg #[.int .u32 a, .int .i64 b])).run Try.prog w = .ok true w := he
  simp [binOp, Op.equal, he']
/-- The copy of the lengths, with two numbers behind. -/
theorem ints_two (w : World) (v : Value) (zs : List Int) (h : SlR RI (fun _ => False) v zs w) (hl : zs.length ≤ 17592186043904) :
    ∃ g c W g' c' W', Hid (∀ ty, (Builtin.append_ #[54, 54] ty #[.slice (some ⟨w.heap.size, 0, none⟩) 0 0, v]).run Try.prog (w.alloc (.cells #[] 3)) = .ok (.slice (some ⟨g, 0, none⟩) zs.length c) W) ∧
      Hid (∀ ty, (Builtin.append_ #[54, 54] ty #[.slice (some ⟨g, 0, none⟩) zs.length c, .slice (some ⟨W.heap.size, 0, none⟩) 2 2]).run Try.prog (W.alloc (.cells #[.int .i64 77, .int .i64 78] 3)) = .ok (.slice (some ⟨g', 0, none⟩) (zs.length + 2) c') W') ∧
      OwR RI g' (.slice (some ⟨g', 0, none⟩) (zs.length + 2) c') (zs ++ [77, 78]) W' ∧ Nw w W' ∧ w.heap.size ≤ g' := by
  obtain ⟨g, c, W, k1, k2, k3, k4⟩ := ints_copy w v zs h hl
  have hb := OwR.built riOk W [77, 78] #[.int .i64 77, .int .i64 78] (by simp [flatR, RI]) (by simp)
  have hN : Nw W (W.alloc (.cells #[.int .i64 77, .int .i64 78] 3)) := (Fr.refl _ _).alloc _
  obtain ⟨v', g', W', q1, q2, q3, q4⟩ := owR_app riOk _ g _ zs (k2.nw hN) (.slice (some ⟨W.heap.size, 0, none⟩) 2 2) [77, 78] ((hb.slr riOk).mono (fun _ h => h.elim)) (by simp [RI]; omega) (by simp; omega)
  obtain ⟨c', e, _, _⟩ := q2.form
  rw [List.length_append] at e
  subst e
  refine ⟨g, c, W, g', c', W', k1, q1, q2, Fr.then (k3.trans hN) q3 (fun i hi => .inr (by omega)), ?_⟩
  have := k3.size
  rcases q4 with e | e
  · omega
  · have e2 : (W.alloc (.cells #[.int .i64 77, .int .i64 78] 3)).heap.size = W.heap.size + 1 := by simp
    omega
theorem OwR.cutI {g L c : Nat} {zs ys : List Int} {w : World} (h : OwR RI g (.slice (some ⟨g, 0, none⟩) L c) (zs ++ ys) w) (hL : zs.length + ys.length = L) : OwR RI g (.slice (some ⟨g, 0, none⟩) zs.length c) zs w := by
  obtain ⟨xs, h1, h2, h3, h4, h5⟩ := h
  rw [List.length_append] at h1 h2 h3
  refine ⟨xs, ?_, ?_, by omega, h4, h5⟩
  · have : c = xs.length := by
      generalize xs.length = q at h1
      cases h1
      rfl
    rw [this]
  · have e : (xs.take (zs.length + ys.length)).take zs.length = (zs ++ ys).take zs.length := by rw [h2]
    rw [List.take_take, Nat.min_eq_left (by omega), List.take_left] at e
    exact e
/-- How the copy is written over: from I on it is as it was. -/
def OvI (zs : List Int) (gm I : Nat) (w1 wr : World) : Prop := ∃ xs, SwR RI gm xs wr ∧ (∀ j, I ≤ j → j < zs.length → xs[j]? = zs[j]?) ∧ Fr (fun k => k = gm) w1 wr
theorem OvI.start {gm L c : Nat} {zs ys : List Int} {w : World} (h : OwR RI gm (.slice (some ⟨gm, 0, none⟩) L c) (zs ++ ys) w) : OvI zs gm 0 w w := by
  obtain ⟨xs, h1, h2, h3, h4, h5⟩ := h
  refine ⟨xs, h5, fun j _ hj => ?_, Fr.refl _ _⟩
  have e : (xs.take (zs ++ ys).length)[j]? = (zs ++ ys)[j]? := by rw [h2]
  rw [List.getElem?_take, if_pos (by simp; omega), List.getElem?_append_left hj] at e
  exact e
theorem OvI.at {gm I : Nat} {zs : List Int} {w1 wr : World} (h : OvI zs gm I w1 wr) (x : Int) (hx : zs[I]? = some x) : wr.cell? ⟨gm, I, none⟩ = some (.int .i64 x) ∧ wr.frozen? ⟨gm, I, none⟩ = false := by
  obtain ⟨xs, h1, h2, h3⟩ := h
  have := h2 I (Nat.le_refl _) (List.getElem?_eq_some_iff.1 hx).1
  have a := h1.cell riOk I 0 x _ (by rw [this]; exact hx) rfl
  rw [show RI.k = 1 from rfl, Nat.mul_one, Nat.add_zero] at a
  exact a
theorem OvI.step {gm I : Nat} {zs : List Int} {w1 wr : World} (h : OvI zs gm I w1 wr) (V : World) (hV : Nw wr V) : OvI zs gm (I + 1) w1 (V.setCell ⟨gm, I, none⟩ (.int .i64 3)) := by
  obtain ⟨xs, h1, h2, h3⟩ := h
  have h1' : SwR RI gm xs V := h1.kept hV (fun h => h)
  refine ⟨xs.set I 3, h1'.set1 I 3, fun j hj hl => ?_, (h3.trans hV.any).setCell _ _ (.inl rfl)⟩
  rw [List.getElem?_set_ne (by omega)]
  exact h2 j (by omega) hl
end Go.Proofs.Ytkpkiajehclbhaa

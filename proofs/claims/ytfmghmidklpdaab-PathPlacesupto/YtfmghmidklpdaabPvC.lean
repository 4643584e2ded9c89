import Derived.Test.YtfmghmidklpdaabPvB
namespace Go.Proofs.Ytfmghmidklpdaab
open Go.RowKit
set_option linter.unusedVariables false
/-- How the document's loop over pieces stands. -/
def QsI (ps : List Tx) (w : World) (I g n c : Nat) (B : Bool) (V : World) : Prop := OwR RS g (.slice (some ⟨g, 0, none⟩) n c) ((ps.take I).filter ns) V ∧ ((ps.take I).filter ns).length = n ∧ w.heap.size ≤ g ∧ Nw w V ∧ ([46, 46] : Tx) ∉ ps.take I ∧ B = tlF ((ps.take I).filter ns)
theorem QsI.start (ps : List Tx) (w : World) : QsI ps w 0 w.heap.size 0 0 false (w.alloc (.cells #[] 9)) := by
  refine ⟨?_, by simp, Nat.le_refl _, (Fr.refl _ _).alloc _, by simp, by simp [tlF]⟩
  simp only [List.take_zero, List.filter_nil]
  exact OwR.empty (R := RS) w
theorem QsI.skip {ps : List Tx} {w : World} {I g n c : Nat} {B : Bool} {V : World} (h : QsI ps w I g n c B V) (hI : I < ps.length) (hs : stays ps[I] = true) : QsI ps w (I + 1) g n c B V := by
  obtain ⟨h1, h2, h3, h4, h5, h6⟩ := h
  have e : (ps.take (I + 1)).filter ns = (ps.take I).filter ns := by
    rw [List.take_add_one, List.getElem?_eq_getElem hI, Option.toList_some, List.filter_append]; simp [ns, hs]
  unfold QsI
  rw [e]
  refine ⟨h1, h2, h3, h4, ?_, h6⟩
  rw [List.take_add_one, List.getElem?_eq_getElem hI, Option.toList_some, List.mem_append, List.mem_singleton, not_or]
  exact ⟨h5, fun e => by rw [← e] at hs; cases hs⟩
theorem QsI.push {ps : List Tx} {w : World} {I g n c : Nat} {B : Bool} {V : World} (h : QsI ps w I g n c B V) (hI : I < ps.length) (hp : ps.length ≤ 5000) (hs : stays ps[I] = false) (hu : ps[I] ≠ [46, 46]) :
    ∃ g' c' W, Hid (∀ ty, (Builtin.append_ #[22, 22] ty #[.slice (some ⟨g, 0, none⟩) n c, .slice (some ⟨V.heap.size, 0, none⟩) 1 1]).run Try.prog (V.alloc (.cells #[.string (mk ps[I])] 9)) = .ok (.slice (some ⟨g', 0, none⟩) (n + 1) c') W) ∧ Hid (QsI ps w (I + 1) g' (n + 1) c' (B || decide (255 < ps[I].length)) W) ∧ n + 1 ≤ c' ∧ c' < 9223372036854775808 ∧ Fr (fun k => k = g) V W ∧ n ≤ 5000 := by
  obtain ⟨h1, h2, h3, h4, h5, h6⟩ := h
  have hn : n ≤ 5000 := by
    have := List.length_filter_le ns (ps.take I)
    rw [List.length_take] at this
    omega
  obtain ⟨g', c', W, a1, a2, a3, a4, a5, a6⟩ := pushS V g n c _ h1 h2 (by omega) ps[I]
  have e : (ps.take (I + 1)).filter ns = (ps.take I).filter ns ++ [ps[I]] := by
    rw [List.take_add_one, List.getElem?_eq_getElem hI, Option.toList_some, List.filter_append]; simp [ns, hs]
  refine ⟨g', c', W, a1, ?_, a5, a6, a3, hn⟩
  show QsI _ _ _ _ _ _ _ _
  unfold QsI
  rw [e]
  refine ⟨a2, by rw [List.length_append, h2]; rfl, ?_, Fr.then h4 a3 (fun i hi => .inr (by omega)), ?_, ?_⟩
  · have := h4.size
    rcases a4 with e | e <;> omega
  · rw [List.take_add_one, List.getElem?_eq_getElem hI, Option.toList_some, List.mem_append, List.mem_singleton, not_or]
    exact ⟨h5, fun e => hu e.symm⟩
  · rw [h6]; unfold tlF; rw [List.any_append]; simp
end Go.Proofs.Ytfmghmidklpdaab

import Derived.Test.YtfmghmidklpdaabPyB
namespace Go.Proofs.Ytfmghmidklpdaab
open Go.RowKit
set_option linter.unusedVariables false
theorem NewS.empty (w : World) : NewS w (some ⟨w.heap.size, 0, Option.none⟩) 0 0 [] (w.alloc (.cells #[] 9)) := ⟨some w.heap.size, OwR.empty (R := RS) w, fun g hg => by injection hg with hg; omega, (Fr.refl _ _).alloc _⟩
/-- Two lists, one behind the other. -/
theorem bothS (w : World) (aa pa : Option Addr) (A N ac pc : Nat) (d p : List Tx) (ha : SlR RS (fun _ => False) (.slice aa A ac) d w) (hp : SlR RS (fun _ => False) (.slice pa N pc) p w) (hA : d.length = A) (hN : p.length = N) (hs : A + N ≤ 1000000000000) :
    ∃ a1 c1 W1 a2 c2 W2, Hid (∀ ty, (Builtin.append_ #[22, 22] ty #[.slice (some ⟨w.heap.size, 0, none⟩) 0 0, .slice aa A ac]).run Try.prog (w.alloc (.cells #[] 9)) = .ok (.slice a1 A c1) W1) ∧
      Hid (∀ ty, (Builtin.append_ #[22, 22] ty #[.slice a1 A c1, .slice pa N pc]).run Try.prog W1 = .ok (.slice a2 (d ++ p).length c2) W2) ∧ NewS w a2 (d ++ p).length c2 (d ++ p) W2 := by
  subst hA hN
  have h0 := NewS.empty w
  obtain ⟨a1, c1, W1, k1, h1⟩ := h0.app _ d (ha.nw h0.nw) (by simp; omega)
  rw [List.nil_append] at k1 h1
  obtain ⟨a2, c2, W2, k2, h2⟩ := h1.app _ p (hp.nw h1.nw) (by omega)
  exact ⟨a1, c1, W1, a2, c2, W2, k1, k2, h2⟩
theorem take_upto (l m : List Tx) (k : Nat) (h : m.length ≤ l.length) (hk : k = m.length) (he : ∀ j, j < k → l[j]? = m[j]?) : l.take m.length = m := by
  apply List.ext_getElem?
  intro i
  by_cases hi : i < m.length
  · rw [List.getElem?_take_of_lt hi]; exact he i (by omega)
  · rw [List.getElem?_eq_none (by rw [List.length_take]; omega), List.getElem?_eq_none (by omega)]
end Go.Proofs.Ytfmghmidklpdaab

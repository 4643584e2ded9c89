import Derived.Test.YtpnacppmdlnjlabMaE
namespace Go.Proofs.Ytpnacppmdlnjlab
open Go.RowKit
set_option linter.unusedVariables false
/-- How many plain bytes sequences come to. -/
def tot : List Si → Nat
  | [] => 0
  | s :: r => s.p.length + s.n.toNat + tot r
theorem tot_append (x y : List Si) : tot (x ++ y) = tot x + tot y := by
  induction x with
  | nil => simp [tot]
  | cons s r ih => simp only [List.cons_append, tot, ih]; omega
theorem tot_step (l : List Si) (I : Nat) (h : I < l.length) : tot (l.take (I + 1)) = tot (l.take I) + (l[I].p.length + l[I].n.toNat) := by
  rw [← List.take_append_getElem h, tot_append]
  simp [tot]
theorem tot_take (l : List Si) (I : Nat) : tot (l.take I) ≤ tot l := by
  conv => rhs; rw [← List.take_append_drop I l, tot_append]
  omega
theorem CanB.pos {l : List Si} (h : CanB l) (s : Si) (hs : s ∈ l) : 0 ≤ s.n := by
  obtain ⟨i, hi, rfl⟩ := List.mem_iff_getElem.1 hs
  by_cases h2 : i + 1 < l.length
  · have := (h.2.1 i h2).2.2; omega
  · have hl := h.2.2 (by omega)
    have e : l.length - 1 = i := by omega
    simp only [e] at hl
    rw [hl.2]; omega
end Go.Proofs.Ytpnacppmdlnjlab

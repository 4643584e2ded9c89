import Derived.Test.YtfmghmidklpdaabPvA
namespace Go.Proofs.Ytfmghmidklpdaab
open Go.RowKit
set_option linter.unusedVariables false
/-- What Split answers. -/
def SpA (w : World) (l : Tx) (a : Option Addr) (n c : Nat) (w' : World) : Prop := ∃ og, OgR RS og (.slice a n c) (splF l).1 w' ∧ (∀ g, og = some g → w.heap.size ≤ g) ∧ Nw w w'
theorem SpA.none {w w' : World} {l : Tx} (h : splE l ≠ 0) (hN : Nw w w') : SpA w l .none 0 0 w' := ⟨.none, by unfold splF; rw [if_neg h]; exact ⟨rfl, rfl⟩, fun g hg => (by cases hg), hN⟩
theorem cps_len (l : Tx) (hl : l.length ≤ 4096) : (pcs l).length ≤ 4097 ∧ (cps l).length ≤ 4097 := by
  have h1 := pcs_len l
  have h2 : (cps l).length ≤ (pcs l).length := List.length_filter_le _ _
  omega
theorem tot_mem {p : Tx} {ps : List Tx} (h : p ∈ ps) : p.length ≤ tot ps := by
  induction ps with
  | nil => cases h
  | cons q r ih =>
    rw [tot]
    rcases List.mem_cons.1 h with e | e
    · subst e; omega
    · have := ih e; omega
end Go.Proofs.Ytfmghmidklpdaab

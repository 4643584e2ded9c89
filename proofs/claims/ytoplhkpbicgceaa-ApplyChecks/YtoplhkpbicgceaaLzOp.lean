import Derived.Test.YtoplhkpbicgceaaLzB
import Derived.WalkKit
import Derived.ProofKit
import Derived.OpenShut
import Derived.ChangeOld
import Derived.Below
import Derived.ChangeSlices
import Derived.Deep.SlicePairs
import Derived.SizedLaws
namespace Go.Proofs.Ytoplhkpbicgceaa
open Go.ChangeShapes Go.WideShapes Go.ChangeAt Go.RowKit Go.Deep
set_option linter.unusedVariables false
theorem cells5 : Try.prog.cellsOf 5 = 1 := by kernel_rfl
theorem bytes5 : Try.prog.bytesOf 5 = 1 := by kernel_rfl
theorem own : ownKnob Try.prog.godebug = none := by kernel_rfl
theorem laidOut : laidOutB Try.prog = true := by kernel_rfl
theorem byte_of {n : Int} (h : (Lit.int .u8 n).wf = true) : (.int .u8 n : Value) = .int .u8 (BitVec.ofNat 8 n.toNat).toNat := by
  have hb : 0 ≤ n ∧ n < 256 := by
    simp [Lit.wf, IntKind.bits, IntKind.signed, IntKind.min, IntKind.max] at h
    omega
  congr 1
  rw [BitVec.toNat_ofNat]; omega
/-- A slice of bytes that came in. -/
theorem openedB {H : Type} {enc : TypeId × Value → H} {W : World} {a : Option Addr} {len cap : Nat} {d : DataW H} {p : List MemPlace} (h : DataW.Trod enc Try.prog W 0 (fun _ => true) true 27 (.slice a len cap) d p) :
    ∃ l : List By, Sl (fun k => W.heap.size ≤ k) (.slice a len cap) l W ∧ l.length = len ∧ (len = 0 ∨ ∃ e s, d = .slice e s ∧ e.length = len) := by
  obtain ⟨fuel, hf⟩ := h
  rcases open_ints (k := .u8) Try.underlying27 Try.underlying5 cells5 hf with ⟨hcs, _⟩ | ⟨x, l, c, zs, hcs, _, hl, hm, hz, hd, hc, hw⟩
  · simp [Value.cells] at hcs
    obtain ⟨rfl, rfl, rfl⟩ := hcs
    exact ⟨[], .inl ⟨none, rfl, rfl⟩, rfl, .inl rfl⟩
  · simp [Value.cells] at hcs
    obtain ⟨rfl, rfl, rfl⟩ := hcs
    simp only [if_true] at hz
    have hlen : ((zs.take len).map (fun n => BitVec.ofNat 8 n.toNat)).length = len := by simp; omega
    refine ⟨(zs.take len).map (fun n => BitVec.ofNat 8 n.toNat), ?_, hlen, .inr ⟨_, _, (Prod.ext_iff.1 hd).1, by simp [lits]; omega⟩⟩
    by_cases h0 : cap = 0
    · subst h0
      obtain rfl : len = 0 := by omega
      exact .inl ⟨_, rfl, by simp⟩
    · obtain ⟨b, off, spot⟩ := x
      have hc0 := hc 0 (by omega)
      have hspot : spot = none := by simpa [Addr.add] using World.cell?_spot hc0
      subst hspot
      have hb : b < W.heap.size := by have := World.block_lt_of_cell? _ _ hc0; simpa [Addr.add] using this
      refine .inr ⟨b, by omega, off, cap, by rw [hlen], by rw [hlen]; exact hl, by unfold maxLen at hm; omega, ?_⟩
      intro j hj
      rw [hlen] at hj
      have hcj := hc j (by omega)
      rw [add_plain] at hcj
      rw [hcj]
      simp only [List.getElem_map, List.getElem_take]
      have hmem : zs.getD j 0 ∈ zs := by
        rw [List.getD_eq_getElem?_getD, List.getElem?_eq_getElem (show j < zs.length by omega)]; simp
      rw [byte_of (hw _ hmem)]
      simp [List.getD_eq_getElem?_getD, List.getElem?_eq_getElem (show j < zs.length by omega)]
end Go.Proofs.Ytoplhkpbicgceaa

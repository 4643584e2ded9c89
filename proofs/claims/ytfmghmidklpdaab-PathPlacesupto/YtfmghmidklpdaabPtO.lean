import Derived.Test.YtfmghmidklpdaabPtE
import Derived.Test.YtfmghmidklpdaabRows
import Derived.WalkKit
import Derived.ProofKit
import Derived.OpenShut
import Derived.ChangeOld
import Derived.Below
import Derived.ChangeSlices
import Derived.SliceStrings
import Derived.ChangeMaps5
import Derived.SizedLaws
namespace Go.Proofs.Ytfmghmidklpdaab
open Go.ChangeShapes Go.WideShapes Go.ChangeAt Go.RowKit
set_option linter.unusedVariables false
theorem cells9 : Try.prog.cellsOf 9 = 1 := by kernel_rfl
theorem bytes9 : Try.prog.bytesOf 9 = 16 := by kernel_rfl
theorem own : ownKnob Try.prog.godebug = none := by kernel_rfl
theorem laidOut : laidOutB Try.prog = true := by kernel_rfl
/-- Texts that came in, as data. -/
def dats {H : Type} (l : List Tx) : List (DataW H) := l.map (fun x => .lit (.string x))
theorem dats_length {H : Type} (l : List Tx) : (dats (H := H) l).length = l.length := by simp [dats]
theorem tot_bulk {H : Type} (l : List Tx) : tot l = Rows.uptoBulkAll (dats (H := H) l) := by
  induction l with
  | nil => rfl
  | cons x r ih =>
    show x.length + 1 + tot r = Rows.uptoBulk (.lit (.string x) : DataW H) + Rows.uptoBulkAll (dats r)
    rw [ih]; rfl
theorem bulk_pos {H : Type} (d : DataW H) : 1 ≤ Rows.uptoBulk d := by
  cases d with
  | lit v => cases v <;> simp [Rows.uptoBulk]
  | _ => simp [Rows.uptoBulk]
/-- A list of texts that came in. -/
theorem openedS {H : Type} {enc : TypeId × Value → H} {W : World} {a : Option Addr} {len cap : Nat} {d : DataW H} {p : List MemPlace} (h : DataW.Trod enc Try.prog W 0 (fun _ => true) true 22 (.slice a len cap) d p) :
    ∃ l : List Tx, OldS W (.slice a len cap) l ∧ l.length = len ∧ (l = [] ∨ ∃ s, d = .slice (dats l) s) := by
  obtain ⟨fuel, hf⟩ := h
  rcases open_strings Try.underlying22 Try.underlying9 cells9 hf with ⟨hcs, _⟩ | ⟨x, l, c, ss, hcs, _, hl, hm, hz, hd, hc, hw⟩
  · simp [Value.cells] at hcs
    obtain ⟨rfl, rfl, rfl⟩ := hcs
    exact ⟨[], .inl ⟨none, rfl, rfl⟩, rfl, .inl rfl⟩
  · simp [Value.cells] at hcs
    obtain ⟨rfl, rfl, rfl⟩ := hcs
    simp only [if_true] at hz
    have hlen : ((ss.take len).map (fun s => s.data.toList)).length = len := by simp; omega
    refine ⟨(ss.take len).map (fun s => s.data.toList), ?_, hlen, .inr ⟨strs (ss.drop len), ?_⟩⟩
    · by_cases h0 : cap = 0
      · subst h0
        obtain rfl : len = 0 := by omega
        exact .inl ⟨_, rfl, by simp⟩
      · obtain ⟨b, off, spot⟩ := x
        have hc0 := hc 0 (by omega)
        have hspot : spot = none := by simpa [Addr.add] using World.cell?_spot hc0
        subst hspot
        have hb : b < W.heap.size := by have := World.block_lt_of_cell? _ _ hc0; simpa [Addr.add] using this
        refine .inr ⟨b, off, cap, by omega, by rw [hlen], by rw [hlen]; exact hl, by unfold maxLen at hm; omega, ?_⟩
        intro i y j u hy hu
        have hi : i < len := by
          have := (List.getElem?_eq_some_iff.1 hy).1
          omega
        obtain ⟨rfl, rfl⟩ : j = 0 ∧ u = .string (mk y) := by
          cases j with
          | zero => simp [RS] at hu; exact ⟨rfl, hu.symm⟩
          | succ j => simp [RS] at hu
        have hci := hc i (by omega)
        rw [add_plain] at hci
        simp only [RS, Nat.mul_one, Nat.add_zero]
        rw [hci]
        have hsi : i < ss.length := by omega
        rw [List.getElem?_map, List.getElem?_take_of_lt hi, List.getElem?_eq_getElem hsi] at hy
        simp only [Option.map_some, Option.some.injEq] at hy
        rw [List.getD_eq_getElem?_getD, List.getElem?_eq_getElem hsi]
        subst hy
        rfl
    · have := (Prod.ext_iff.1 hd).1
      simp only at this
      rw [this]
      congr 1
      unfold strs dats
      rw [List.map_map]
      rfl
end Go.Proofs.Ytfmghmidklpdaab

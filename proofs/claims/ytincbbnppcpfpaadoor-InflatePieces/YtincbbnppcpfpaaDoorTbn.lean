import Derived.Test.YtincbbnppcpfpaaDoorTbm
import Derived.Test.YtincbbnppcpfpaaDoorTak
namespace Go.Proofs.YtincbbnppcpfpaaDoor
open Go.ChangeShapes Go.WideShapes Go.ChangeAt Go.RowKit Go.Deep
set_option linter.unusedVariables false
theorem cells3 : Tryd.prog.cellsOf 3 = 1 := by kernel_rfl
theorem bytes3 : Tryd.prog.bytesOf 3 = 8 := by kernel_rfl
/-- A slice of numbers that came in. -/
theorem openedN {H : Type} {enc : TypeId × Value → H} {W : World} {a : Option Addr} {len cap : Nat} {d : DataW H} {p : List MemPlace} (h : DataW.Trod enc Tryd.prog W 0 (fun _ => true) true 42 (.slice a len cap) d p) :
    ∃ l : List Int, SlR RI (fun k => W.heap.size ≤ k) (.slice a len cap) l W ∧ l.length = len ∧ (len = 0 ∨ ∃ e s, d = .slice e s ∧ e.length = len) := by
  obtain ⟨fuel, hf⟩ := h
  rcases open_ints (k := .i64) Tryd.underlying42 Tryd.underlying3 cells3 hf with ⟨hcs, _⟩ | ⟨x, l, c, zs, hcs, _, hl, hm, hz, hd, hc, hw⟩
  · simp [Value.cells] at hcs
    obtain ⟨rfl, rfl, rfl⟩ := hcs
    exact ⟨[], .inl ⟨none, rfl, rfl⟩, rfl, .inl rfl⟩
  · simp [Value.cells] at hcs
    obtain ⟨rfl, rfl, rfl⟩ := hcs
    simp only [if_true] at hz
    have hlen : (zs.take len).length = len := by simp; omega
    refine ⟨zs.take len, ?_, hlen, .inr ⟨_, _, (Prod.ext_iff.1 hd).1, by simp [lits]; omega⟩⟩
    by_cases h0 : cap = 0
    · subst h0
      obtain rfl : len = 0 := by omega
      exact .inl ⟨_, rfl, by simp⟩
    · obtain ⟨b, off, spot⟩ := x
      have hc0 := hc 0 (by omega)
      have hspot : spot = none := by simpa [Addr.add] using World.cell?_spot hc0
      subst hspot
      have hb : b < W.heap.size := by have := World.block_lt_of_cell? _ _ hc0; simpa [Addr.add] using this
      refine .inr ⟨b, off, cap, by omega, by rw [hlen], by rw [hlen]; exact hl, by unfold maxLen at hm; omega, ?_⟩
      intro i x j u hi hj
      have hil : i < len := by have := (List.getElem?_eq_some_iff.1 hi).1; rw [hlen] at this; exact this
      have hj0 : j = 0 := by
        have := (List.getElem?_eq_some_iff.1 hj).1
        simp [RI] at this; omega
      subst hj0
      have hcj := hc i (by omega)
      rw [add_plain] at hcj
      have e1 : off + i * RI.k + 0 = off + i := by simp [RI]
      rw [e1, hcj]
      simp [RI] at hj
      rw [← hj]
      rw [List.getElem?_take, if_pos hil] at hi
      rw [List.getD_eq_getElem?_getD, hi]; rfl
end Go.Proofs.YtincbbnppcpfpaaDoor

namespace Go.Proofs.YtincbbnppcpfpaaDoor
open Go.ChangeShapes Go.WideShapes Go.ChangeAt Go.RowKit Go.Deep
set_option linter.unusedVariables false
theorem wf64 {z : Int} (h : (Lit.int .i64 z).wf = true) : -9223372036854775808 ≤ z ∧ z < 9223372036854775808 := by
  have h1 : IntKind.i64.min = -9223372036854775808 := by decide
  have h2 : IntKind.i64.max = 9223372036854775807 := by decide
  simp [Lit.wf] at h
  omega
/-- A slice of numbers that came in. -/
theorem openedNw {H : Type} {enc : TypeId × Value → H} {W : World} {a : Option Addr} {len cap : Nat} {d : DataW H} {p : List MemPlace} (h : DataW.Trod enc Tryd.prog W 0 (fun _ => true) true 42 (.slice a len cap) d p) :
    ∃ l : List Int, SlR RI (fun k => W.heap.size ≤ k) (.slice a len cap) l W ∧ l.length = len ∧ (len = 0 ∨ ∃ e s, d = .slice e s ∧ e.length = len) ∧ ∀ z ∈ l, -9223372036854775808 ≤ z ∧ z < 9223372036854775808 := by
  obtain ⟨fuel, hf⟩ := h
  rcases open_ints (k := .i64) Tryd.underlying42 Tryd.underlying3 cells3 hf with ⟨hcs, _⟩ | ⟨x, l, c, zs, hcs, _, hl, hm, hz, hd, hc, hw⟩
  · simp [Value.cells] at hcs
    obtain ⟨rfl, rfl, rfl⟩ := hcs
    exact ⟨[], .inl ⟨none, rfl, rfl⟩, rfl, .inl rfl, fun z hz => by cases hz⟩
  · simp [Value.cells] at hcs
    obtain ⟨rfl, rfl, rfl⟩ := hcs
    simp only [if_true] at hz
    have hlen : (zs.take len).length = len := by simp; omega
    refine ⟨zs.take len, ?_, hlen, .inr ⟨_, _, (Prod.ext_iff.1 hd).1, by simp [lits]; omega⟩, fun z hz => wf64 (hw z (List.mem_of_mem_take hz))⟩
    by_cases h0 : cap = 0
    · subst h0
      obtain rfl : len = 0 := by omega
      exact .inl ⟨_, rfl, by simp⟩
    · obtain ⟨b, off, spot⟩ := x
      have hc0 := hc 0 (by omega)
      have hspot : spot = none := by simpa [Addr.add] using World.cell?_spot hc0
      subst hspot
      have hb : b < W.heap.size := by have := World.block_lt_of_cell? _ _ hc0; simpa [Addr.add] using this
      refine .inr ⟨b, off, cap, by omega, by rw [hlen], by rw [hlen]; exact hl, by unfold maxLen at hm; omega, ?_⟩
      intro i x j u hi hj
      have hil : i < len := by have := (List.getElem?_eq_some_iff.1 hi).1; rw [hlen] at this; exact this
      have hj0 : j = 0 := by
        have := (List.getElem?_eq_some_iff.1 hj).1
        simp [RI] at this; omega
      subst hj0
      have hcj := hc i (by omega)
      rw [add_plain] at hcj
      have e1 : off + i * RI.k + 0 = off + i := by simp [RI]
      rw [e1, hcj]
      simp [RI] at hj
      rw [← hj]
      rw [List.getElem?_take, if_pos hil] at hi
      rw [List.getD_eq_getElem?_getD, hi]; rfl
end Go.Proofs.YtincbbnppcpfpaaDoor

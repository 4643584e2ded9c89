import Derived.Test.YtpnacppmdlnjlabEnC
import Derived.Test.YtpnacppmdlnjlabEnB
import Derived.Laws.Cover3
import Derived.Laws.Rows
namespace Go.Proofs.Ytpnacppmdlnjlab
open Go.RowKit
set_option linter.unusedVariables false
/-- The places of a text, with all ahead of nx noted. -/
structure PLs (pb gT cT nb fb nx : Nat) (T : List By) (w : World) : Prop where
  blk : w.heap[pb]? = some (.cells #[.slice (some ⟨gT, 0, none⟩) T.length cT, .map (some nb), .map (some fb), .int .i64 nx] 53)
  txt : Rd gT 0 T w
  near : MpO nb (ups T nx).1 nx w
  far : MpO fb (ups T nx).2 nx w
  d1 : nb ≠ fb
  d2 : pb ≠ nb
  d3 : pb ≠ fb
  d4 : gT ≠ pb
  d5 : gT ≠ nb
  d6 : gT ≠ fb
  tl : T.length ≤ cT
  tc : cT < 9223372036854775808
theorem PLs.nw {pb gT cT nb fb nx : Nat} {T : List By} {w w' : World} (h : PLs pb gT cT nb fb nx T w) (f : Nw w w') : PLs pb gT cT nb fb nx T w' :=
  ⟨f.heap h.blk, fun j hj => f.cell (h.txt j hj), h.near.nw f, h.far.nw f, h.d1, h.d2, h.d3, h.d4, h.d5, h.d6, h.tl, h.tc⟩
theorem PLs.cell {pb gT cT nb fb nx : Nat} {T : List By} {w : World} (h : PLs pb gT cT nb fb nx T w) : w.cell? ⟨pb, 0, none⟩ = some (.slice (some ⟨gT, 0, none⟩) T.length cT) ∧ w.cell? ⟨pb, 1, none⟩ = some (.map (some nb)) ∧ w.cell? ⟨pb, 2, none⟩ = some (.map (some fb)) ∧ w.cell? ⟨pb, 3, none⟩ = some (.int .i64 nx) := by
  have := h.blk
  refine ⟨?_, ?_, ?_, ?_⟩ <;> simp [World.cell?, this]
theorem PLs.froz {pb gT cT nb fb nx : Nat} {T : List By} {w : World} (h : PLs pb gT cT nb fb nx T w) (j : Nat) : w.frozen? ⟨pb, j, none⟩ = false := by
  have := h.blk
  simp [World.frozen?, this]
theorem kat_four {T : List By} {p : Nat} (hp : p + 4 ≤ T.length) : kat T p = [T[p], T[p + 1], T[p + 2], T[p + 3]] := by
  unfold kat
  rw [List.drop_eq_getElem_cons (by omega), List.drop_eq_getElem_cons (by omega), List.drop_eq_getElem_cons (by omega), List.drop_eq_getElem_cons (by omega)]
  rfl
theorem kat_len {T : List By} {p : Nat} (hp : p + 4 ≤ T.length) : (kat T p).length = 4 := by rw [kat_four hp]; rfl
theorem keySize : (Try.prog.info? 67).map (·.size) = some 4 := by kernel_rfl
set_option maxHeartbeats 4000000 in
set_option maxRecDepth 100000 in
theorem key_cells (V : World) (pb gT cT : Nat) (T : List By) (c0 : V.cell? ⟨pb, 0, none⟩ = some (.slice (some ⟨gT, 0, none⟩) T.length cT)) (htx : Rd gT 0 T V) (htl : T.length ≤ cT) (htc : cT < 9223372036854775808) (hpl : pb < V.heap.size) (p : Nat) (hp : p + 4 ≤ T.length) (hT : T.length ≤ 100000000) :
    Calls Try.prog 24 #[.pointer (some ⟨pb, 0, none⟩), .int .i64 p] V fun e w' => e = .returned (kv (kat T p)) ∧ Nw V w' := by
  obtain ⟨P, hP⟩ : ∃ P : Ending → World → Prop, P = fun e w' => e = .returned (kv (kat T p)) ∧ Nw V w' := ⟨_, rfl⟩
  rw [← hP]
  have HP : Hid (P = fun e w' => e = .returned (kv (kat T p)) ∧ Nw V w') := hP
  clear hP
  have hf : Hid (∀ W, Nw V W → P (.returned (.agg #[.int .u8 T[p].toNat, .int .u8 T[p + 1].toNat, .int .u8 T[p + 2].toNat, .int .u8 T[p + 3].toNat])) W) := fun W hW => by
    rw [HP.out]
    refine ⟨?_, hW⟩
    rw [kat_four hp]; rfl
  have x0 := htx p (by omega)
  have x1 := htx (p + 1) (by omega)
  have x2 := htx (p + 2) (by omega)
  have x3 := htx (p + 3) (by omega)
  rw [Nat.zero_add] at x0 x1 x2 x3
  have hgl : gT < V.heap.size := by have := World.block_lt_of_cell? _ _ x0; simpa using this
  clear HP htx
  simp only [bv] at x0 x1 x2 x3
  generalize T[p].toNat = a at *
  generalize T[p + 1].toNat = b at *
  generalize T[p + 2].toNat = c at *
  generalize T[p + 3].toNat = d at *
  generalize T.length = N at *
  have hz1 : (p : Int) ≤ (N : Int) := by omega
  have hz2 : ¬ cT = p := by omega
  have hz3 : 4 ≤ N - p := by omega
  have hz4 : ¬ N - p < 4 := by omega
  have hn1 : ¬ pb = V.heap.size := by omega
  have hn2 : ¬ gT = V.heap.size := by omega
  have hn3 : ¬ V.heap.size = gT := by omega
  have hat : ∀ W, (Instr.arrayAt 67 (.slice (some ⟨gT, p, none⟩) (N - p) (cT - p))).run Try.prog W = .ok (.pointer (some ⟨gT, p, none⟩)) W := fun W => run_arrayAt W 67 _ 4 _ (N - p) (cT - p) Try.underlying67 (by omega)
  have hA : Nw V (V.alloc (.cells #[.int .u8 0, .int .u8 0, .int .u8 0, .int .u8 0] 67)) := (Fr.refl _ _).alloc _
  go_enter Try.func24, Try.ntmps24
  go_wp2
  refine bodyPost_ret (results_cell_row (p := 4) (ty := 67) rfl _ _ V.heap.size 67 _ _ _ rfl (heap_alloc_new _ _) Try.underlying67 rfl keySize) rfl ?_
  exact hf.out _ ((Fr.refl _ _).alloc _)
theorem key_any (V : World) (pb gT cT nb fb nx : Nat) (T : List By) (h : PLs pb gT cT nb fb nx T V) (p : Nat) (hp : p + 4 ≤ T.length) (hT : T.length ≤ 100000000) :
    Calls Try.prog 24 #[.pointer (some ⟨pb, 0, none⟩), .int .i64 p] V fun e w' => e = .returned (kv (kat T p)) ∧ Nw V w' :=
  key_cells V pb gT cT T h.cell.1 h.txt h.tl h.tc (Array.getElem?_eq_some_iff.1 h.blk).1 p hp hT
end Go.Proofs.Ytpnacppmdlnjlab

import Derived.Test.YtegabbfdnpjkkaaRanA
namespace Go.Proofs.Ytegabbfdnpjkkaa
open Go.RowKit
set_option linter.unusedVariables false

/-! ### append at rows of ranges -/
theorem src_pairs (w : World) (g o m c : Nat) (ys : List Rg) (h : RowB g ys w) (ho : o + m ≤ ys.length) : Src Try.prog 2 45 (.slice (some ⟨g, o * 2, none⟩) m c) m (cellsL ((ys.drop o).take m)) w := by
  refine Src.ofSlice w Try.underlying45 ⟨g, o * 2, none⟩ m c _ (by rw [cellsL_length]; simp; omega) (fun j u hj => ?_) (cellsL_one _)
  rw [Addr.add_lit]
  refine h.at _ u ?_
  have hjl : j < m * 2 := by
    have := (List.getElem?_eq_some_iff.1 hj).1
    rw [cellsL_length] at this; simp at this; omega
  rw [← cellsL_take, ← cellsL_drop, List.getElem?_take, if_pos (by omega), List.getElem?_drop] at hj
  exact hj
theorem app_room (w : World) (ty : TypeId) (g o n c g' o' m c' : Nat) (xs ys : List Rg) (h : RowB g xs w) (h' : RowB g' ys w) (hroom : n + m ≤ c) (ho : o + n + m ≤ xs.length) (ho' : o' + m ≤ ys.length) :
    (Builtin.append_ #[45, 45] ty #[.slice (some ⟨g, o * 2, none⟩) n c, .slice (some ⟨g', o' * 2, none⟩) m c']).run Try.prog w = .ok (.slice (some ⟨g, o * 2, none⟩) (n + m) c) (w.setRow g (cellsL (spl xs (o + n) ((ys.drop o').take m))).toArray) := by
  obtain ⟨i, hi, hz, hs, hb⟩ := info49
  have hl := load_pairs w g' o' m ys h' ho'
  have hst := store_pairs w g (o + n) xs ((ys.drop o').take m) h (by simp; omega)
  rw [show (o + n) * 2 = o * 2 + n * 2 by omega] at hst
  simp [Builtin.append_, run_underlying Try.underlying45, sizeOf, typeInfo, hi, hs, Builtin.lenOf, Builtin.firstCells, hroom, Addr.add_lit, hl, hst]
theorem app_none (w : World) (ty : TypeId) (b : Option Addr) (n c : Nat) (hroom : n ≤ c) :
    (Builtin.append_ #[45, 45] ty #[.slice b n c, .slice none 0 0]).run Try.prog w = .ok (.slice b n c) w := by
  obtain ⟨i, hi, hz, hs, hb⟩ := info49
  cases b <;> simp [Builtin.append_, run_underlying Try.underlying45, sizeOf, typeInfo, hi, Builtin.lenOf, Builtin.firstCells, hroom, storeCells]
theorem row_array (A B : List Rg) (k : Nat) : ((cellsL A ++ cellsL B).toArray ++ Builtin.zeroCells (Value.agg #[.int .i64 0, .int .i64 0]).cells k) = (cellsL (A ++ B ++ List.replicate k (0, 0))).toArray := by
  apply Array.ext'
  rw [Array.toList_append, zeroCells_pairs]
  simp [cellsL_append]
theorem app_grow (w : World) (ty : TypeId) (g o n c g' o' m c' : Nat) (xs ys : List Rg) (h : RowB g xs w) (h' : RowB g' ys w) (hroom : c < n + m) (ho : o + n ≤ xs.length) (ho' : o' + m ≤ ys.length) (hbig : (n + m) * 16 ≤ 140737488355328) :
    (Builtin.append_ #[45, 45] ty #[.slice (some ⟨g, o * 2, none⟩) n c, .slice (some ⟨g', o' * 2, none⟩) m c']).run Try.prog w =
      .ok (.slice (some ⟨w.heap.size, 0, none⟩) (n + m) (grownCap w (n + m) c 49)) (w.drew.alloc (.cells (cellsL ((xs.drop o).take n ++ (ys.drop o').take m ++ List.replicate (grownCap w (n + m) c 49 - (n + m)) (0, 0))).toArray 49)) := by
  obtain ⟨i, hi, hz, hs, hb⟩ := info49
  have hold : (Builtin.firstCells i.size n (.slice (some ⟨g, o * 2, none⟩) n c)).run Try.prog w.drew = .ok (cellsL ((xs.drop o).take n)).toArray w.drew := by
    rw [hs]; exact load_pairs w.drew g o n xs h ho
  rw [run_append_grow_src w 45 45 ty 49 i _ Try.underlying45 hi hz (some ⟨g, o * 2, none⟩) n c _ hold _ m _ (by rw [hs]; exact src_pairs w g' o' m c' ys h' ho') hroom (by omega) (by rw [hb]; exact growslice_fits hroom hbig), row_array]
theorem app_new (w : World) (ty : TypeId) (g' o' m c' : Nat) (ys : List Rg) (h' : RowB g' ys w) (hm : 0 < m) (ho' : o' + m ≤ ys.length) (hbig : m * 16 ≤ 140737488355328) :
    (Builtin.append_ #[45, 45] ty #[.slice none 0 0, .slice (some ⟨g', o' * 2, none⟩) m c']).run Try.prog w =
      .ok (.slice (some ⟨w.heap.size, 0, none⟩) m (grownCap w m 0 49)) (w.drew.alloc (.cells (cellsL ((ys.drop o').take m ++ List.replicate (grownCap w m 0 49 - m) (0, 0))).toArray 49)) := by
  obtain ⟨i, hi, hz, hs, hb⟩ := info49
  have h0 := run_append_grow_src w 45 45 ty 49 i _ Try.underlying45 hi hz none 0 0 [] (by simp [Builtin.firstCells]) _ m _ (by rw [hs]; exact src_pairs w g' o' m c' ys h' ho') (by omega) (by omega) (by rw [hb]; exact growslice_fits (by omega) (by omega))
  have h1 := row_array [] ((ys.drop o').take m) (grownCap w (0 + m) 0 49 - (0 + m))
  rw [show cellsL [] = [] from rfl] at h1
  rw [h0, h1]
  simp only [Nat.zero_add, List.nil_append]
theorem app_zeros (w : World) (ty : TypeId) (g n c k : Nat) (xs : List Rg) (h : RowB g xs w) (hk : 0 < k) (hroom : c < n + k) (ho : n ≤ xs.length) (hbig : (n + k) * 16 ≤ 140737488355328) :
    (Builtin.append_ #[45, 3] ty #[.slice (some ⟨g, 0, none⟩) n c, .int .i64 (k : Int)]).run Try.prog w =
      .ok (.slice (some ⟨w.heap.size, 0, none⟩) (n + k) (grownCap w (n + k) c 49)) (w.drew.alloc (.cells (cellsL (xs.take n ++ List.replicate k (0, 0) ++ List.replicate (grownCap w (n + k) c 49 - (n + k)) (0, 0))).toArray 49)) := by
  obtain ⟨i, hi, hz, hs, hb⟩ := info49
  have hold : (Builtin.firstCells i.size n (.slice (some ⟨g, 0, none⟩) n c)).run Try.prog w.drew = .ok (cellsL (xs.take n)).toArray w.drew := by
    have := load_pairs w.drew g 0 n xs h (by omega)
    rw [Nat.zero_mul, List.drop_zero] at this
    rw [hs]; exact this
  rw [Lib.run_append_grow_zeros w 45 3 ty 49 i _ .i64 .i64 Try.underlying45 Try.underlying3 hi hz (some ⟨g, 0, none⟩) n c _ hold k hk (by omega) hroom (by omega) (by rw [hb]; omega) (by rw [hb]; exact growslice_fits hroom hbig)]
  congr 3
  apply Array.ext'
  rw [Array.toList_append, Array.toList_append, zeroCells_pairs, zeroCells_pairs, cellsL_append, cellsL_append]
theorem over_pairs (w : World) (g o n c g' o' n' c' : Nat) (xs ys : List Rg) (h : RowB g xs w) (h' : RowB g' ys w) (hne : g ≠ g') (hy : ys ≠ []) :
    (callFunc 63 #[.slice (some ⟨g, o, none⟩) n c, .slice (some ⟨g', o', none⟩) n' c']).run Try.prog w = .ok (.value (.bool false)) w := by
  rw [run_callFunc_extern Try.func63 (by kernel_rfl) (by kernel_rfl) (by kernel_rfl) (e := Extern.SlicesOverlaps.overlaps #[45, 45] #[4]) (by kernel_rfl),
    Lib.run_overlaps_apart w 45 4 49 Try.underlying45 2 Try.sizeOf49 ⟨g, o, none⟩ ⟨g', o', none⟩ n c n' c' hne 49 49 (cellsL xs).length (cellsL ys).length
      (by unfold RowB at h; simp [World.shape?, h]) (by unfold RowB at h'; simp [World.shape?, h']) (by rw [cellsL_length]; cases ys with | nil => exact absurd rfl hy | cons a r => simp) (h.frozen _) (h.frozen _)]
  rfl

/-! ### Lists spliced -/
theorem get_spl (xs : List Rg) (o : Nat) (ys : List Rg) (h : o + ys.length ≤ xs.length) (k : Nat) : (spl xs o ys)[k]? = if k < o then xs[k]? else if k < o + ys.length then ys[k - o]? else xs[k]? := by
  unfold spl
  rw [List.append_assoc, List.getElem?_append, List.length_take, Nat.min_eq_left (by omega)]
  split
  · rw [List.getElem?_take, if_pos ‹_›]
  · rw [List.getElem?_append]
    split
    · rw [if_pos (by omega)]
    · rw [if_neg (by omega), List.getElem?_drop]; congr 1; omega
end Go.Proofs.Ytegabbfdnpjkkaa

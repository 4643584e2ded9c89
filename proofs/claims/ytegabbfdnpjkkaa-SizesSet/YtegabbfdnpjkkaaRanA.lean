import Derived.Test.YtegabbfdnpjkkaaProg
import Derived.WalkKit
import Derived.WalkLawsBesides
import Derived.WalkSpells
import Derived.Deep.QuietTactic
import Derived.BigQuiet
import Derived.Deep.RegionHeld3
import Derived.Deep.RegionLaw
import Derived.Deep.AppendSrc
import Derived.Lib.AppendZerosOnto
import Derived.Lib.Overlaps
import Derived.Laws.CopyRow
import Derived.Laws.Tables
import Derived.KernelRfl
namespace Go.Proofs.Ytegabbfdnpjkkaa
open Go.RowKit
set_option linter.unusedVariables false

/-! ### Rows of ranges in memory -/
abbrev Rg := Int × Int
def cellsL : List Rg → List Value
  | [] => []
  | p :: r => .int .i64 p.1 :: .int .i64 p.2 :: cellsL r
theorem cellsL_length (xs : List Rg) : (cellsL xs).length = xs.length * 2 := by
  induction xs with
  | nil => rfl
  | cons p r ih => simp only [cellsL, List.length_cons, ih]; omega
theorem cellsL_append (xs ys : List Rg) : cellsL (xs ++ ys) = cellsL xs ++ cellsL ys := by
  induction xs with
  | nil => rfl
  | cons p r ih => simp only [List.cons_append, cellsL, ih]
theorem cellsL_take (xs : List Rg) (n : Nat) : (cellsL xs).take (n * 2) = cellsL (xs.take n) := by
  induction xs generalizing n with
  | nil => simp [cellsL]
  | cons p r ih =>
    cases n with
    | zero => simp [cellsL]
    | succ n => rw [show (n + 1) * 2 = n * 2 + 1 + 1 by omega]; simp only [cellsL, List.take_succ_cons, ih]
theorem cellsL_drop (xs : List Rg) (n : Nat) : (cellsL xs).drop (n * 2) = cellsL (xs.drop n) := by
  induction xs generalizing n with
  | nil => simp [cellsL]
  | cons p r ih =>
    cases n with
    | zero => simp [cellsL]
    | succ n => rw [show (n + 1) * 2 = n * 2 + 1 + 1 by omega]; simp only [cellsL, List.drop_succ_cons, ih]
theorem cellsL_one (xs : List Rg) : ∀ v ∈ cellsL xs, v.oneCell' = true := by
  induction xs with
  | nil => intro v hv; cases hv
  | cons p r ih =>
    intro v hv
    simp only [cellsL, List.mem_cons] at hv
    rcases hv with rfl | rfl | hv
    · rfl
    · rfl
    · exact ih v hv
theorem cellsL_get (xs : List Rg) (i : Nat) (hi : i < xs.length) : (cellsL xs)[i * 2]? = some (.int .i64 xs[i].1) ∧ (cellsL xs)[i * 2 + 1]? = some (.int .i64 xs[i].2) := by
  induction xs generalizing i with
  | nil => simp at hi
  | cons p r ih =>
    cases i with
    | zero => exact ⟨rfl, rfl⟩
    | succ i =>
      have := ih i (by simpa using hi)
      rw [show (i + 1) * 2 = i * 2 + 1 + 1 by omega]
      simp only [cellsL, List.getElem?_cons_succ, List.getElem_cons_succ]
      exact this

/-- Block g is a row of ranges, its spare room too. -/
def RowB (g : Nat) (xs : List Rg) (w : World) : Prop := w.heap[g]? = some (.cells (cellsL xs).toArray 49)
/-- Only the blocks of X may have turned; new ones may have come. -/
structure Fr (X : Nat → Prop) (w w' : World) : Prop where
  os : w'.os = w.os
  tape : w'.tape = w.tape
  output : w'.output = w.output
  size : w.heap.size ≤ w'.heap.size
  block : ∀ k, k < w.heap.size → ¬ X k → w'.heap[k]? = w.heap[k]?
theorem Fr.refl (X : Nat → Prop) (w : World) : Fr X w w := ⟨rfl, rfl, rfl, Nat.le_refl _, fun _ _ _ => rfl⟩
theorem Fr.trans {X : Nat → Prop} {a b c : World} (h : Fr X a b) (k : Fr X b c) : Fr X a c :=
  ⟨k.os.trans h.os, k.tape.trans h.tape, k.output.trans h.output, Nat.le_trans h.size k.size, fun i hi hx => (k.block i (Nat.lt_of_lt_of_le hi h.size) hx).trans (h.block i hi hx)⟩
/-- A step that turns only what is new to the first world, or of X. -/
theorem Fr.then {X Y : Nat → Prop} {a b c : World} (h : Fr X a b) (k : Fr Y b c) (hy : ∀ i, Y i → X i ∨ a.heap.size ≤ i) : Fr X a c :=
  ⟨k.os.trans h.os, k.tape.trans h.tape, k.output.trans h.output, Nat.le_trans h.size k.size, fun i hi hx => (k.block i (Nat.lt_of_lt_of_le hi h.size) (fun hyi => by rcases hy i hyi with h1 | h1; exact hx h1; omega)).trans (h.block i hi hx)⟩
theorem Fr.mono {X Y : Nat → Prop} {a b : World} (h : Fr X a b) (hxy : ∀ i, X i → Y i ∨ a.heap.size ≤ i) : Fr Y a b :=
  ⟨h.os, h.tape, h.output, h.size, fun i hi hy => h.block i hi (fun hx => by rcases hxy i hx with h1 | h1; exact hy h1; omega)⟩
theorem Fr.drew {X : Nat → Prop} {a b : World} (h : Fr X a b) : Fr X a b.drew := ⟨h.os, h.tape, h.output, h.size, h.block⟩
theorem Fr.drewN {X : Nat → Prop} {a b : World} (h : Fr X a b) (n : Nat) : Fr X a (b.drewN n) := ⟨h.os, h.tape, h.output, h.size, h.block⟩
theorem Fr.alloc {X : Nat → Prop} {a b : World} (h : Fr X a b) (o : Obj) : Fr X a (b.alloc o) :=
  h.trans ⟨rfl, rfl, rfl, by simp, fun k hk _ => Below.heap_alloc _ _ _ hk⟩
theorem Fr.setRow {X : Nat → Prop} {a b : World} (h : Fr X a b) (g : Nat) (cs : Array Value) (hg : X g ∨ a.heap.size ≤ g) : Fr X a (b.setRow g cs) :=
  h.then (Y := fun k => k = g) ⟨rfl, rfl, rfl, by simp [World.setRow], fun k hk hx => by simp only [World.setRow, Array.getElem?_modify]; rw [if_neg (fun e => hx e.symm)]⟩ (fun i hi => by subst hi; exact hg)
theorem Fr.setCell {X : Nat → Prop} {a b : World} (h : Fr X a b) (p : Addr) (v : Value) (hg : X p.block ∨ a.heap.size ≤ p.block) : Fr X a (b.setCell p v) :=
  h.then (Y := fun k => k = p.block) ⟨rfl, rfl, rfl, by simp, fun k hk hx => Below.heap_setCell _ _ _ _ hx⟩ (fun i hi => by subst hi; exact hg)
theorem Fr.cell {X : Nat → Prop} {w w' : World} (h : Fr X w w') {p : Addr} (hp : p.block < w.heap.size) (hx : ¬ X p.block) : w'.cell? p = w.cell? p := World.cell?_of_block (w := w) (h.block p.block hp hx)
theorem Fr.below {X : Nat → Prop} {B : Nat} {w0 w w' : World} (h : Below B w0 w) (k : Fr X w w') (hB : B ≤ w.heap.size) (hx : ∀ i, X i → B ≤ i) : Below B w0 w' :=
  h.trans ⟨k.os, k.tape, k.output, k.size, fun i hi => k.block i (by omega) (fun hxi => by have := hx i hxi; omega)⟩

theorem RowB.lt {g : Nat} {xs : List Rg} {w : World} (h : RowB g xs w) : g < w.heap.size := (Array.getElem?_eq_some_iff.1 h).1
theorem RowB.kept {g : Nat} {xs : List Rg} {w w' : World} {X : Nat → Prop} (h : RowB g xs w) (f : Fr X w w') (hx : ¬ X g) : RowB g xs w' := (f.block g h.lt hx).trans h
theorem RowB.cell {g : Nat} {xs : List Rg} {w : World} (h : RowB g xs w) (i : Nat) (hi : i < xs.length) : w.cell? ⟨g, i * 2, none⟩ = some (.int .i64 xs[i].1) ∧ w.cell? ⟨g, i * 2 + 1, none⟩ = some (.int .i64 xs[i].2) := by
  unfold RowB at h
  have := cellsL_get xs i hi
  constructor <;> simp [World.cell?, h, this.1, this.2]
theorem RowB.frozen {g : Nat} {xs : List Rg} {w : World} (h : RowB g xs w) (o : Nat) : w.frozen? ⟨g, o, none⟩ = false := by
  unfold RowB at h
  simp [World.frozen?, h]
theorem RowB.at {g : Nat} {xs : List Rg} {w : World} (h : RowB g xs w) (j : Nat) (v : Value) (hv : (cellsL xs)[j]? = some v) : w.cell? ⟨g, j, none⟩ = some v := by
  unfold RowB at h
  simp [World.cell?, h, hv]
theorem RowB.setRow {g : Nat} {xs : List Rg} {w : World} (h : RowB g xs w) (ys : List Rg) : RowB g ys (w.setRow g (cellsL ys).toArray) := setRow_heap w g _ _ 49 _ h
theorem RowB.setRow' {g k : Nat} {xs : List Rg} {w : World} (h : RowB g xs w) (cs : Array Value) (hk : g ≠ k) : RowB g xs (w.setRow k cs) := by
  show (w.setRow k cs).heap[g]? = _
  simp only [World.setRow, Array.getElem?_modify]
  rw [if_neg (fun e => hk e.symm)]; exact h
theorem RowB.alloc {g : Nat} {xs : List Rg} {w : World} (h : RowB g xs w) (o : Obj) : RowB g xs (w.alloc o) := (Below.heap_alloc _ _ _ h.lt).trans h
theorem RowB.new (w : World) (xs : List Rg) : RowB w.heap.size xs (w.alloc (.cells (cellsL xs).toArray 49)) := by
  show (w.heap.push _)[w.heap.size]? = _
  simp

/-! ### The builtins at rows of ranges -/
def spl (xs : List Rg) (o : Nat) (ys : List Rg) : List Rg := xs.take o ++ ys ++ xs.drop (o + ys.length)
theorem spl_length (xs : List Rg) (o : Nat) (ys : List Rg) (h : o + ys.length ≤ xs.length) : (spl xs o ys).length = xs.length := by simp [spl]; omega
theorem info49 : ∃ i, Try.prog.info? 49 = some i ∧ i.zero = some (.agg #[.int .i64 0, .int .i64 0]) ∧ i.size = 2 ∧ i.bytes = 16 := by
  have h : (Try.prog.info? 49).map (fun i => (i.zero, i.size, i.bytes)) = some (some (.agg #[.int .i64 0, .int .i64 0]), 2, 16) := by kernel_rfl
  cases hq : Try.prog.info? 49 with
  | none => simp [hq] at h
  | some i => simp [hq] at h; exact ⟨i, rfl, h.1, h.2.1, h.2.2⟩
theorem zeroCells_pairs (n : Nat) : (Builtin.zeroCells (Value.agg #[.int .i64 0, .int .i64 0]).cells n).toList = cellsL (List.replicate n (0, 0)) := by
  apply List.ext_getElem?
  intro k
  by_cases hk : k < n * 2
  · obtain ⟨i, hi⟩ : ∃ i, k = i * 2 ∨ k = i * 2 + 1 := ⟨k / 2, by omega⟩
    have hin : i < (List.replicate n ((0, 0) : Rg)).length := by simp; omega
    have hg := cellsL_get (List.replicate n ((0, 0) : Rg)) i hin
    simp only [List.getElem_replicate] at hg
    have hl : (Builtin.zeroCells (Value.agg #[.int .i64 0, .int .i64 0]).cells n).toList[k]? = some ((#[.int .i64 0, .int .i64 0] : Array Value)[k % 2]!) := by
      simp [Builtin.zeroCells, Value.cells, hk]
    rw [hl]
    rcases hi with rfl | rfl
    · rw [hg.1]; simp
    · rw [hg.2]; simp [Nat.add_mod]
  · rw [List.getElem?_eq_none (by simp [Builtin.zeroCells, Value.cells]; omega), List.getElem?_eq_none (by rw [cellsL_length]; simp; omega)]

theorem load_pairs (w : World) (g o n : Nat) (xs : List Rg) (h : RowB g xs w) (ho : o + n ≤ xs.length) : (loadCells ⟨g, o * 2, none⟩ (n * 2)).run Try.prog w = .ok (cellsL ((xs.drop o).take n)).toArray w := by
  have hl : (cellsL ((xs.drop o).take n)).length = n * 2 := by rw [cellsL_length]; simp; omega
  rw [← hl]
  refine run_loadCells_list w _ _ fun j v hj => ?_
  rw [Addr.add_lit]
  refine h.at _ v ?_
  have hjl : j < n * 2 := by
    have := (List.getElem?_eq_some_iff.1 hj).1
    omega
  rw [← cellsL_take, ← cellsL_drop, List.getElem?_take, if_pos (by omega), List.getElem?_drop] at hj
  exact hj

theorem store_pairs (w : World) (g o : Nat) (xs ys : List Rg) (h : RowB g xs w) (ho : o + ys.length ≤ xs.length) : (storeCells ⟨g, o * 2, none⟩ (cellsL ys)).run Try.prog w = .ok () (w.setRow g (cellsL (spl xs o ys)).toArray) := by
  have := run_storeCells_at (P := Try.prog) g (o * 2) 49 (cellsL ys) 0 (cellsL xs).toArray w h (by simp [cellsL_length]; omega) (cellsL_one ys)
  rw [this]
  congr 3
  simp only [Nat.add_zero, cellsL_length]
  rw [cellsL_take, show o * 2 + ys.length * 2 = (o + ys.length) * 2 by omega, cellsL_drop, ← cellsL_append, ← cellsL_append]
  rfl

theorem copy_pairs (w : World) (ty : TypeId) (g o n c g' o' n' c' m : Nat) (xs ys : List Rg) (h : RowB g xs w) (h' : RowB g' ys w) (hm : Nat.min n' n = m) (ho : o + m ≤ xs.length) (ho' : o' + m ≤ ys.length) :
    (Builtin.copy_ #[45, 45] ty #[.slice (some ⟨g, o * 2, none⟩) n c, .slice (some ⟨g', o' * 2, none⟩) n' c']).run Try.prog w = .ok (goInt m) (w.setRow g (cellsL (spl xs o ((ys.drop o').take m))).toArray) := by
  obtain ⟨i, hi, hz, hs, hb⟩ := info49
  have hl := load_pairs w g' o' m ys h' ho'
  have hst := store_pairs w g o xs ((ys.drop o').take m) h (by simp; omega)
  simp [Builtin.copy_, run_underlying Try.underlying45, Builtin.lenOf, Builtin.firstCells, sizeOf, typeInfo, hi, hs, hm, hl, hst]

theorem clear_pairs (w : World) (ty : TypeId) (g o n c : Nat) (xs : List Rg) (h : RowB g xs w) (ho : o + n ≤ xs.length) (hn : 0 < n) :
    (Builtin.clear_ #[45] ty #[.slice (some ⟨g, o * 2, none⟩) n c]).run Try.prog w = .ok (.tuple #[]) (w.setRow g (cellsL (spl xs o (List.replicate n (0, 0)))).toArray) := by
  obtain ⟨i, hi, hz, hs, hb⟩ := info49
  have hst := store_pairs w g o xs (List.replicate n (0, 0)) h (by simpa using ho)
  have hv : (zeroValue 49).run Try.prog w = .ok (.agg #[.int .i64 0, .int .i64 0]) w := Try.zeroValue49 w
  obtain ⟨m, rfl⟩ : ∃ m, n = m + 1 := ⟨n - 1, by omega⟩
  simp [Builtin.clear_, run_underlying Try.underlying45, hv, zeroCells_pairs, hst]
end Go.Proofs.Ytegabbfdnpjkkaa

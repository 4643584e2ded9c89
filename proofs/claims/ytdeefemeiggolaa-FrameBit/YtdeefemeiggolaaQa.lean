import Derived.Test.YtdeefemeiggolaaProg
import Derived.WalkKit
import Derived.WalkLawsBesides
import Derived.WalkSpells
import Derived.Deep.QuietTactic
import Derived.BigQuiet
import Derived.Deep.RegionHeld3
import Derived.Deep.RegionLaw
import Derived.Deep.LoopGhost
import Derived.Laws.Tables
import Derived.Laws.Shifts
import Derived.Laws.BitsAll
import Derived.Shelf.Abstract
import Derived.Deep.DeepCutAuto
import Derived.Deep.CutBlock
import Derived.KernelRfl
import Derived.Lib.Overlaps
import Derived.Deep.AppendSrc
import Derived.Laws.AppendOwn
import Derived.Deep.DeepAppendWide
import Derived.ProofKit
import Derived.OpenShut
import Derived.ChangeOld
import Derived.Below
import Derived.ChangeSlices
import Derived.Deep.SlicePairs
import Derived.SizedLaws
namespace Go.Proofs.Ytdeefemeiggolaa
open Go.RowKit
set_option linter.unusedVariables false

/-- Only the blocks of X may have turned; new ones may have come. -/
structure Fr (X : Nat → Prop) (w w' : World) : Prop where
  os : w'.os = w.os
  tape : w'.tape = w.tape
  output : w'.output = w.output
  size : w.heap.size ≤ w'.heap.size
  block : ∀ k, k < w.heap.size → ¬ X k → w'.heap[k]? = w.heap[k]?
theorem Fr.refl (X : Nat → Prop) (w : World) : Fr X w w := ⟨rfl, rfl, rfl, Nat.le_refl _, fun _ _ _ => rfl⟩
theorem Fr.trans {X : Nat → Prop} {a b c : World} (h : Fr X a b) (k : Fr X b c) : Fr X a c :=
  ⟨k.os.trans h.os, k.tape.trans h.tape, k.output.trans h.output, Nat.le_trans h.size k.size, fun i hi hx => (k.block i (Nat.lt_of_lt_of_le hi h.size) hx).trans (h.block i hi hx)⟩
/-- A step that turns only what is new to the first world, or of X. -/
theorem Fr.then {X Y : Nat → Prop} {a b c : World} (h : Fr X a b) (k : Fr Y b c) (hy : ∀ i, Y i → X i ∨ a.heap.size ≤ i) : Fr X a c :=
  ⟨k.os.trans h.os, k.tape.trans h.tape, k.output.trans h.output, Nat.le_trans h.size k.size, fun i hi hx => (k.block i (Nat.lt_of_lt_of_le hi h.size) (fun hyi => by rcases hy i hyi with h1 | h1; exact hx h1; omega)).trans (h.block i hi hx)⟩
theorem Fr.mono {X Y : Nat → Prop} {a b : World} (h : Fr X a b) (hxy : ∀ i, X i → Y i ∨ a.heap.size ≤ i) : Fr Y a b :=
  ⟨h.os, h.tape, h.output, h.size, fun i hi hy => h.block i hi (fun hx => by rcases hxy i hx with h1 | h1; exact hy h1; omega)⟩
theorem Fr.drew {X : Nat → Prop} {a b : World} (h : Fr X a b) : Fr X a b.drew := ⟨h.os, h.tape, h.output, h.size, h.block⟩
theorem Fr.drewN {X : Nat → Prop} {a b : World} (h : Fr X a b) (n : Nat) : Fr X a (b.drewN n) := ⟨h.os, h.tape, h.output, h.size, h.block⟩
theorem Fr.alloc {X : Nat → Prop} {a b : World} (h : Fr X a b) (o : Obj) : Fr X a (b.alloc o) :=
  h.trans ⟨rfl, rfl, rfl, by simp, fun k hk _ => Below.heap_alloc _ _ _ hk⟩
theorem Fr.setRow {X : Nat → Prop} {a b : World} (h : Fr X a b) (g : Nat) (cs : Array Value) (hg : X g ∨ a.heap.size ≤ g) : Fr X a (b.setRow g cs) :=
  h.then (Y := fun k => k = g) ⟨rfl, rfl, rfl, by simp [World.setRow], fun k hk hx => by simp only [World.setRow, Array.getElem?_modify]; rw [if_neg (fun e => hx e.symm)]⟩ (fun i hi => by subst hi; exact hg)
theorem Fr.setCell {X : Nat → Prop} {a b : World} (h : Fr X a b) (p : Addr) (v : Value) (hg : X p.block ∨ a.heap.size ≤ p.block) : Fr X a (b.setCell p v) :=
  h.then (Y := fun k => k = p.block) ⟨rfl, rfl, rfl, by simp, fun k hk hx => Below.heap_setCell _ _ _ _ hx⟩ (fun i hi => by subst hi; exact hg)
theorem Fr.cell {X : Nat → Prop} {w w' : World} (h : Fr X w w') {p : Addr} (hp : p.block < w.heap.size) (hx : ¬ X p.block) : w'.cell? p = w.cell? p := World.cell?_of_block (w := w) (h.block p.block hp hx)
theorem Fr.cellv {X : Nat → Prop} {w w' : World} (h : Fr X w w') {p : Addr} {v : Value} (hv : w.cell? p = some v) (hx : ¬ X p.block) : w'.cell? p = some v :=
  (h.cell (World.block_lt_of_cell? _ _ hv) hx).trans hv
theorem Fr.below {X : Nat → Prop} {B : Nat} {w0 w w' : World} (h : Below B w0 w) (k : Fr X w w') (hB : B ≤ w.heap.size) (hx : ∀ i, X i → B ≤ i) : Below B w0 w' :=
  h.trans ⟨k.os, k.tape, k.output, k.size, fun i hi => k.block i (by omega) (fun hxi => by have := hx i hxi; omega)⟩

/-- Nothing that was there has turned. -/
abbrev Nw (w w' : World) : Prop := Fr (fun _ => False) w w'
theorem Nw.trans {a b c : World} (h : Nw a b) (k : Nw b c) : Nw a c := Fr.trans h k
theorem Nw.any {X : Nat → Prop} {a b : World} (h : Nw a b) : Fr X a b := h.mono (fun _ h => h.elim)
theorem Nw.cell {w w' : World} (h : Nw w w') {p : Addr} {v : Value} (hv : w.cell? p = some v) : w'.cell? p = some v := h.cellv hv (fun h => h)
theorem Nw.heap {w w' : World} (h : Nw w w') {g : Nat} {o : Obj} (hv : w.heap[g]? = some o) : w'.heap[g]? = some o := (h.block g (Array.getElem?_eq_some_iff.1 hv).1 (fun h => h)).trans hv

/-! ### Bytes in memory -/
abbrev By := BitVec 8
abbrev bv (b : By) : Value := .int .u8 b.toNat
def Rd (g o : Nat) (l : List By) (w : World) : Prop := ∀ j (h : j < l.length), w.cell? ⟨g, o + j, none⟩ = some (bv l[j])
theorem Rd.nil (g o : Nat) (w : World) : Rd g o [] w := fun j h => by simp at h
theorem Rd.kept {g o : Nat} {l : List By} {w w' : World} {X : Nat → Prop} (h : Rd g o l w) (f : Fr X w w') (hx : ¬ X g) : Rd g o l w' := fun j hj => f.cellv (h j hj) hx
theorem Rd.nw {g o : Nat} {l : List By} {w w' : World} (h : Rd g o l w) (f : Nw w w') : Rd g o l w' := h.kept f (fun h => h)
theorem Rd.drop {g o : Nat} {l : List By} {w : World} (h : Rd g o l w) (k : Nat) : Rd g (o + k) (l.drop k) w := fun j hj => by
  have := h (k + j) (by simp at hj; omega)
  simp only [List.getElem_drop]
  rw [Nat.add_assoc]; exact this
theorem Rd.take {g o : Nat} {l : List By} {w : World} (h : Rd g o l w) (k : Nat) : Rd g o (l.take k) w := fun j hj => by
  have := h j (by simp at hj; omega)
  simp only [List.getElem_take]; exact this
theorem Rd.at {g o : Nat} {l : List By} {w : World} (h : Rd g o l w) (j : Nat) (b : By) (hb : l[j]? = some b) : w.cell? ⟨g, o + j, none⟩ = some (bv b) := by
  obtain ⟨hj, rfl⟩ := List.getElem?_eq_some_iff.1 hb
  exact h j hj
/-- A slice that reads as l, in block g. -/
def SlB (g : Nat) (v : Value) (l : List By) (w : World) : Prop := ∃ o c, v = .slice (some ⟨g, o, none⟩) l.length c ∧ l.length ≤ c ∧ c < 9223372036854775808 ∧ Rd g o l w
theorem SlB.kept {g : Nat} {v : Value} {l : List By} {w w' : World} {X : Nat → Prop} (h : SlB g v l w) (f : Fr X w w') (hx : ¬ X g) : SlB g v l w' := by
  obtain ⟨o, c, h1, h2, h3, h4⟩ := h
  exact ⟨o, c, h1, h2, h3, h4.kept f hx⟩
/-- A slice that reads as l: without room, or in a block not of X. -/
def Sl (X : Nat → Prop) (v : Value) (l : List By) (w : World) : Prop := (∃ a, v = .slice a 0 0 ∧ l = []) ∨ ∃ g, ¬ X g ∧ SlB g v l w
theorem Sl.kept {X Y : Nat → Prop} {v : Value} {l : List By} {w w' : World} (h : Sl X v l w) (f : Fr Y w w') (hx : ∀ g, Y g → X g) : Sl X v l w' := by
  rcases h with h | ⟨g, h1, h2⟩
  · exact .inl h
  · exact .inr ⟨g, h1, h2.kept f (fun h => h1 (hx g h))⟩
theorem Sl.nw {X : Nat → Prop} {v : Value} {l : List By} {w w' : World} (h : Sl X v l w) (f : Nw w w') : Sl X v l w' := h.kept f (fun _ h => h.elim)
end Go.Proofs.Ytdeefemeiggolaa

namespace Go.Proofs.Ytdeefemeiggolaa
open Go.RowKit
set_option linter.unusedVariables false

theorem add_addr (g o j : Nat) : (⟨g, o, none⟩ : Addr).add j = ⟨g, o + j, none⟩ := by unfold Addr.add; split <;> simp_all
/-! ### Rows of bytes that the call makes -/
def Bw (g : Nat) (xs : List By) (w : World) : Prop := w.heap[g]? = some (.cells (xs.map bv).toArray 5)
theorem Bw.lt {g : Nat} {xs : List By} {w : World} (h : Bw g xs w) : g < w.heap.size := (Array.getElem?_eq_some_iff.1 h).1
theorem Bw.kept {g : Nat} {xs : List By} {w w' : World} {X : Nat → Prop} (h : Bw g xs w) (f : Fr X w w') (hx : ¬ X g) : Bw g xs w' := (f.block g h.lt hx).trans h
theorem Bw.cell {g : Nat} {xs : List By} {w : World} (h : Bw g xs w) (j : Nat) (b : By) (hb : xs[j]? = some b) : w.cell? ⟨g, j, none⟩ = some (bv b) ∧ w.frozen? ⟨g, j, none⟩ = false := by
  unfold Bw at h
  constructor <;> simp [World.cell?, World.frozen?, h, hb]
theorem Bw.rd {g : Nat} {xs : List By} {w : World} (h : Bw g xs w) : Rd g 0 xs w := fun j hj => by
  rw [Nat.zero_add]; exact (h.cell j _ (List.getElem?_eq_getElem hj)).1
theorem Bw.set {g : Nat} {xs : List By} {w : World} (h : Bw g xs w) (j : Nat) (b : By) (z : Int) (hz : z = b.toNat) : Bw g (xs.set j b) (w.setCell ⟨g, j, none⟩ (.int .u8 z)) := by
  subst hz
  unfold Bw at h ⊢
  simp only [World.setCell, Array.getElem?_modify, h]
  simp [List.map_set]
/-- A slice of the call's own, from its block's first cell on. -/
def Ow (g : Nat) (v : Value) (l : List By) (w : World) : Prop := ∃ xs, v = .slice (some ⟨g, 0, none⟩) l.length xs.length ∧ xs.take l.length = l ∧ l.length ≤ xs.length ∧ xs.length < 9223372036854775808 ∧ Bw g xs w
theorem Ow.kept {g : Nat} {v : Value} {l : List By} {w w' : World} {X : Nat → Prop} (h : Ow g v l w) (f : Fr X w w') (hx : ¬ X g) : Ow g v l w' := by
  obtain ⟨xs, h1, h2, h3, h4, h5⟩ := h
  exact ⟨xs, h1, h2, h3, h4, h5.kept f hx⟩
theorem Ow.nw {g : Nat} {v : Value} {l : List By} {w w' : World} (h : Ow g v l w) (f : Nw w w') : Ow g v l w' := h.kept f (fun h => h)
theorem Ow.lt {g : Nat} {v : Value} {l : List By} {w : World} (h : Ow g v l w) : g < w.heap.size := by
  obtain ⟨xs, h1, h2, h3, h4, h5⟩ := h
  exact h5.lt
theorem Ow.slb {g : Nat} {v : Value} {l : List By} {w : World} (h : Ow g v l w) : SlB g v l w := by
  obtain ⟨xs, h1, h2, h3, h4, h5⟩ := h
  refine ⟨0, xs.length, h1, h3, h4, ?_⟩
  have := h5.rd.take l.length
  rw [h2] at this; exact this
theorem Ow.old {g : Nat} {v : Value} {l : List By} {w : World} (h : Ow g v l w) : Sl (fun k => w.heap.size ≤ k) v l w := .inr ⟨g, by have := h.lt; omega, h.slb⟩
theorem infoB : ∃ i, Try.prog.info? 5 = some i ∧ i.zero = some (.int .u8 0) ∧ i.size = 1 ∧ i.bytes = 1 := by
  have h : (Try.prog.info? 5).map (fun i => (i.zero, i.size, i.bytes)) = some (some (.int .u8 0), 1, 1) := by kernel_rfl
  cases hq : Try.prog.info? 5 with
  | none => simp [hq] at h
  | some i => simp [hq] at h; exact ⟨i, rfl, h.1, h.2.1, h.2.2⟩
theorem bv_one (l : List By) : ∀ v ∈ l.map bv, v.oneCell' = true := by
  intro v hv
  simp only [List.mem_map] at hv
  obtain ⟨b, _, rfl⟩ := hv
  rfl
theorem srcB (w : World) (x : Value) (m : List By) (hx : Sl (fun _ => False) x m w) : Src Try.prog 1 22 x m.length (m.map bv) w := by
  rcases hx with ⟨a, rfl, rfl⟩ | ⟨g, _, o, c, rfl, h1, h2, h3⟩
  · cases a with
    | none => exact Src.ofNil w Try.underlying22 0
    | some a => exact Src.ofSlice w Try.underlying22 a 0 0 _ (by simp) (fun j u hj => by simp at hj) (bv_one _)
  · refine Src.ofSlice w Try.underlying22 ⟨g, o, none⟩ m.length c _ (by simp) (fun j u hj => ?_) (bv_one _)
    rw [add_addr]
    simp only [List.getElem?_map, Option.map_eq_some_iff] at hj
    obtain ⟨b, hb, rfl⟩ := hj
    exact h3.at j b hb
theorem zeroB (n : Nat) : (Builtin.zeroCells (Value.int .u8 0).cells n) = ((List.replicate n 0#8).map bv).toArray := by
  apply Array.ext'
  apply List.ext_getElem?
  intro k
  by_cases hk : k < n
  · simp [Builtin.zeroCells, Value.cells, hk, Nat.mod_one]
  · rw [List.getElem?_eq_none (by simp [Builtin.zeroCells, Value.cells]; omega), List.getElem?_eq_none (by simp; omega)]
set_option maxRecDepth 100000 in
theorem app_any (w : World) (g : Nat) (v : Value) (l : List By) (hO : Ow g v l w) (x : Value) (m : List By) (hx : Sl (fun _ => False) x m w) (hb : l.length + m.length ≤ 200000000000000) :
    ∃ v' g' W, (∀ ty, (Builtin.append_ #[22, 22] ty #[v, x]).run Try.prog w = .ok v' W) ∧ Ow g' v' (l ++ m) W ∧ Fr (fun k => k = g) w W ∧ (g' = g ∨ w.heap.size ≤ g') := by
  obtain ⟨xs, rfl, h2, h3, h4, h5⟩ := hO
  obtain ⟨i, hi, hz, hs, hby⟩ := infoB
  have hsrc := srcB w x m hx
  by_cases hroom : l.length + m.length ≤ xs.length
  · have hst := run_storeCells_at (P := Try.prog) g (0 + l.length) 5 (m.map bv) 0 (xs.map bv).toArray w h5 (by simp; omega) (bv_one _)
    refine ⟨.slice (some ⟨g, 0, none⟩) (l.length + m.length) xs.length, g, w.setRow g (((l ++ m ++ xs.drop (l.length + m.length)).map bv).toArray), fun ty => ?_, ?_, ?_, .inl rfl⟩
    · obtain ⟨W0, hW0⟩ : ∃ W0, W0 = w.setRow g (((l ++ m ++ xs.drop (l.length + m.length)).map bv).toArray) := ⟨_, rfl⟩
      have hst' : (storeCells ⟨g, l.length, none⟩ (m.map bv)).run Try.prog w = .ok () W0 := by
        rw [← Nat.zero_add l.length, hst, hW0]
        congr 3
        simp only [Nat.add_zero, Nat.zero_add, List.length_map]
        rw [← List.map_take, ← List.map_drop, h2]
        simp
      rw [← hW0]
      clear hst
      rcases hsrc.kind with ⟨e', hk⟩ | hk
      · simp [Builtin.append_, run_underlying Try.underlying22, sizeOf, typeInfo, hi, hs, hsrc.len, hroom, hsrc.cells, Addr.add_lit, hst']
      · rw [Try.underlying22] at hk; cases hk
    · have hl : (l ++ m).length = l.length + m.length := by simp
      refine ⟨l ++ m ++ xs.drop (l.length + m.length), ?_, ?_, ?_, ?_, ?_⟩
      · simp; omega
      · rw [List.take_append_of_le_length (by simp), List.take_of_length_le (by simp)]
      · simp
      · simp; omega
      · exact setRow_heap w g _ _ 5 _ h5
    · exact (Fr.refl _ _).setRow _ _ (.inl rfl)
  · have hold : (Builtin.firstCells i.size l.length (.slice (some ⟨g, 0, none⟩) l.length xs.length)).run Try.prog w.drew = .ok (l.map bv).toArray w.drew := by
      rw [hs]
      refine run_firstCells_some w.drew 1 l.length ⟨g, 0, none⟩ l.length xs.length (l.map bv) (by simp) (fun j u hj => ?_)
      rw [add_addr]
      simp only [List.getElem?_map, Option.map_eq_some_iff] at hj
      obtain ⟨b, hb, rfl⟩ := hj
      have hr := h5.rd.take l.length
      rw [h2] at hr
      exact hr.at j b hb
    have hrun := fun ty => run_append_grow_src w 22 22 ty 5 i _ Try.underlying22 hi hz (some ⟨g, 0, none⟩) l.length xs.length _ hold x m.length _ (by rw [hs]; exact hsrc) (by omega) (by omega) (by rw [hby]; exact growslice_fits_wide (by omega) (by omega))
    have hge := grownCap_ge w (l.length + m.length) xs.length 5
    have hle := grownCap_le_maxLen w (l.length + m.length) xs.length 5 (by unfold maxLen; omega)
    unfold maxLen at hle
    generalize grownCap w (l.length + m.length) xs.length 5 = G at *
    refine ⟨_, w.heap.size, _, hrun, ?_, (Fr.refl _ _).drew.alloc _, .inr (Nat.le_refl _)⟩
    have e : ((l.map bv ++ m.map bv).toArray ++ Builtin.zeroCells (Value.int .u8 0).cells (G - (l.length + m.length))) = ((l ++ m ++ List.replicate (G - (l.length + m.length)) 0#8).map bv).toArray := by
      rw [zeroB]; simp
    rw [e]
    refine ⟨l ++ m ++ List.replicate (G - (l.length + m.length)) 0#8, ?_, ?_, ?_, ?_, ?_⟩
    · simp; omega
    · rw [List.take_append_of_le_length (by simp), List.take_of_length_le (by simp)]
    · simp
    · simp; omega
    · show (w.drew.heap.push _)[w.heap.size]? = _
      show (w.heap.push _)[w.heap.size]? = _
      simp
/-- A slice of what is there. -/
abbrev Old (w : World) (v : Value) (b : List By) : Prop := Sl (fun k => w.heap.size ≤ k) v b w
theorem Sl.length {X : Nat → Prop} {v : Value} {b : List By} {w : World} (h : Sl X v b w) : b.length < 9223372036854775808 := by
  rcases h with ⟨_, _, rfl⟩ | ⟨g, _, o, c, _, h2, h3, _⟩
  · simp
  · omega
theorem Sl.mono {X Y : Nat → Prop} {v : Value} {b : List By} {w : World} (h : Sl X v b w) (hxy : ∀ g, Y g → X g) : Sl Y v b w := by
  rcases h with h | ⟨g, h1, h2⟩
  · exact .inl h
  · exact .inr ⟨g, fun hy => h1 (hxy g hy), h2⟩

theorem Sl.later {w V : World} {v : Value} {b : List By} (h : Old w v b) (hV : Nw w V) : Old V v b := by
  have h1 := h.nw hV
  exact h1.mono (fun g hg => Nat.le_trans hV.size hg)
theorem cbase {f : FuncId} {args : Array Value} {w W : World} {v : Value} (h : Nw w W) (k : Calls Try.prog f args W fun e w' => e = .returned v ∧ Nw W w') : Calls Try.prog f args W fun e w' => e = .returned v ∧ Nw w w' :=
  k.mono (fun e w' hk => ⟨hk.1, h.trans hk.2⟩)
/-- An empty slice of the call's own. -/
theorem Ow.empty (w : World) : Ow w.heap.size (.slice (some ⟨w.heap.size, 0, none⟩) 0 0) [] (w.alloc (.cells #[] 5)) :=
  ⟨[], rfl, rfl, by simp, by simp, by
    show (w.heap.push _)[w.heap.size]? = _
    simp⟩
theorem Ow.cut {g : Nat} {v : Value} {l : List By} {w : World} (h : Ow g v l w) (n : Nat) (hn : n ≤ l.length) : ∃ c, v = .slice (some ⟨g, 0, none⟩) l.length c ∧ l.length ≤ c ∧ c < 9223372036854775808 ∧ Ow g (.slice (some ⟨g, 0, none⟩) n c) (l.take n) w := by
  obtain ⟨xs, h1, h2, h3, h4, h5⟩ := h
  refine ⟨xs.length, h1, h3, h4, xs, ?_, ?_, ?_, h4, h5⟩
  · rw [List.length_take, Nat.min_eq_left hn]
  · rw [List.length_take, Nat.min_eq_left hn]
    conv => rhs; rw [← h2]
    rw [List.take_take, Nat.min_eq_left hn]
  · rw [List.length_take]; omega
/-- A byte of one's own, written over. -/
theorem Ow.put {g : Nat} {v : Value} {l : List By} {w : World} (h : Ow g v l w) (j : Nat) (hj : j < l.length) (z : By) (k : Int) (hk : k = z.toNat) : Ow g v (l.set j z) (w.setCell ⟨g, j, none⟩ (.int .u8 k)) := by
  obtain ⟨xs, h1, h2, h3, h4, h5⟩ := h
  refine ⟨xs.set j z, by rw [h1]; simp, ?_, by simp; exact h3, by simp; exact h4, h5.set j z k hk⟩
  rw [List.length_set, List.take_set, h2]
theorem Ow.at {g : Nat} {v : Value} {l : List By} {w : World} (h : Ow g v l w) (j : Nat) (hj : j < l.length) : w.cell? ⟨g, j, none⟩ = some (.int .u8 l[j].toNat) ∧ w.frozen? ⟨g, j, none⟩ = false := by
  obtain ⟨xs, h1, h2, h3, h4, h5⟩ := h
  have : xs[j]? = some l[j] := by
    have e : (xs.take l.length)[j]? = l[j]? := by rw [h2]
    rw [List.getElem?_take, if_pos hj, List.getElem?_eq_getElem hj] at e
    exact e
  exact h5.cell j _ this
theorem app_nil (w : World) (x : Value) (m : List By) (hx : Sl (fun _ => False) x m w) (hb : m.length ≤ 200000000000000) (hm : m ≠ []) :
    ∃ v' W, (∀ ty, (Builtin.append_ #[22, 22] ty #[.slice none 0 0, x]).run Try.prog w = .ok v' W) ∧ Ow w.heap.size v' m W ∧ Nw w W := by
  obtain ⟨i, hi, hz, hs, hby⟩ := infoB
  have hsrc := srcB w x m hx
  have hm0 : 0 < m.length := List.length_pos_iff.2 hm
  have hrun := fun ty => run_append_grow_src w 22 22 ty 5 i _ Try.underlying22 hi hz none 0 0 [] (by simp [Builtin.firstCells]) x m.length _ (by rw [hs]; exact hsrc) (by omega) (by omega) (by rw [hby]; exact growslice_fits_wide (by omega) (by omega))
  have hge := grownCap_ge w (0 + m.length) 0 5
  have hle := grownCap_le_maxLen w (0 + m.length) 0 5 (by unfold maxLen; omega)
  unfold maxLen at hle
  generalize grownCap w (0 + m.length) 0 5 = G at *
  refine ⟨_, _, hrun, ?_, (Fr.refl _ _).drew.alloc _⟩
  have e : (([] ++ m.map bv).toArray ++ Builtin.zeroCells (Value.int .u8 0).cells (G - (0 + m.length))) = ((m ++ List.replicate (G - (0 + m.length)) 0#8).map bv).toArray := by
    rw [zeroB]; simp
  rw [e]
  refine ⟨m ++ List.replicate (G - (0 + m.length)) 0#8, ?_, ?_, ?_, ?_, ?_⟩
  · simp; omega
  · rw [List.take_append_of_le_length (by simp), List.take_of_length_le (by simp)]
  · simp
  · simp; omega
  · show (w.heap.push _)[w.heap.size]? = _
    simp
theorem app_none (w : World) (x : Value) (a : Option Addr) (hx : x = .slice a 0 0) : ∀ ty, (Builtin.append_ #[22, 22] ty #[.slice none 0 0, x]).run Try.prog w = .ok (.slice none 0 0) w := by
  intro ty
  subst hx
  obtain ⟨i, hi, hz, hs, hb⟩ := infoB
  cases a with
  | none => simp [Builtin.append_, run_underlying Try.underlying22, sizeOf, typeInfo, hi, Builtin.lenOf, Builtin.firstCells]
  | some a =>
    have hl : (loadCells a 0).run Try.prog w = .ok #[] w := run_loadCells_list (P := Try.prog) w a [] (fun j v hj => by simp at hj)
    simp [Builtin.append_, run_underlying Try.underlying22, sizeOf, typeInfo, hi, Builtin.lenOf, Builtin.firstCells, hl]
theorem app_none' (w : World) (g o c : Nat) : ∀ ty, (Builtin.append_ #[22, 22] ty #[.slice none 0 0, .slice (some ⟨g, o, none⟩) 0 c]).run Try.prog w = .ok (.slice none 0 0) w := by
  intro ty
  obtain ⟨i, hi, hz, hs, hb⟩ := infoB
  have hl : (loadCells ⟨g, o, none⟩ 0).run Try.prog w = .ok #[] w := run_loadCells_list (P := Try.prog) w ⟨g, o, none⟩ [] (fun j v hj => by simp at hj)
  simp [Builtin.append_, run_underlying Try.underlying22, sizeOf, typeInfo, hi, Builtin.lenOf, Builtin.firstCells, hl]
/-- Nil, or a slice of the call's own in a block that no one else holds. -/
def Mine (K : Nat → Prop) (v : Value) (l : List By) (w : World) : Prop := (v = .slice none 0 0 ∧ l = []) ∨ ∃ g, ¬ K g ∧ Ow g v l w
theorem Mine.kept {K : Nat → Prop} {v : Value} {l : List By} {w w' : World} {X : Nat → Prop} (h : Mine K v l w) (f : Fr X w w') (hx : ∀ g, X g → K g ∨ w.heap.size ≤ g) : Mine K v l w' := by
  rcases h with h | ⟨g, h1, h2⟩
  · exact .inl h
  · exact .inr ⟨g, h1, h2.kept f (fun hg => by rcases hx g hg with e | e; exact h1 e; have := h2.lt; omega)⟩
theorem Mine.nw {K : Nat → Prop} {v : Value} {l : List By} {w w' : World} (h : Mine K v l w) (f : Nw w w') : Mine K v l w' := h.kept f (fun _ h => h.elim)
theorem Mine.more {K K' : Nat → Prop} {v : Value} {l : List By} {w : World} (h : Mine K v l w) (hk : ∀ g, K' g → K g ∨ w.heap.size ≤ g) : Mine K' v l w := by
  rcases h with h | ⟨g, h1, h2⟩
  · exact .inl h
  · exact .inr ⟨g, fun hg => by rcases hk g hg with e | e; exact h1 e; have := h2.lt; omega, h2⟩
theorem Mine.sl {K : Nat → Prop} {v : Value} {l : List By} {w : World} (h : Mine K v l w) : Sl (fun k => K k ∨ w.heap.size ≤ k) v l w := by
  rcases h with ⟨h1, h2⟩ | ⟨g, h1, h2⟩
  · exact .inl ⟨none, h1, h2⟩
  · exact .inr ⟨g, fun hg => by rcases hg with e | e; exact h1 e; have := h2.lt; omega, h2.slb⟩
theorem Mine.old {K : Nat → Prop} {v : Value} {l : List By} {w : World} (h : Mine K v l w) : Old w v l := h.sl.mono (fun _ h => .inr h)
theorem Mine.nil (K : Nat → Prop) (w : World) : Mine K (.slice none 0 0) [] w := .inl ⟨rfl, rfl⟩
/-- A slice's form. -/
theorem Sl.form {X : Nat → Prop} {v : Value} {l : List By} {w : World} (h : Sl X v l w) : ∃ a c, v = .slice a l.length c ∧ l.length ≤ c ∧ c < 9223372036854775808 := by
  rcases h with ⟨a, rfl, rfl⟩ | ⟨g, _, o, c, rfl, h2, h3, _⟩
  · exact ⟨a, 0, rfl, by simp, by simp⟩
  · exact ⟨_, c, rfl, h2, h3⟩
theorem mine_app (K : Nat → Prop) (w : World) (hK : ∀ k, K k → k < w.heap.size) (v : Value) (l : List By) (h : Mine K v l w) (x : Value) (m : List By) (hx : Sl (fun _ => False) x m w) (hb : l.length + m.length ≤ 200000000000000) :
    ∃ v' W, (∀ ty, (Builtin.append_ #[22, 22] ty #[v, x]).run Try.prog w = .ok v' W) ∧ Mine K v' (l ++ m) W ∧ Fr (fun k => ¬ K k) w W := by
  rcases h with ⟨rfl, rfl⟩ | ⟨g, h1, h4⟩
  · by_cases hm : m = []
    · subst hm
      refine ⟨.slice none 0 0, w, ?_, .inl ⟨rfl, rfl⟩, Fr.refl _ _⟩
      rcases hx with ⟨a, rfl, _⟩ | ⟨g, _, o, c, rfl, _, _, _⟩
      · exact app_none w _ a rfl
      · exact app_none' w g o c
    · obtain ⟨v', W, k1, k2, k3⟩ := app_nil w x m hx (by simpa using hb) hm
      exact ⟨v', W, k1, .inr ⟨_, fun hk => by have := hK w.heap.size hk; omega, by rw [List.nil_append]; exact k2⟩, k3.any⟩
  · obtain ⟨v', g', W, k1, k2, k3, k4⟩ := app_any w g v l h4 x m hx hb
    refine ⟨v', W, k1, .inr ⟨g', ?_, k2⟩, k3.mono (fun i hi => .inl (by subst hi; exact h1))⟩
    rcases k4 with rfl | k4
    · exact h1
    · intro hk; have := hK _ hk; omega
end Go.Proofs.Ytdeefemeiggolaa

namespace Go.Proofs.Ytdeefemeiggolaa
open Go.RowKit
set_option linter.unusedVariables false

/-! ### What the document says of blocks -/
/-- A number's further bytes: their sum, and how many they are. -/
def more : List By → Option (Nat × Nat)
  | [] => none
  | x :: r => if x.toNat = 255 then (match more r with | none => none | some (n, k) => some (n + 255, k + 1)) else some (x.toNat, 1)
/-- A number whose four bits are low. -/
def num (low : Nat) (r : List By) : Option (Nat × Nat) := if low = 15 then (match more r with | none => none | some (n, k) => some (n + 15, k)) else some (low, 0)
structure Tk (σ : Type) where
  room : σ → Nat → Bool
  plain : σ → List By → σ
  reaches : σ → Nat → Bool
  mat : σ → Nat → Nat → σ
  fin : σ → σ
inductive Pt (σ : Type) where
  | bad (at' why : Nat)
  | ok (r : List By) (s : σ)
inductive Rs (σ : Type) where
  | bad (at' why : Nat)
  | good (s : σ)
variable {σ : Type}
def plainS (T : Tk σ) (L low : Nat) (r : List By) (s : σ) : Pt σ :=
  match num low r with
  | none => .bad L 4
  | some (n, k) =>
    if T.room s n = false then .bad (L - (r.length - k)) 32
    else if r.length - k < n then .bad L 4
    else .ok (r.drop (k + n)) (T.plain s ((r.drop k).take n))
def matchS (T : Tk σ) (L low : Nat) (r : List By) (s : σ) : Pt σ :=
  match r with
  | b0 :: b1 :: r4 =>
    if b0.toNat + 256 * b1.toNat = 0 ∨ T.reaches s (b0.toNat + 256 * b1.toNat) = false then .bad (L - r.length) 30
    else match num low r4 with
      | none => .bad L 4
      | some (n, k) => if T.room s (n + 4) = false then .bad (L - r.length) 32 else .ok (r4.drop k) (T.mat s (b0.toNat + 256 * b1.toNat) (n + 4))
  | _ => .bad L 4
def scanS (T : Tk σ) (L : Nat) (r : List By) (s : σ) : Rs σ :=
  match r with
  | [] => .bad L 4
  | tok :: r1 =>
    match plainS T L (tok.toNat / 16) r1 s with
    | .bad a y => .bad a y
    | .ok r3 s1 =>
      if r3 = [] then (if tok.toNat % 16 = 0 then .good (T.fin s1) else .bad (L - (r1.length + 1)) 31)
      else match matchS T L (tok.toNat % 16) r3 s1 with
        | .bad a y => .bad a y
        | .ok r5 s2 => if h : r5.length < r1.length + 1 then scanS T L r5 s2 else .bad 0 0
termination_by r.length

theorem more_le {r : List By} {n k : Nat} (h : more r = some (n, k)) : 1 ≤ k ∧ k ≤ r.length ∧ n + 1 ≤ 255 * k := by
  induction r generalizing n k with
  | nil => simp [more] at h
  | cons x r ih =>
    simp only [more] at h
    split at h
    · cases hm : more r with
      | none => simp [hm] at h
      | some p =>
        obtain ⟨n', k'⟩ := p
        simp [hm] at h
        have := ih hm
        simp only [List.length_cons]; omega
    · simp at h
      have := x.isLt
      simp only [List.length_cons]; omega
theorem num_le {low : Nat} {r : List By} {n k : Nat} (h : num low r = some (n, k)) (hl : low ≤ 15) : k ≤ r.length ∧ n ≤ 15 + 255 * k := by
  unfold num at h
  split at h
  · cases hm : more r with
    | none => simp [hm] at h
    | some p =>
      obtain ⟨n', k'⟩ := p
      simp [hm] at h
      have := more_le hm
      omega
  · simp at h; omega
theorem plainS_ok {T : Tk σ} {L low : Nat} {r r3 : List By} {s s1 : σ} (h : plainS T L low r s = .ok r3 s1) : ∃ n k, num low r = some (n, k) ∧ T.room s n = true ∧ n ≤ r.length - k ∧ r3 = r.drop (k + n) ∧ s1 = T.plain s ((r.drop k).take n) := by
  unfold plainS at h
  cases hm : num low r with
  | none => simp [hm] at h
  | some p =>
    obtain ⟨n, k⟩ := p
    simp only [hm] at h
    split at h
    · cases h
    · split at h
      · cases h
      · rename_i h1 h2
        injection h with h3 h4
        exact ⟨n, k, rfl, by simpa using h1, by omega, h3.symm, h4.symm⟩
theorem plainS_le {T : Tk σ} {L low : Nat} {r r3 : List By} {s s1 : σ} (h : plainS T L low r s = .ok r3 s1) : r3.length ≤ r.length := by
  obtain ⟨n, k, _, _, _, rfl, _⟩ := plainS_ok h
  simp
theorem matchS_le {T : Tk σ} {L low : Nat} {r r5 : List By} {s s1 : σ} (h : matchS T L low r s = .ok r5 s1) : r5.length + 2 ≤ r.length := by
  unfold matchS at h
  split at h
  · split at h
    · cases h
    · split at h
      · cases h
      · split at h
        · cases h
        · injection h with h1 h2
          subst h1; simp
  · cases h
/-- One sequence, and then the others. -/
theorem scanS_cons (T : Tk σ) (L : Nat) (tok : By) (r1 : List By) (s : σ) : scanS T L (tok :: r1) s =
    match plainS T L (tok.toNat / 16) r1 s with
    | .bad a y => .bad a y
    | .ok r3 s1 =>
      if r3 = [] then (if tok.toNat % 16 = 0 then .good (T.fin s1) else .bad (L - (r1.length + 1)) 31)
      else match matchS T L (tok.toNat % 16) r3 s1 with
        | .bad a y => .bad a y
        | .ok r5 s2 => scanS T L r5 s2 := by
  rw [scanS]
  cases hp : plainS T L (tok.toNat / 16) r1 s with
  | bad a y => rfl
  | ok r3 s1 =>
    simp only
    split
    · rfl
    · cases hm : matchS T L (tok.toNat % 16) r3 s1 with
      | bad a y => rfl
      | ok r5 s2 =>
        have h1 := plainS_le hp
        have h2 := matchS_le hm
        simp only
        rw [dif_pos (by omega)]

/-! ### Copies -/
/-- Bytes behind which a match was done. -/
def cop (all : List By) (back : Nat) : Nat → List By
  | 0 => all
  | n + 1 => cop all back n ++ [(cop all back n).getD ((cop all back n).length - back) 0]
theorem cop_length (all : List By) (back n : Nat) : (cop all back n).length = all.length + n := by
  induction n with
  | zero => rfl
  | succ n ih => simp [cop, ih]; omega
/-- Each byte beyond is the one back places ahead of it. -/
structure Per (all : List By) (back : Nat) (X : List By) : Prop where
  pre : X.take all.length = all
  le : all.length ≤ X.length
  per : ∀ i, all.length ≤ i → i < X.length → X[i]? = X[i - back]?
theorem Per.refl (all : List By) (back : Nat) : Per all back all := ⟨by simp, Nat.le_refl _, fun i h1 h2 => by omega⟩
theorem Per.app {all : List By} {back : Nat} {X m : List By} (h : Per all back X) (hm : ∀ i, i < m.length → m[i]? = (X ++ m)[X.length + i - back]?) : Per all back (X ++ m) := by
  refine ⟨?_, ?_, ?_⟩
  · rw [List.take_append_of_le_length h.le]; exact h.pre
  · simp; have := h.le; omega
  · intro i h1 h2
    by_cases hi : i < X.length
    · rw [List.getElem?_append_left hi, List.getElem?_append_left (by omega)]
      exact h.per i h1 hi
    · rw [List.length_append] at h2
      rw [List.getElem?_append_right (by omega), hm (i - X.length) (by omega)]
      congr 1; omega
theorem Per.step {all : List By} {back : Nat} {X : List By} (h : Per all back X) (hb : 1 ≤ back) (hb2 : back ≤ all.length) : Per all back (X ++ [X.getD (X.length - back) 0]) := by
  refine h.app (fun i hi => ?_)
  have := h.le
  simp at hi; subst hi
  rw [List.getElem?_append_left (by omega)]
  simp [List.getD_eq_getElem?_getD, List.getElem?_eq_getElem (show X.length - back < X.length by omega)]
theorem per_cop (all : List By) (back : Nat) (hb : 1 ≤ back) (hb2 : back ≤ all.length) (n : Nat) : Per all back (cop all back n) := by
  induction n with
  | zero => exact Per.refl _ _
  | succ n ih => exact ih.step hb hb2
theorem Per.uniq {all : List By} {back : Nat} {X Y : List By} (h : Per all back X) (k : Per all back Y) (hl : X.length = Y.length) (hb : 1 ≤ back) (hb2 : back ≤ all.length) : X = Y := by
  apply List.ext_getElem?
  intro i
  induction i using Nat.strongRecOn with
  | ind i ih =>
    by_cases h1 : i < all.length
    · have e1 : (X.take all.length)[i]? = (Y.take all.length)[i]? := by rw [h.pre, k.pre]
      rw [List.getElem?_take, List.getElem?_take, if_pos h1, if_pos h1] at e1
      exact e1
    · by_cases h2 : i < X.length
      · rw [h.per i (by omega) h2, k.per i (by omega) (by omega)]
        exact ih (i - back) (by omega)
      · rw [List.getElem?_eq_none (by omega), List.getElem?_eq_none (by omega)]
theorem Per.cop {all : List By} {back : Nat} {X : List By} (h : Per all back X) (hb : 1 ≤ back) (hb2 : back ≤ all.length) (n : Nat) (hl : X.length = all.length + n) : X = cop all back n :=
  h.uniq (per_cop all back hb hb2 n) (by rw [cop_length, hl]) hb hb2
/-- What lies farther ahead plays no part. -/
theorem cop_far (x all : List By) (back n : Nat) (hb : 1 ≤ back) (hb2 : back ≤ all.length) : cop (x ++ all) back n = x ++ cop all back n := by
  symm
  have hp := per_cop all back hb hb2 n
  have hl := cop_length all back n
  refine Per.cop (all := x ++ all) ⟨?_, ?_, ?_⟩ hb (by simp; omega) n (by simp; omega)
  · rw [List.length_append, List.take_append, List.take_of_length_le (by omega), Nat.add_sub_cancel_left, hp.pre]
  · simp; omega
  · intro i h1 h2
    rw [List.length_append] at h1 h2
    rw [List.getElem?_append_right (by omega), List.getElem?_append_right (by omega), hp.per (i - x.length) (by omega) (by omega)]
    congr 1; omega
/-- Over and over the same. -/
theorem Per.times {all : List By} {back : Nat} {X : List By} (h : Per all back X) (j t : Nat) (h1 : all.length ≤ j + back) (h2 : j + t * back < X.length) (hb : 1 ≤ back) : X[j + t * back]? = X[j]? := by
  induction t with
  | zero => simp
  | succ t ih =>
    rw [Nat.add_mul, Nat.one_mul] at h2
    rw [← ih (by omega), h.per _ (by rw [Nat.add_mul, Nat.one_mul]; omega) (by rw [Nat.add_mul, Nat.one_mul]; omega)]
    congr 1; rw [Nat.add_mul, Nat.one_mul]; omega
/-- A player of sequences. -/
def pl (ahead : List By) (most : Nat) : Tk (List By) where
  room s n := decide (n + s.length ≤ most)
  plain s p := s ++ p
  reaches s b := decide (b ≤ ahead.length + s.length)
  mat s b n := (cop (ahead ++ s) b n).drop ahead.length
  fin s := s
theorem pl_mat (ahead : List By) (most : Nat) (s : List By) (b n : Nat) (hb : 1 ≤ b) (hr : b ≤ ahead.length + s.length) : ahead ++ (pl ahead most).mat s b n = cop (ahead ++ s) b n := by
  have hp := per_cop (ahead ++ s) b hb (by simp; omega) n
  show ahead ++ (cop (ahead ++ s) b n).drop ahead.length = _
  have h1 : (cop (ahead ++ s) b n).take ahead.length = ahead := by
    have := congrArg (List.take ahead.length) hp.pre
    rw [List.take_take, List.length_append, Nat.min_eq_left (by omega)] at this
    rw [this]; simp
  conv => lhs; lhs; rw [← h1]
  exact List.take_append_drop _ _
theorem pl_mat_length (ahead : List By) (most : Nat) (s : List By) (b n : Nat) : ((pl ahead most).mat s b n).length = s.length + n := by
  show ((cop (ahead ++ s) b n).drop ahead.length).length = _
  rw [List.length_drop, cop_length, List.length_append]; omega
/-- Decode, as the document has it. -/
def dec (b ahead : List By) (most : Int) : List By × Nat × Nat :=
  if most < 0 ∨ 4194304 < most then ([], 0, 1) else
    match scanS (pl ahead most.toNat) b.length b [] with
    | .bad a y => ([], a, y)
    | .good s => (s, 0, 0)
end Go.Proofs.Ytdeefemeiggolaa

namespace Go.Proofs.Ytdeefemeiggolaa
open Go.RowKit
set_option linter.unusedVariables false
theorem matchS_ok {σ : Type} {T : Tk σ} {L low : Nat} {r r5 : List By} {s s2 : σ} (h : matchS T L low r s = .ok r5 s2) : ∃ x y r4 n k, r = x :: y :: r4 ∧ ¬ x.toNat + 256 * y.toNat = 0 ∧ T.reaches s (x.toNat + 256 * y.toNat) = true ∧ num low r4 = some (n, k) ∧ T.room s (n + 4) = true ∧ r5 = r4.drop k ∧ s2 = T.mat s (x.toNat + 256 * y.toNat) (n + 4) := by
  unfold matchS at h
  match r, h with
  | [], h => cases h
  | [_], h => cases h
  | x :: y :: r4, h =>
    simp only at h
    by_cases hc : x.toNat + 256 * y.toNat = 0 ∨ T.reaches s (x.toNat + 256 * y.toNat) = false
    · rw [if_pos hc] at h; cases h
    · rw [if_neg hc] at h
      cases hn : num low r4 with
      | none => rw [hn] at h; cases h
      | some p =>
        obtain ⟨n, k⟩ := p
        rw [hn] at h
        simp only at h
        by_cases hr : T.room s (n + 4) = false
        · rw [if_pos hr] at h; cases h
        · rw [if_neg hr] at h
          injection h with h1 h2
          refine ⟨x, y, r4, n, k, rfl, fun h => hc (.inl h), ?_, hn, by simpa using hr, h1.symm, h2.symm⟩
          cases hq : T.reaches s (x.toNat + 256 * y.toNat) with
          | true => rfl
          | false => exact absurd (.inr hq) hc
theorem scan_bound (ahead : List By) (m L : Nat) : ∀ (q : Nat) (r s s' : List By), r.length ≤ q → s.length ≤ m → scanS (pl ahead m) L r s = .good s' → s'.length ≤ m ∧ s'.length ≤ s.length + 255 * r.length := by
  intro q
  induction q with
  | zero =>
    intro r s s' hr hs h
    obtain rfl : r = [] := List.length_eq_zero_iff.1 (by omega)
    rw [scanS] at h; cases h
  | succ q ih =>
    intro r s s' hr hs h
    cases r with
    | nil => rw [scanS] at h; cases h
    | cons tok r1 =>
      rw [scanS_cons] at h
      have htk := tok.isLt
      cases hp : plainS (pl ahead m) L (tok.toNat / 16) r1 s with
      | bad a y => rw [hp] at h; cases h
      | ok r3 s1 =>
        rw [hp] at h
        obtain ⟨n, k, hn, hroom, hnl, rfl, rfl⟩ := plainS_ok hp
        have hnk := num_le hn (by omega)
        have hroom' : n + s.length ≤ m := by simpa [pl] using hroom
        have hs1 : ((pl ahead m).plain s ((r1.drop k).take n)).length = s.length + n := by
          show (s ++ (r1.drop k).take n).length = _
          simp; omega
        have hl3 : (r1.drop (k + n)).length = r1.length - (k + n) := by simp
        simp only [List.length_cons] at hr ⊢
        simp only at h
        by_cases h3 : r1.drop (k + n) = []
        · rw [if_pos h3] at h
          by_cases hlow : tok.toNat % 16 = 0
          · rw [if_pos hlow] at h
            injection h with h
            subst h
            show ((pl ahead m).plain s ((r1.drop k).take n)).length ≤ m ∧ ((pl ahead m).plain s ((r1.drop k).take n)).length ≤ _
            rw [hs1]; omega
          · rw [if_neg hlow] at h; cases h
        · rw [if_neg h3] at h
          cases hm : matchS (pl ahead m) L (tok.toNat % 16) (r1.drop (k + n)) ((pl ahead m).plain s ((r1.drop k).take n)) with
          | bad a y => rw [hm] at h; cases h
          | ok r5 s2 =>
            rw [hm] at h
            obtain ⟨x, y, r4, n2, k2, hr4, _, _, hn2, hroom2, rfl, rfl⟩ := matchS_ok hm
            have hnk2 := num_le hn2 (by omega)
            rw [hr4] at hl3
            simp only [List.length_cons] at hl3
            have hroom2' : n2 + 4 + ((pl ahead m).plain s ((r1.drop k).take n)).length ≤ m := by simpa [pl] using hroom2
            have := ih (r4.drop k2) _ s' (by simp; omega) (by rw [pl_mat_length]; omega) h
            rw [pl_mat_length, hs1, List.length_drop] at this
            omega
theorem dec_bound (b ahead : List By) (most : Int) : (dec b ahead most).1.length ≤ 4194304 ∧ (dec b ahead most).1.length ≤ 255 * b.length ∧ ((dec b ahead most).2.2 = 0 → ((dec b ahead most).1.length : Int) ≤ most) := by
  unfold dec
  by_cases hm : most < 0 ∨ 4194304 < most
  · rw [if_pos hm]; exact ⟨by simp, by simp, fun h => by cases h⟩
  · rw [if_neg hm]
    cases hs : scanS (pl ahead most.toNat) b.length b [] with
    | bad a y => exact ⟨by simp, by simp, fun _ => by simp; omega⟩
    | good s =>
      have := scan_bound ahead most.toNat b.length b.length b [] s (Nat.le_refl _) (by simp) hs
      refine ⟨by simp only; omega, ?_, fun _ => by simp only; omega⟩
      simpa using this.2
end Go.Proofs.Ytdeefemeiggolaa

namespace Go.Proofs.Ytdeefemeiggolaa
open Go.RowKit
set_option linter.unusedVariables false
theorem plainS_bad {σ : Type} {T : Tk σ} {L low : Nat} {r : List By} {s : σ} {a y : Nat} (h : plainS T L low r s = .bad a y) : a ≤ L ∧ y ≠ 0 := by
  unfold plainS at h
  cases hn : num low r with
  | none => rw [hn] at h; injection h with h1 h2; omega
  | some p =>
    obtain ⟨n, k⟩ := p
    rw [hn] at h
    simp only at h
    split at h
    · injection h with h1 h2; omega
    · split at h
      · injection h with h1 h2; omega
      · cases h
theorem matchS_bad {σ : Type} {T : Tk σ} {L low : Nat} {r : List By} {s : σ} {a y : Nat} (h : matchS T L low r s = .bad a y) : a ≤ L ∧ y ≠ 0 := by
  unfold matchS at h
  match r, h with
  | [], h => injection h with h1 h2; omega
  | [_], h => injection h with h1 h2; omega
  | u :: v :: r4, h =>
    simp only at h
    split at h
    · injection h with h1 h2; omega
    · split at h
      · injection h with h1 h2; omega
      · split at h
        · injection h with h1 h2; omega
        · cases h
theorem scanS_bad {σ : Type} (T : Tk σ) (L : Nat) : ∀ (q : Nat) (r : List By) (s : σ) (a y : Nat), r.length ≤ q → scanS T L r s = .bad a y → a ≤ L ∧ y ≠ 0 := by
  intro q
  induction q with
  | zero =>
    intro r s a y hr h
    obtain rfl : r = [] := List.length_eq_zero_iff.1 (by omega)
    rw [scanS] at h; injection h with h1 h2; omega
  | succ q ih =>
    intro r s a y hr h
    cases r with
    | nil => rw [scanS] at h; injection h with h1 h2; omega
    | cons tok r1 =>
      rw [scanS_cons] at h
      cases hp : plainS T L (tok.toNat / 16) r1 s with
      | bad a' y' =>
        rw [hp] at h; injection h with h1 h2
        subst h1 h2
        exact plainS_bad hp
      | ok r3 s1 =>
        rw [hp] at h
        simp only at h
        have hl3 := plainS_le hp
        by_cases h3 : r3 = []
        · rw [if_pos h3] at h
          split at h
          · cases h
          · injection h with h1 h2; omega
        · rw [if_neg h3] at h
          cases hm : matchS T L (tok.toNat % 16) r3 s1 with
          | bad a' y' =>
            rw [hm] at h; injection h with h1 h2
            subst h1 h2
            exact matchS_bad hm
          | ok r5 s2 =>
            rw [hm] at h
            have hl5 := matchS_le hm
            simp only [List.length_cons] at hr
            exact ih r5 s2 a y (by omega) h
/-- What Decode answers with an error, and without. -/
theorem dec_shape (b ahead : List By) (most : Int) : ((dec b ahead most).2.2 = 0 ∧ (dec b ahead most).2.1 = 0) ∨ ((dec b ahead most).2.2 ≠ 0 ∧ (dec b ahead most).1 = [] ∧ (dec b ahead most).2.1 ≤ b.length) := by
  unfold dec
  by_cases hm : most < 0 ∨ 4194304 < most
  · rw [if_pos hm]; exact .inr ⟨by simp, rfl, by simp⟩
  · rw [if_neg hm]
    cases hs : scanS (pl ahead most.toNat) b.length b [] with
    | bad a y =>
      have := scanS_bad _ _ _ _ _ _ _ (Nat.le_refl _) hs
      exact .inr ⟨this.2, rfl, this.1⟩
    | good s => exact .inl ⟨rfl, rfl⟩
theorem dec_none : dec [] [] 0 = ([], 0, 4) := by
  simp [dec, scanS]
end Go.Proofs.Ytdeefemeiggolaa

namespace Go.Proofs.Ytdeefemeiggolaa
open Go.ChangeShapes Go.WideShapes Go.ChangeAt Go.RowKit Go.Deep
set_option linter.unusedVariables false
theorem cells5 : Try.prog.cellsOf 5 = 1 := by kernel_rfl
theorem bytes5 : Try.prog.bytesOf 5 = 1 := by kernel_rfl
theorem own : ownKnob Try.prog.godebug = none := by kernel_rfl
theorem laidOut : laidOutB Try.prog = true := by kernel_rfl
theorem byte_of {n : Int} (h : (Lit.int .u8 n).wf = true) : (.int .u8 n : Value) = .int .u8 (BitVec.ofNat 8 n.toNat).toNat := by
  have hb : 0 ≤ n ∧ n < 256 := by
    simp [Lit.wf, IntKind.bits, IntKind.signed, IntKind.min, IntKind.max] at h
    omega
  congr 1
  rw [BitVec.toNat_ofNat]; omega
/-- A slice of bytes that came in. -/
theorem openedB {H : Type} {enc : TypeId × Value → H} {W : World} {a : Option Addr} {len cap : Nat} {d : DataW H} {p : List MemPlace} (h : DataW.Trod enc Try.prog W 0 (fun _ => true) true 22 (.slice a len cap) d p) :
    ∃ l : List By, Sl (fun k => W.heap.size ≤ k) (.slice a len cap) l W ∧ l.length = len ∧ (len = 0 ∨ ∃ e s, d = .slice e s ∧ e.length = len) := by
  obtain ⟨fuel, hf⟩ := h
  rcases open_ints (k := .u8) Try.underlying22 Try.underlying5 cells5 hf with ⟨hcs, _⟩ | ⟨x, l, c, zs, hcs, _, hl, hm, hz, hd, hc, hw⟩
  · simp [Value.cells] at hcs
    obtain ⟨rfl, rfl, rfl⟩ := hcs
    exact ⟨[], .inl ⟨none, rfl, rfl⟩, rfl, .inl rfl⟩
  · simp [Value.cells] at hcs
    obtain ⟨rfl, rfl, rfl⟩ := hcs
    simp only [if_true] at hz
    have hlen : ((zs.take len).map (fun n => BitVec.ofNat 8 n.toNat)).length = len := by simp; omega
    refine ⟨(zs.take len).map (fun n => BitVec.ofNat 8 n.toNat), ?_, hlen, .inr ⟨_, _, (Prod.ext_iff.1 hd).1, by simp [lits]; omega⟩⟩
    by_cases h0 : cap = 0
    · subst h0
      obtain rfl : len = 0 := by omega
      exact .inl ⟨_, rfl, by simp⟩
    · obtain ⟨b, off, spot⟩ := x
      have hc0 := hc 0 (by omega)
      have hspot : spot = none := by simpa [Addr.add] using World.cell?_spot hc0
      subst hspot
      have hb : b < W.heap.size := by have := World.block_lt_of_cell? _ _ hc0; simpa [Addr.add] using this
      refine .inr ⟨b, by omega, off, cap, by rw [hlen], by rw [hlen]; exact hl, by unfold maxLen at hm; omega, ?_⟩
      intro j hj
      rw [hlen] at hj
      have hcj := hc j (by omega)
      rw [add_plain] at hcj
      rw [hcj]
      simp only [List.getElem_map, List.getElem_take]
      have hmem : zs.getD j 0 ∈ zs := by
        rw [List.getD_eq_getElem?_getD, List.getElem?_eq_getElem (show j < zs.length by omega)]; simp
      rw [byte_of (hw _ hmem)]
      simp [List.getD_eq_getElem?_getD, List.getElem?_eq_getElem (show j < zs.length by omega)]
end Go.Proofs.Ytdeefemeiggolaa

namespace Go.Proofs.Ytdeefemeiggolaa
open Go.RowKit
set_option linter.unusedVariables false

/-! ### The sums, as the document has them -/
def xnum : List By → Nat
  | [] => 0
  | b :: r => b.toNat + 256 * xnum r
def lo32 (l : List By) : BitVec 32 := BitVec.ofNat 32 (xnum (l.take 4))
def lo64 (l : List By) : BitVec 64 := BitVec.ofNat 64 (xnum (l.take 8))
def by32 (l : List By) : BitVec 32 := BitVec.ofNat 32 (xnum (l.take 1))
def by64 (l : List By) : BitVec 64 := BitVec.ofNat 64 (xnum (l.take 1))
def hf64 (l : List By) : BitVec 64 := BitVec.ofNat 64 (xnum (l.take 4))
/-- k pieces of a size, in turn. -/
def foldc {α : Type} (size : Nat) (f : α → List By → α) : Nat → α → List By → α
  | 0, a, _ => a
  | k + 1, a, l => foldc size f k (f a (l.take size)) (l.drop size)
structure La (n : Nat) where
  a : BitVec n
  b : BitVec n
  c : BitVec n
  d : BitVec n

def rd32 (v w : BitVec 32) : BitVec 32 := (v + w * 2246822519#32).rotateLeft 13 * 2654435761#32
def ini32 (s : BitVec 32) : La 32 := ⟨s + 2654435761#32 + 2246822519#32, s + 2246822519#32, s, s - 2654435761#32⟩
def mix32 (x : La 32) (p : List By) : La 32 := ⟨rd32 x.a (lo32 p), rd32 x.b (lo32 (p.drop 4)), rd32 x.c (lo32 (p.drop 8)), rd32 x.d (lo32 (p.drop 12))⟩
def join32 (x : La 32) : BitVec 32 := x.a.rotateLeft 1 + x.b.rotateLeft 7 + x.c.rotateLeft 12 + x.d.rotateLeft 18
def wd32 (h : BitVec 32) (p : List By) : BitVec 32 := (h + lo32 p * 3266489917#32).rotateLeft 17 * 668265263#32
def bt32 (h : BitVec 32) (p : List By) : BitVec 32 := (h + by32 p * 374761393#32).rotateLeft 11 * 2654435761#32
def xa32 (h : BitVec 32) : BitVec 32 := (h ^^^ (h >>> 15)) * 2246822519#32
def xb32 (h : BitVec 32) : BitVec 32 := (h ^^^ (h >>> 13)) * 3266489917#32
def xc32 (h : BitVec 32) : BitVec 32 := h ^^^ (h >>> 16)
def ava32 (h : BitVec 32) : BitVec 32 := xc32 (xb32 (xa32 h))
def str32 (s : BitVec 32) (l : List By) : La 32 := foldc 16 mix32 (l.length / 16) (ini32 s) l
def beg32 (s : BitVec 32) (l : List By) : BitVec 32 := if l.length < 16 then s + 374761393#32 else join32 (str32 s l)
def fin32 (h : BitVec 32) (t : List By) : BitVec 32 :=
  ava32 (foldc 1 bt32 (t.length % 4) (foldc 4 wd32 (t.length / 4) h t) (t.drop (t.length / 4 * 4)))
def s32 (s : BitVec 32) (l : List By) : BitVec 32 := fin32 (beg32 s l + BitVec.ofNat 32 l.length) (l.drop (l.length / 16 * 16))

def rd64 (v w : BitVec 64) : BitVec 64 := (v + w * 14029467366897019727#64).rotateLeft 31 * 11400714785074694791#64
def ini64 (s : BitVec 64) : La 64 := ⟨s + 11400714785074694791#64 + 14029467366897019727#64, s + 14029467366897019727#64, s, s - 11400714785074694791#64⟩
def mix64 (x : La 64) (p : List By) : La 64 := ⟨rd64 x.a (lo64 p), rd64 x.b (lo64 (p.drop 8)), rd64 x.c (lo64 (p.drop 16)), rd64 x.d (lo64 (p.drop 24))⟩
def jo64 (h v : BitVec 64) : BitVec 64 := (h ^^^ rd64 0#64 v) * 11400714785074694791#64 + 9650029242287828579#64
def joi64 (x : La 64) : BitVec 64 := x.a.rotateLeft 1 + x.b.rotateLeft 7 + x.c.rotateLeft 12 + x.d.rotateLeft 18
def join64 (x : La 64) : BitVec 64 := jo64 (jo64 (jo64 (jo64 (joi64 x) x.a) x.b) x.c) x.d
def wd64 (h : BitVec 64) (p : List By) : BitVec 64 := (h ^^^ rd64 0#64 (lo64 p)).rotateLeft 27 * 11400714785074694791#64 + 9650029242287828579#64
def hw64 (h : BitVec 64) (p : List By) : BitVec 64 := (h ^^^ (hf64 p * 11400714785074694791#64)).rotateLeft 23 * 14029467366897019727#64 + 1609587929392839161#64
def bt64 (h : BitVec 64) (p : List By) : BitVec 64 := (h ^^^ (by64 p * 2870177450012600261#64)).rotateLeft 11 * 11400714785074694791#64
def xa64 (h : BitVec 64) : BitVec 64 := (h ^^^ (h >>> 33)) * 14029467366897019727#64
def xb64 (h : BitVec 64) : BitVec 64 := (h ^^^ (h >>> 29)) * 1609587929392839161#64
def xc64 (h : BitVec 64) : BitVec 64 := h ^^^ (h >>> 32)
def ava64 (h : BitVec 64) : BitVec 64 := xc64 (xb64 (xa64 h))
def str64 (s : BitVec 64) (l : List By) : La 64 := foldc 32 mix64 (l.length / 32) (ini64 s) l
def beg64 (s : BitVec 64) (l : List By) : BitVec 64 := if l.length < 32 then s + 2870177450012600261#64 else join64 (str64 s l)
def fin64 (h : BitVec 64) (t : List By) : BitVec 64 :=
  let t1 := t.drop (t.length / 8 * 8)
  let t2 := t1.drop (t1.length / 4 * 4)
  ava64 (foldc 1 bt64 t2.length (foldc 4 hw64 (t1.length / 4) (foldc 8 wd64 (t.length / 8) h t) t1) t2)
def s64 (s : BitVec 64) (l : List By) : BitVec 64 := fin64 (beg64 s l + BitVec.ofNat 64 l.length) (l.drop (l.length / 32 * 32))

/-! ### Pieces -/
theorem foldc_snoc {α : Type} (size : Nat) (f : α → List By → α) (k : Nat) (a : α) (l : List By) : foldc size f (k + 1) a l = f (foldc size f k a l) ((l.drop (k * size)).take size) := by
  induction k generalizing a l with
  | zero => simp [foldc]
  | succ k ih =>
    show foldc size f (k + 1) (f a (l.take size)) (l.drop size) = _
    rw [ih]
    show f (foldc size f k (f a (l.take size)) (l.drop size)) _ = f (foldc size f k (f a (l.take size)) (l.drop size)) _
    rw [List.drop_drop, show size + k * size = (k + 1) * size by rw [Nat.add_mul]; omega]
theorem foldc_app {α : Type} (size : Nat) (f : α → List By → α) (j k : Nat) (a : α) (x y : List By) (hx : x.length = j * size) : foldc size f (j + k) a (x ++ y) = foldc size f k (foldc size f j a x) y := by
  induction j generalizing a x with
  | zero =>
    have : x = [] := List.length_eq_zero_iff.1 (by simpa using hx)
    subst this; simp [foldc]
  | succ j ih =>
    have hx' : size ≤ x.length := by rw [hx, Nat.add_mul]; omega
    rw [show j + 1 + k = (j + k) + 1 by omega]
    show foldc size f (j + k) (f a ((x ++ y).take size)) ((x ++ y).drop size) = _
    rw [List.take_append_of_le_length hx', List.drop_append_of_le_length hx', ih]
    · rfl
    · simp [hx, Nat.add_mul]
theorem foldc_pre {α : Type} (size : Nat) (f : α → List By → α) (k : Nat) (a : α) (x y : List By) (hx : k * size ≤ x.length) : foldc size f k a (x ++ y) = foldc size f k a x := by
  induction k generalizing a x with
  | zero => rfl
  | succ k ih =>
    have hx' : size ≤ x.length := by rw [Nat.add_mul] at hx; omega
    show foldc size f k (f a ((x ++ y).take size)) ((x ++ y).drop size) = foldc size f k (f a (x.take size)) (x.drop size)
    rw [List.take_append_of_le_length hx', List.drop_append_of_le_length hx', ih]
    rw [Nat.add_mul] at hx
    simp; omega

/-! ### Words -/
theorem num_lt (l : List By) : xnum l < 256 ^ l.length := by
  induction l with
  | nil => simp [xnum]
  | cons b r ih =>
    have := b.isLt
    simp only [xnum, List.length_cons, Nat.pow_succ]
    omega
theorem take4 (l : List By) (h : 4 ≤ l.length) : ∃ a b c d, l.take 4 = [a, b, c, d] ∧ l[0]? = some a ∧ l[1]? = some b ∧ l[2]? = some c ∧ l[3]? = some d := by
  match l, h with
  | a :: b :: c :: d :: r, _ => exact ⟨a, b, c, d, rfl, rfl, rfl, rfl, rfl⟩
theorem lo32_nat (l : List By) (a b c d : By) (h : l.take 4 = [a, b, c, d]) : (lo32 l).toNat = a.toNat + b.toNat * 256 + c.toNat * 65536 + d.toNat * 16777216 := by
  have ha := a.isLt; have hb := b.isLt; have hc := c.isLt; have hd := d.isLt
  simp only [lo32, h, xnum, BitVec.toNat_ofNat]
  omega
theorem num_app (x y : List By) : xnum (x ++ y) = xnum x + 256 ^ x.length * xnum y := by
  induction x with
  | nil => simp [xnum]
  | cons b r ih => simp only [List.cons_append, xnum, ih, List.length_cons, Nat.pow_succ, Nat.mul_add]; rw [Nat.mul_comm (256 ^ r.length) 256, Nat.mul_assoc]; omega
theorem lo64_nat (l : List By) (h : 8 ≤ l.length) : (lo64 l).toNat = (lo32 l).toNat + (lo32 (l.drop 4)).toNat * 4294967296 := by
  have h1 : l.take 8 = l.take 4 ++ (l.drop 4).take 4 := by rw [show (8 : Nat) = 4 + 4 from rfl, List.take_add]
  have e1 : (l.take 4).length = 4 := by simp; omega
  have e2 : ((l.drop 4).take 4).length = 4 := by simp; omega
  have b1 := num_lt (l.take 4)
  have b2 := num_lt ((l.drop 4).take 4)
  rw [e1] at b1; rw [e2] at b2
  simp only [lo64, lo32, BitVec.toNat_ofNat, h1, num_app, e1]
  omega
theorem hf64_nat (l : List By) (h : 4 ≤ l.length) : (hf64 l).toNat = (lo32 l).toNat := by
  have e1 : (l.take 4).length = 4 := by simp; omega
  have b1 := num_lt (l.take 4)
  rw [e1] at b1
  simp only [hf64, lo32, BitVec.toNat_ofNat]
  omega
theorem by32_nat (l : List By) (a : By) (h : l[0]? = some a) : (by32 l).toNat = a.toNat := by
  match l, h with
  | x :: r, h =>
    simp at h; subst h
    have := x.isLt
    simp only [by32, List.take_succ_cons, List.take_zero, xnum, BitVec.toNat_ofNat]
    omega
theorem by64_nat (l : List By) (a : By) (h : l[0]? = some a) : (by64 l).toNat = a.toNat := by
  match l, h with
  | x :: r, h =>
    simp at h; subst h
    have := x.isLt
    simp only [by64, List.take_succ_cons, List.take_zero, xnum, BitVec.toNat_ofNat]
    omega

/-! ### Numbers of 32 and 64 bits, as the machine reckons -/
theorem i_add32 (x y : BitVec 32) : ((x + y).toNat : Int) = ((x.toNat : Int) + y.toNat) % 4294967296 := by rw [BitVec.toNat_add]; omega
theorem i_mul32 (x y : BitVec 32) : ((x * y).toNat : Int) = ((x.toNat : Int) * y.toNat) % 4294967296 := by rw [BitVec.toNat_mul]; simp
theorem i_add64 (x y : BitVec 64) : ((x + y).toNat : Int) = ((x.toNat : Int) + y.toNat) % 18446744073709551616 := by rw [BitVec.toNat_add]; omega
theorem i_mul64 (x y : BitVec 64) : ((x * y).toNat : Int) = ((x.toNat : Int) * y.toNat) % 18446744073709551616 := by rw [BitVec.toNat_mul]; simp
theorem i_sub32 (x y : BitVec 32) : ((x - y).toNat : Int) = ((x.toNat : Int) - y.toNat) % 4294967296 := by
  have hx := x.isLt; have hy := y.isLt
  rw [BitVec.toNat_sub]; omega
theorem i_sub64 (x y : BitVec 64) : ((x - y).toNat : Int) = ((x.toNat : Int) - y.toNat) % 18446744073709551616 := by
  have hx := x.isLt; have hy := y.isLt
  rw [BitVec.toNat_sub]; omega
theorem i_xor32 (x y : BitVec 32) : bits .xor .u32 (x.toNat : Int) (y.toNat : Int) = ((x ^^^ y).toNat : Int) := by
  rw [u32_xor_nat _ _ x.isLt y.isLt, BitVec.toNat_xor]
theorem i_xor64 (x y : BitVec 64) : bits .xor .u64 (x.toNat : Int) (y.toNat : Int) = ((x ^^^ y).toNat : Int) := by
  rw [u64_xor_nat _ _ x.isLt y.isLt, BitVec.toNat_xor]
theorem i_shr {n : Nat} (x : BitVec n) (k : Nat) : ((x >>> k).toNat : Int) = (x.toNat : Int) / (2 ^ k : Nat) := by
  rw [BitVec.toNat_ushiftRight, Nat.shiftRight_eq_div_pow]; rfl
theorem rotl {n : Nat} (x : BitVec n) (k : Nat) (h1 : k < n) : (x.rotateLeft k).toNat = (x.toNat * 2 ^ k % 2 ^ n) ||| (x.toNat / 2 ^ (n - k)) := by
  rw [BitVec.rotateLeft_def, Nat.mod_eq_of_lt h1, BitVec.toNat_or, BitVec.toNat_shiftLeft, BitVec.toNat_ushiftRight, Nat.shiftLeft_eq, Nat.shiftRight_eq_div_pow]
theorem rotl_add {n : Nat} (x : BitVec n) (k : Nat) (h1 : k < n) : (x.rotateLeft k).toNat = (x.toNat * 2 ^ k % 2 ^ n) + (x.toNat / 2 ^ (n - k)) := by
  rw [rotl x k h1]
  apply nat_join k
  · rw [show 2 ^ n = 2 ^ k * 2 ^ (n - k) by rw [← Nat.pow_add]; congr 1; omega, Nat.mul_comm (x.toNat), Nat.mul_mod_mul_left, Nat.mul_mod_right]
  · have hx := x.isLt
    have e : 2 ^ n = 2 ^ k * 2 ^ (n - k) := by rw [← Nat.pow_add]; congr 1; omega
    rw [e] at hx
    exact (Nat.div_lt_iff_lt_mul (Nat.two_pow_pos _)).2 hx
end Go.Proofs.Ytdeefemeiggolaa

namespace Go.Proofs.Ytdeefemeiggolaa
open Go.RowKit
set_option linter.unusedVariables false

/-! ### What the document says of frames -/
/-- A number, lowest byte first. -/
def le : List By → Nat
  | [] => 0
  | b :: r => b.toNat + 256 * le r
/-- The lowest bytes of a number. -/
def lows (n : Nat) : Nat → List By
  | 0 => []
  | k + 1 => BitVec.ofNat 8 n :: lows (n / 256) k
theorem lows_length (n k : Nat) : (lows n k).length = k := by
  induction k generalizing n with
  | zero => rfl
  | succ k ih => simp [lows, ih]
theorem le_lt (l : List By) : le l < 256 ^ l.length := by
  induction l with
  | nil => simp [le]
  | cons b r ih =>
    have := b.isLt
    simp only [le, List.length_cons, Nat.pow_succ]
    omega
theorem le_lows (n k : Nat) (h : n < 256 ^ k) : le (lows n k) = n := by
  induction k generalizing n with
  | zero => simp at h; subst h; rfl
  | succ k ih =>
    rw [Nat.pow_succ] at h
    simp only [lows, le, BitVec.toNat_ofNat]
    rw [ih _ (by omega)]
    omega
theorem lows_le (l : List By) (k : Nat) (hk : l.length = k) : lows (le l) k = l := by
  induction l generalizing k with
  | nil => subst hk; rfl
  | cons b r ih =>
    subst hk
    have hb := b.isLt
    simp only [List.length_cons, lows, le]
    rw [show (b.toNat + 256 * le r) / 256 = le r by omega, ih _ rfl]
    congr 1
    apply BitVec.eq_of_toNat_eq
    rw [BitVec.toNat_ofNat]; omega
theorem le_snoc (l : List By) (b : By) : le (l ++ [b]) = le l + b.toNat * 256 ^ l.length := by
  induction l with
  | nil => simp [le]
  | cons a r ih => simp only [List.cons_append, le, ih, List.length_cons, Nat.pow_succ, Nat.mul_add]; rw [Nat.mul_comm 256 (b.toNat * _), Nat.mul_assoc]; omega
/-- n bytes from a place on. -/
def tk (b : List By) (p n : Nat) : List By := (b.drop p).take n
theorem tk_length (b : List By) (p n : Nat) (h : p + n ≤ b.length) : (tk b p n).length = n := by simp [tk]; omega
structure Shp where
  block : Nat
  alone : Bool
  bsum : Bool
  csum : Bool
  csize : Bool
deriving DecidableEq
def siz (s : Shp) : Nat := 2 ^ (8 + 2 * s.block)
/-- The sum of bytes; the head's byte. -/
def sm (l : List By) : Nat := (s32 0#32 l).toNat
def hs (l : List By) : By := BitVec.ofNat 8 (sm l / 256)
theorem sm_lt (l : List By) : sm l < 4294967296 := (s32 0#32 l).isLt
inductive Rz (α : Type) where
  | bad (at' why : Nat)
  | ok (x : α)
def flg (f : By) : Nat := if f.toNat / 64 ≠ 1 then 40 else if f.toNat / 2 % 2 = 1 then 41 else if f.toNat % 2 = 1 then 47 else 0
def shp (f d : By) : Shp := ⟨d.toNat / 16, decide (f.toNat / 32 % 2 = 1), decide (f.toNat / 16 % 2 = 1), decide (f.toNat / 4 % 2 = 1), decide (f.toNat / 8 % 2 = 1)⟩
def dsc (d : By) : Prop := d.toNat / 128 = 1 ∨ d.toNat % 16 ≠ 0 ∨ d.toNat / 16 < 4
instance (d : By) : Decidable (dsc d) := by unfold dsc; infer_instance
def hl (s : Shp) : Nat := if s.csize = true then 10 else 2
/-- A head at a place: the shape, the content's size, where it ends. -/
def headF (b : List By) (p : Nat) : Rz (Shp × Nat × Nat) :=
  match b[p]? with
  | none => .bad b.length 4
  | some f => if flg f ≠ 0 then .bad p (flg f) else
    match b[p + 1]? with
    | none => .bad b.length 4
    | some d => if dsc d then .bad (p + 1) 41
      else if b.length < p + hl (shp f d) + 1 then .bad b.length 4
      else if b[p + hl (shp f d)]? ≠ some (hs (tk b p (hl (shp f d)))) then .bad (p + hl (shp f d)) 42
      else .ok (shp f d, le (tk b (p + 2) (hl (shp f d) - 2)), p + hl (shp f d) + 1)
inductive Bk where
  | bad (at' why : Nat)
  | fin
  | ok (p : Nat) (out : List By) (plain : Bool)
def bs (s : Shp) : Nat := if s.bsum = true then 4 else 0
/-- What a block's matches may reach. -/
def ahd (s : Shp) (began : Nat) (out : List By) : List By := if s.alone = true then [] else out.drop began
/-- A block at a place. -/
def blockF (b : List By) (most : Nat) (s : Shp) (began p : Nat) (out : List By) : Bk :=
  if b.length < p + 4 then .bad b.length 4
  else if le (tk b p 4) = 0 then .fin
  else if siz s < le (tk b p 4) % 2147483648 then .bad p 43
  else if b.length < p + 4 + le (tk b p 4) % 2147483648 + bs s then .bad b.length 4
  else if s.bsum = true ∧ le (tk b (p + 4 + le (tk b p 4) % 2147483648) 4) ≠ sm (tk b (p + 4) (le (tk b p 4) % 2147483648)) then .bad (p + 4 + le (tk b p 4) % 2147483648) 44
  else if 2147483648 ≤ le (tk b p 4) then
    if most - out.length < le (tk b p 4) % 2147483648 then .bad (p + 4) 32
    else .ok (p + 4 + le (tk b p 4) % 2147483648 + bs s) (out ++ tk b (p + 4) (le (tk b p 4) % 2147483648)) true
  else
    let r := dec (tk b (p + 4) (le (tk b p 4) % 2147483648)) (ahd s began out) ((min (siz s) (most - out.length) : Nat) : Int)
    if r.2.2 ≠ 0 then .bad (p + 4 + r.2.1) r.2.2 else .ok (p + 4 + le (tk b p 4) % 2147483648 + bs s) (out ++ r.1) false
theorem blockF_ok {b : List By} {most : Nat} {s : Shp} {began p : Nat} {out : List By} {p' : Nat} {out' : List By} {q : Bool} (h : blockF b most s began p out = .ok p' out' q) : p + 4 ≤ p' ∧ p' ≤ b.length ∧ p' = p + 4 + le (tk b p 4) % 2147483648 + bs s ∧ ∃ x, out' = out ++ x := by
  unfold blockF at h
  split at h
  · cases h
  split at h
  · cases h
  split at h
  · cases h
  split at h
  · cases h
  split at h
  · cases h
  split at h
  · split at h
    · cases h
    · injection h with h1 h2 h3
      exact ⟨by omega, by omega, h1.symm, _, h2.symm⟩
  · simp only at h
    split at h
    · cases h
    · injection h with h1 h2 h3
      exact ⟨by omega, by omega, h1.symm, _, h2.symm⟩
theorem blockF_fin {b : List By} {most : Nat} {s : Shp} {began p : Nat} {out : List By} (h : blockF b most s began p out = .fin) : p + 4 ≤ b.length ∧ le (tk b p 4) = 0 := by
  unfold blockF at h
  split at h
  · cases h
  split at h
  · rename_i h1 h2; exact ⟨by omega, h2⟩
  split at h
  · cases h
  split at h
  · cases h
  split at h
  · cases h
  split at h
  · split at h
    · cases h
    · cases h
  · simp only at h
    split at h
    · cases h
    · cases h
/-- Blocks from a place on, to the frame's end. -/
def blocksF (b : List By) (most : Nat) (s : Shp) (began : Nat) (p : Nat) (out : List By) (k q : Nat) : Rz (Nat × List By × Nat × Nat) :=
  match blockF b most s began p out with
  | .bad a y => .bad a y
  | .fin => .ok (p, out, k, q)
  | .ok p' out' pl => if h : p < p' ∧ p' ≤ b.length then blocksF b most s began p' out' (k + 1) (if pl = true then q + 1 else q) else .bad 0 0
termination_by b.length - p
theorem blocksF_eq (b : List By) (most : Nat) (s : Shp) (began : Nat) (p : Nat) (out : List By) (k q : Nat) : blocksF b most s began p out k q =
    match blockF b most s began p out with
    | .bad a y => .bad a y
    | .fin => .ok (p, out, k, q)
    | .ok p' out' pl => blocksF b most s began p' out' (k + 1) (if pl = true then q + 1 else q) := by
  rw [blocksF]
  cases hb : blockF b most s began p out with
  | bad a y => rfl
  | fin => rfl
  | ok p' out' pl =>
    have := blockF_ok hb
    simp only
    rw [dif_pos ⟨by omega, this.2.1⟩]
structure Fm where
  frm : Nat
  till : Nat
  skipped : Bool
  user : Nat
  shape : Shp
  blocks : Nat
  plain : Nat
  size : Nat
deriving DecidableEq
def Shp.zero : Shp := ⟨0, false, false, false, false⟩
def Fm.start (p : Nat) : Fm := ⟨p, 0, false, 0, Shp.zero, 0, 0, 0⟩
/-- A frame behind its magic, which stands at p. -/
def frameF (b : List By) (most p : Nat) (out : List By) : Rz (Fm × List By) :=
  match headF b (p + 4) with
  | .bad a y => .bad a y
  | .ok (s, size, p1) =>
    match blocksF b most s out.length p1 out 0 0 with
    | .bad a y => .bad a y
    | .ok (p2, out', k, q) =>
      if s.csize = true ∧ size ≠ out'.length - out.length then .bad p2 45
      else if s.csum = true then
        if b.length < p2 + 8 then .bad b.length 4
        else if le (tk b (p2 + 4) 4) ≠ sm (out'.drop out.length) then .bad (p2 + 4) 46
        else .ok (⟨p, p2 + 8, false, 0, s, k, q, out'.length - out.length⟩, out')
      else .ok (⟨p, p2 + 4, false, 0, s, k, q, out'.length - out.length⟩, out')
/-- A frame of either kind. -/
def nextF (b : List By) (most p : Nat) (out : List By) : Rz (Fm × List By) :=
  if b.length < p + 4 then .bad b.length 4
  else if le (tk b p 4) = 407708164 then frameF b most p out
  else if le (tk b p 4) / 16 = 25481893 then
    if b.length < p + 8 then .bad b.length 4
    else if b.length < p + 8 + le (tk b (p + 4) 4) then .bad b.length 4
    else .ok (⟨p, p + 8 + le (tk b (p + 4) 4), true, le (tk b p 4) % 16, Shp.zero, 0, 0, 0⟩, out)
  else .bad p 130
theorem headF_ok {b : List By} {p : Nat} {s : Shp} {n p1 : Nat} (h : headF b p = .ok (s, n, p1)) : p1 = p + hl s + 1 ∧ p1 ≤ b.length ∧ 4 ≤ s.block ∧ s.block ≤ 7 := by
  unfold headF at h
  split at h
  · cases h
  split at h
  · cases h
  split at h
  · cases h
  split at h
  · cases h
  split at h
  · cases h
  split at h
  · cases h
  · rename_i f hf h1 d hd h2 h3 h4
    injection h with h
    injection h with h5 h
    injection h with h6 h7
    subst h5
    refine ⟨h7.symm, by omega, ?_, ?_⟩
    · simp only [dsc] at h2; simp only [shp]; omega
    · simp only [dsc] at h2; simp only [shp]; have := d.isLt; omega
theorem blocksF_ok {b : List By} {most : Nat} {s : Shp} {began p : Nat} {out : List By} {k q p2 : Nat} {out' : List By} {k' q' : Nat} (h : blocksF b most s began p out k q = .ok (p2, out', k', q')) : p ≤ p2 ∧ p2 + 4 ≤ b.length ∧ ∃ x, out' = out ++ x := by
  induction hn : b.length - p using Nat.strongRecOn generalizing p out k q with
  | ind n ih =>
    rw [blocksF_eq] at h
    cases hb : blockF b most s began p out with
    | bad a y => simp [hb] at h
    | fin =>
      rw [hb] at h
      injection h with h
      injection h with h1 h
      injection h with h2 h
      have := blockF_fin hb
      subst h1; subst h2
      exact ⟨by omega, by omega, [], by simp⟩
    | ok p' o' pl =>
      rw [hb] at h
      obtain ⟨h1, h2, h3, x, h4⟩ := blockF_ok hb
      obtain ⟨g1, g2, y, g3⟩ := ih (b.length - p') (by omega) h rfl
      exact ⟨by omega, g2, x ++ y, by rw [g3, h4, List.append_assoc]⟩
theorem frameF_ok {b : List By} {most p : Nat} {out : List By} {f : Fm} {out' : List By} (h : frameF b most p out = .ok (f, out')) : f.frm = p ∧ p + 11 ≤ f.till ∧ f.till ≤ b.length ∧ f.skipped = false ∧ (∃ x, out' = out ++ x) ∧ f.size = out'.length - out.length := by
  unfold frameF at h
  split at h
  · cases h
  rename_i s size p1 hh
  have h1 := headF_ok hh
  have h2 : 2 ≤ hl s := by unfold hl; split <;> omega
  split at h
  · cases h
  rename_i p2 o' k q hb
  have h3 := blocksF_ok hb
  split at h
  · cases h
  split at h
  · split at h
    · cases h
    split at h
    · cases h
    · injection h with h
      injection h with h4 h5
      subst h5; subst h4
      exact ⟨rfl, by simp only; omega, by simp only; omega, rfl, h3.2.2, rfl⟩
  · injection h with h
    injection h with h4 h5
    subst h5; subst h4
    exact ⟨rfl, by simp only; omega, by simp only; omega, rfl, h3.2.2, rfl⟩
theorem nextF_ok {b : List By} {most p : Nat} {out : List By} {f : Fm} {out' : List By} (h : nextF b most p out = .ok (f, out')) : f.frm = p ∧ p + 8 ≤ f.till ∧ f.till ≤ b.length ∧ (∃ x, out' = out ++ x) ∧ f.size = out'.length - out.length := by
  unfold nextF at h
  split at h
  · cases h
  split at h
  · have := frameF_ok h
    exact ⟨this.1, by omega, this.2.2.1, this.2.2.2.2⟩
  split at h
  · split at h
    · cases h
    split at h
    · cases h
    · injection h with h
      injection h with h4 h5
      subst h5; subst h4
      exact ⟨rfl, by simp only; omega, by simp only; omega, ⟨[], by simp⟩, by simp⟩
  · cases h
/-- Frames from a place on. -/
def readF (b : List By) (most p : Nat) (out : List By) (fs : List Fm) : Rz (List By × List Fm) :=
  if p < b.length then
    match nextF b most p out with
    | .bad a y => .bad a y
    | .ok (f, out') => if h : p < f.till ∧ f.till ≤ b.length then readF b most f.till out' (fs ++ [f]) else .bad 0 0
  else .ok (out, fs)
termination_by b.length - p
theorem readF_eq (b : List By) (most p : Nat) (out : List By) (fs : List Fm) : readF b most p out fs =
    if p < b.length then
      match nextF b most p out with
      | .bad a y => .bad a y
      | .ok (f, out') => readF b most f.till out' (fs ++ [f])
    else .ok (out, fs) := by
  rw [readF]
  split
  · cases hb : nextF b most p out with
    | bad a y => rfl
    | ok r =>
      obtain ⟨f, o⟩ := r
      have := nextF_ok hb
      simp only
      rw [dif_pos ⟨by omega, by omega⟩]
  · rfl
end Go.Proofs.Ytdeefemeiggolaa

namespace Go.Proofs.Ytdeefemeiggolaa
open Go.RowKit
set_option linter.unusedVariables false
/-! ### With other room -/
theorem scan_room (ahead : List By) (m m' L : Nat) : ∀ (q : Nat) (r s s' : List By), r.length ≤ q → scanS (pl ahead m) L r s = .good s' → s'.length ≤ m' → s.length ≤ s'.length ∧ scanS (pl ahead m') L r s = .good s' := by
  intro q
  induction q with
  | zero =>
    intro r s s' hr h hb
    obtain rfl : r = [] := List.length_eq_zero_iff.1 (by omega)
    rw [scanS] at h; cases h
  | succ q ih =>
    intro r s s' hr h hb
    cases r with
    | nil => rw [scanS] at h; cases h
    | cons tok r1 =>
      rw [scanS_cons] at h ⊢
      cases hp : plainS (pl ahead m) L (tok.toNat / 16) r1 s with
      | bad a y => rw [hp] at h; cases h
      | ok r3 s1 =>
        rw [hp] at h
        obtain ⟨n, k, hn, hroom, hnl, rfl, rfl⟩ := plainS_ok hp
        have hs1 : ((pl ahead m).plain s ((r1.drop k).take n)).length = s.length + n := by
          show (s ++ (r1.drop k).take n).length = _
          simp; omega
        have hl3 : (r1.drop (k + n)).length = r1.length - (k + n) := by simp
        have hp' : n + s.length ≤ m' → plainS (pl ahead m') L (tok.toNat / 16) r1 s = .ok (r1.drop (k + n)) ((pl ahead m).plain s ((r1.drop k).take n)) := by
          intro hle
          unfold plainS
          rw [hn]
          simp only
          rw [if_neg (by simp [pl]; exact hle), if_neg (by omega)]
          rfl
        simp only [List.length_cons] at hr
        simp only at h
        by_cases h3 : r1.drop (k + n) = []
        · rw [if_pos h3] at h
          by_cases hlow : tok.toNat % 16 = 0
          · rw [if_pos hlow] at h
            injection h with h
            have hl : s'.length = s.length + n := by rw [← h]; exact hs1
            rw [hp' (by omega)]
            simp only
            rw [if_pos h3, if_pos hlow]
            exact ⟨by omega, by rw [← h]; rfl⟩
          · rw [if_neg hlow] at h; cases h
        · rw [if_neg h3] at h
          cases hm : matchS (pl ahead m) L (tok.toNat % 16) (r1.drop (k + n)) ((pl ahead m).plain s ((r1.drop k).take n)) with
          | bad a y => rw [hm] at h; cases h
          | ok r5 s2 =>
            rw [hm] at h
            obtain ⟨x, y, r4, n2, k2, hr4, hz, hre, hn2, hroom2, rfl, rfl⟩ := matchS_ok hm
            rw [hr4] at hl3
            simp only [List.length_cons] at hl3
            obtain ⟨i1, i2⟩ := ih (r4.drop k2) _ s' (by simp; omega) h hb
            rw [pl_mat_length, hs1] at i1
            have hm' : matchS (pl ahead m') L (tok.toNat % 16) (r1.drop (k + n)) ((pl ahead m).plain s ((r1.drop k).take n)) = .ok (r4.drop k2) ((pl ahead m).mat ((pl ahead m).plain s ((r1.drop k).take n)) (x.toNat + 256 * y.toNat) (n2 + 4)) := by
              rw [hr4]
              simp only [matchS]
              rw [if_neg (fun hx => by rcases hx with hx | hx; exact hz hx; (have hre' : (pl ahead m').reaches ((pl ahead m).plain s ((r1.drop k).take n)) (x.toNat + 256 * y.toNat) = true := hre; rw [hre'] at hx; cases hx)), hn2]
              simp only
              rw [if_neg (by
                have : n2 + 4 + ((pl ahead m).plain s ((r1.drop k).take n)).length ≤ m' := by rw [hs1]; omega
                show ¬ decide _ = false
                rw [decide_eq_false_iff_not]
                exact fun h => h this)]
              rfl
            rw [hp' (by omega)]
            simp only
            rw [if_neg h3, hm']
            exact ⟨by omega, i2⟩
theorem dec_room {b ahead : List By} {m m' : Nat} (hm : m ≤ 4194304) (hm' : m' ≤ 4194304) (h : (dec b ahead (m : Int)).2.2 = 0) (hl : (dec b ahead (m : Int)).1.length ≤ m') : dec b ahead (m' : Int) = dec b ahead (m : Int) := by
  unfold dec at h hl ⊢
  rw [if_neg (by omega)] at h hl ⊢
  rw [if_neg (by omega)]
  simp only [Int.toNat_natCast] at h hl ⊢
  cases hs : scanS (pl ahead m) b.length b [] with
  | bad a y =>
    rw [hs] at h
    simp only at h
    have := scanS_bad _ _ b.length b [] a y (Nat.le_refl _) hs
    exact absurd h this.2
  | good s =>
    rw [hs] at hl
    simp only at hl
    rw [(scan_room ahead m m' b.length b.length b [] s (Nat.le_refl _) hs hl).2]
theorem blockF_room {b : List By} {most most' : Nat} {s : Shp} {began p : Nat} {out : List By} {p' : Nat} {out' : List By} {q : Bool} (hm : most ≤ 4194304) (hm' : most' ≤ 4194304) (h : blockF b most s began p out = .ok p' out' q) (hl : out'.length ≤ most') : blockF b most' s began p out = .ok p' out' q := by
  unfold blockF at h ⊢
  split at h
  · cases h
  rename_i h1
  rw [if_neg h1]
  split at h
  · cases h
  rename_i h2
  rw [if_neg h2]
  split at h
  · cases h
  rename_i h3
  rw [if_neg h3]
  split at h
  · cases h
  rename_i h4
  rw [if_neg h4]
  split at h
  · cases h
  rename_i h5
  rw [if_neg h5]
  split at h
  · rename_i h6
    rw [if_pos h6]
    split at h
    · cases h
    · injection h with g1 g2 g3
      have hlen := congrArg List.length g2
      rw [List.length_append, tk_length b (p + 4) _ (by omega)] at hlen
      rw [if_neg (by omega), g1, g2, g3]
  · rename_i h6
    rw [if_neg h6]
    simp only at h ⊢
    split at h
    · cases h
    · rename_i h7
      injection h with g1 g2 g3
      have hz : (dec (tk b (p + 4) (le (tk b p 4) % 2147483648)) (ahd s began out) ((min (siz s) (most - out.length) : Nat) : Int)).2.2 = 0 := by omega
      have hbd := (dec_bound (tk b (p + 4) (le (tk b p 4) % 2147483648)) (ahd s began out) ((min (siz s) (most - out.length) : Nat) : Int)).2.2 hz
      have hlen := congrArg List.length g2
      rw [List.length_append] at hlen
      rw [dec_room (m := min (siz s) (most - out.length)) (m' := min (siz s) (most' - out.length)) (by omega) (by omega) hz (by omega), if_neg h7, g1, g2, g3]
theorem blocksF_room {b : List By} {most most' : Nat} {s : Shp} {began p : Nat} {out : List By} {k q p2 : Nat} {out' : List By} {k' q' : Nat} (hm : most ≤ 4194304) (hm' : most' ≤ 4194304) (h : blocksF b most s began p out k q = .ok (p2, out', k', q')) (hl : out'.length ≤ most') : blocksF b most' s began p out k q = .ok (p2, out', k', q') := by
  induction hn : b.length - p using Nat.strongRecOn generalizing p out k q with
  | ind n ih =>
    rw [blocksF_eq] at h ⊢
    cases hb : blockF b most s began p out with
    | bad a y => rw [hb] at h; cases h
    | fin =>
      rw [hb] at h
      have : blockF b most' s began p out = .fin := by
        have := blockF_fin hb
        unfold blockF
        rw [if_neg (by omega), if_pos this.2]
      rw [this]
      exact h
    | ok p' o' pl =>
      rw [hb] at h
      obtain ⟨h1, h2, h3, x, h4⟩ := blockF_ok hb
      obtain ⟨g1, g2, y, g3⟩ := blocksF_ok h
      rw [blockF_room hm hm' hb (by rw [g3, List.length_append] at hl; omega)]
      exact ih (b.length - p') (by omega) h rfl
theorem frameF_room {b : List By} {most most' p : Nat} {out : List By} {f : Fm} {out' : List By} (hm : most ≤ 4194304) (hm' : most' ≤ 4194304) (h : frameF b most p out = .ok (f, out')) (hl : out'.length ≤ most') : frameF b most' p out = .ok (f, out') := by
  unfold frameF at h ⊢
  cases hh : headF b (p + 4) with
  | bad a y => rw [hh] at h; cases h
  | ok r =>
    obtain ⟨s, size, p1⟩ := r
    rw [hh] at h
    simp only at h ⊢
    cases hb : blocksF b most s out.length p1 out 0 0 with
    | bad a y => rw [hb] at h; cases h
    | ok r2 =>
      obtain ⟨p2, o2, k, q⟩ := r2
      rw [hb] at h
      have he : o2 = out' := by
        simp only at h
        split at h
        · cases h
        split at h
        · split at h
          · cases h
          split at h
          · cases h
          · injection h with h; injection h with _ h
        · injection h with h; injection h with _ h
      rw [blocksF_room hm hm' hb (by rw [he]; exact hl)]
      exact h
theorem nextF_room {b : List By} {most most' p : Nat} {out : List By} {f : Fm} {out' : List By} (hm : most ≤ 4194304) (hm' : most' ≤ 4194304) (h : nextF b most p out = .ok (f, out')) (hl : out'.length ≤ most') : nextF b most' p out = .ok (f, out') := by
  unfold nextF at h ⊢
  split at h
  · cases h
  rename_i h1
  rw [if_neg h1]
  split at h
  · rename_i h2
    rw [if_pos h2]
    exact frameF_room hm hm' h hl
  · rename_i h2
    rw [if_neg h2]
    exact h
theorem readF_grow {b : List By} {most p : Nat} {out : List By} {fs : List Fm} {out' : List By} {fs' : List Fm} (h : readF b most p out fs = .ok (out', fs')) : out.length ≤ out'.length := by
  induction hn : b.length - p using Nat.strongRecOn generalizing p out fs with
  | ind n ih =>
    rw [readF_eq] at h
    split at h
    · cases hb : nextF b most p out with
      | bad a y => rw [hb] at h; cases h
      | ok r =>
        obtain ⟨f, o⟩ := r
        rw [hb] at h
        obtain ⟨h1, h2, h3, ⟨x, h4⟩, h5⟩ := nextF_ok hb
        have := ih (b.length - f.till) (by omega) h rfl
        rw [h4, List.length_append] at this
        omega
    · injection h with h
      injection h with h _
      rw [h]
      exact Nat.le_refl _
theorem readF_room {b : List By} {most most' p : Nat} {out : List By} {fs : List Fm} {out' : List By} {fs' : List Fm} (hm : most ≤ 4194304) (hm' : most' ≤ 4194304) (h : readF b most p out fs = .ok (out', fs')) (hl : out'.length ≤ most') : readF b most' p out fs = .ok (out', fs') := by
  induction hn : b.length - p using Nat.strongRecOn generalizing p out fs with
  | ind n ih =>
    rw [readF_eq] at h ⊢
    split at h
    · rename_i h1
      rw [if_pos h1]
      cases hb : nextF b most p out with
      | bad a y => rw [hb] at h; cases h
      | ok r =>
        obtain ⟨f, o⟩ := r
        rw [hb] at h
        have hg := readF_grow h
        obtain ⟨_, h2, h3, _⟩ := nextF_ok hb
        rw [nextF_room hm hm' hb (by omega)]
        exact ih (b.length - f.till) (by omega) h rfl
    · rename_i h1
      rw [if_neg h1]
      exact h
/-! ### Never more than may be -/
theorem blockF_bound {b : List By} {most : Nat} {s : Shp} {began p : Nat} {out : List By} {p' : Nat} {out' : List By} {q : Bool} (ho : out.length ≤ most) (h : blockF b most s began p out = .ok p' out' q) : out'.length ≤ most := by
  unfold blockF at h
  split at h
  · cases h
  split at h
  · cases h
  split at h
  · cases h
  split at h
  · cases h
  rename_i h4
  split at h
  · cases h
  split at h
  · split at h
    · cases h
    · injection h with g1 g2 g3
      rw [← g2, List.length_append, tk_length b (p + 4) _ (by omega)]
      omega
  · simp only at h
    split at h
    · cases h
    · rename_i h7
      injection h with g1 g2 g3
      have hbd := (dec_bound (tk b (p + 4) (le (tk b p 4) % 2147483648)) (ahd s began out) ((min (siz s) (most - out.length) : Nat) : Int)).2.2 (by omega)
      rw [← g2, List.length_append]
      omega
theorem blocksF_bound {b : List By} {most : Nat} {s : Shp} {began p : Nat} {out : List By} {k q p2 : Nat} {out' : List By} {k' q' : Nat} (ho : out.length ≤ most) (h : blocksF b most s began p out k q = .ok (p2, out', k', q')) : out'.length ≤ most := by
  induction hn : b.length - p using Nat.strongRecOn generalizing p out k q with
  | ind n ih =>
    rw [blocksF_eq] at h
    cases hb : blockF b most s began p out with
    | bad a y => rw [hb] at h; cases h
    | fin =>
      rw [hb] at h
      injection h with h
      injection h with _ h
      injection h with h _
      rw [← h]; exact ho
    | ok p' o' pl =>
      rw [hb] at h
      obtain ⟨h1, h2, h3, x, h4⟩ := blockF_ok hb
      exact ih (b.length - p') (by omega) (blockF_bound ho hb) h rfl
theorem frameF_bound {b : List By} {most p : Nat} {out : List By} {f : Fm} {out' : List By} (ho : out.length ≤ most) (h : frameF b most p out = .ok (f, out')) : out'.length ≤ most := by
  unfold frameF at h
  split at h
  · cases h
  split at h
  · cases h
  rename_i p2 o' k q hb
  have := blocksF_bound ho hb
  split at h
  · cases h
  split at h
  · split at h
    · cases h
    split at h
    · cases h
    · injection h with h; injection h with _ h; rw [← h]; exact this
  · injection h with h; injection h with _ h; rw [← h]; exact this
theorem nextF_bound {b : List By} {most p : Nat} {out : List By} {f : Fm} {out' : List By} (ho : out.length ≤ most) (h : nextF b most p out = .ok (f, out')) : out'.length ≤ most := by
  unfold nextF at h
  split at h
  · cases h
  split at h
  · exact frameF_bound ho h
  split at h
  · split at h
    · cases h
    split at h
    · cases h
    · injection h with h; injection h with _ h; rw [← h]; exact ho
  · cases h
theorem readF_bound {b : List By} {most p : Nat} {out : List By} {fs : List Fm} {out' : List By} {fs' : List Fm} (ho : out.length ≤ most) (h : readF b most p out fs = .ok (out', fs')) : out'.length ≤ most := by
  induction hn : b.length - p using Nat.strongRecOn generalizing p out fs with
  | ind n ih =>
    rw [readF_eq] at h
    split at h
    · cases hb : nextF b most p out with
      | bad a y => rw [hb] at h; cases h
      | ok r =>
        obtain ⟨f, o⟩ := r
        rw [hb] at h
        obtain ⟨_, h2, h3, _⟩ := nextF_ok hb
        exact ih (b.length - f.till) (by omega) (nextF_bound ho hb) h rfl
    · injection h with h
      injection h with h _
      rw [← h]; exact ho
/-! ### What is refused has an error -/
theorem headF_bad {b : List By} {p a y : Nat} (h : headF b p = .bad a y) : y ≠ 0 := by
  unfold headF at h
  split at h
  · injection h with _ h; omega
  split at h
  · rename_i h1; injection h with _ h; rw [← h]; exact h1
  split at h
  · injection h with _ h; omega
  split at h
  · injection h with _ h; omega
  split at h
  · injection h with _ h; omega
  split at h
  · injection h with _ h; omega
  · cases h
theorem blockF_bad {b : List By} {most : Nat} {s : Shp} {began p : Nat} {out : List By} {a y : Nat} (h : blockF b most s began p out = .bad a y) : y ≠ 0 := by
  unfold blockF at h
  split at h
  · injection h with _ h; omega
  split at h
  · cases h
  split at h
  · injection h with _ h; omega
  split at h
  · injection h with _ h; omega
  split at h
  · injection h with _ h; omega
  split at h
  · split at h
    · injection h with _ h; omega
    · cases h
  · simp only at h
    split at h
    · rename_i h1; injection h with _ h; omega
    · cases h
theorem blocksF_bad {b : List By} {most : Nat} {s : Shp} {began p : Nat} {out : List By} {k q a y : Nat} (h : blocksF b most s began p out k q = .bad a y) : y ≠ 0 := by
  induction hn : b.length - p using Nat.strongRecOn generalizing p out k q with
  | ind n ih =>
    rw [blocksF_eq] at h
    cases hb : blockF b most s began p out with
    | bad a' y' => rw [hb] at h; injection h with _ h; rw [← h]; exact blockF_bad hb
    | fin => rw [hb] at h; cases h
    | ok p' o' pl =>
      rw [hb] at h
      obtain ⟨h1, h2, h3, x, h4⟩ := blockF_ok hb
      exact ih (b.length - p') (by omega) h rfl
theorem frameF_bad {b : List By} {most p : Nat} {out : List By} {a y : Nat} (h : frameF b most p out = .bad a y) : y ≠ 0 := by
  unfold frameF at h
  split at h
  · rename_i hh; injection h with _ h; rw [← h]; exact headF_bad hh
  split at h
  · rename_i hb; injection h with _ h; rw [← h]; exact blocksF_bad hb
  split at h
  · injection h with _ h; omega
  split at h
  · split at h
    · injection h with _ h; omega
    split at h
    · injection h with _ h; omega
    · cases h
  · cases h
theorem nextF_bad {b : List By} {most p : Nat} {out : List By} {a y : Nat} (h : nextF b most p out = .bad a y) : y ≠ 0 := by
  unfold nextF at h
  split at h
  · injection h with _ h; omega
  split at h
  · exact frameF_bad h
  split at h
  · split at h
    · injection h with _ h; omega
    split at h
    · injection h with _ h; omega
    · cases h
  · injection h with _ h; omega
theorem readF_bad {b : List By} {most p : Nat} {out : List By} {fs : List Fm} {a y : Nat} (h : readF b most p out fs = .bad a y) : y ≠ 0 := by
  induction hn : b.length - p using Nat.strongRecOn generalizing p out fs with
  | ind n ih =>
    rw [readF_eq] at h
    split at h
    · cases hb : nextF b most p out with
      | bad a' y' => rw [hb] at h; injection h with _ h; rw [← h]; exact nextF_bad hb
      | ok r =>
        obtain ⟨f, o⟩ := r
        rw [hb] at h
        obtain ⟨_, h2, h3, _⟩ := nextF_ok hb
        exact ih (b.length - f.till) (by omega) h rfl
    · cases h
end Go.Proofs.Ytdeefemeiggolaa

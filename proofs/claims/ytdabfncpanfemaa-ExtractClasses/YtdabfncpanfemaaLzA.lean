import Derived.Test.YtdabfncpanfemaaProg
import Derived.WalkKit
import Derived.WalkLawsBesides
import Derived.WalkSpells
import Derived.Deep.QuietTactic
import Derived.BigQuiet
import Derived.Deep.RegionHeld3
import Derived.Deep.RegionLaw
import Derived.Deep.LoopGhost
import Derived.Laws.Tables
import Derived.Laws.Shifts
import Derived.Laws.BitsAll
import Derived.Shelf.Abstract
import Derived.Deep.DeepCutAuto
import Derived.Deep.CutBlock
import Derived.KernelRfl
namespace Go.Proofs.Ytdabfncpanfemaa
open Go.RowKit
set_option linter.unusedVariables false

/-- Only the blocks of X may have turned; new ones may have come. -/
structure Fr (X : Nat → Prop) (w w' : World) : Prop where
  os : w'.os = w.os
  tape : w'.tape = w.tape
  output : w'.output = w.output
  size : w.heap.size ≤ w'.heap.size
  block : ∀ k, k < w.heap.size → ¬ X k → w'.heap[k]? = w.heap[k]?
theorem Fr.refl (X : Nat → Prop) (w : World) : Fr X w w := ⟨rfl, rfl, rfl, Nat.le_refl _, fun _ _ _ => rfl⟩
theorem Fr.trans {X : Nat → Prop} {a b c : World} (h : Fr X a b) (k : Fr X b c) : Fr X a c :=
  ⟨k.os.trans h.os, k.tape.trans h.tape, k.output.trans h.output, Nat.le_trans h.size k.size, fun i hi hx => (k.block i (Nat.lt_of_lt_of_le hi h.size) hx).trans (h.block i hi hx)⟩
/-- A step that turns only what is new to the first world, or of X. -/
theorem Fr.then {X Y : Nat → Prop} {a b c : World} (h : Fr X a b) (k : Fr Y b c) (hy : ∀ i, Y i → X i ∨ a.heap.size ≤ i) : Fr X a c :=
  ⟨k.os.trans h.os, k.tape.trans h.tape, k.output.trans h.output, Nat.le_trans h.size k.size, fun i hi hx => (k.block i (Nat.lt_of_lt_of_le hi h.size) (fun hyi => by rcases hy i hyi with h1 | h1; exact hx h1; omega)).trans (h.block i hi hx)⟩
theorem Fr.mono {X Y : Nat → Prop} {a b : World} (h : Fr X a b) (hxy : ∀ i, X i → Y i ∨ a.heap.size ≤ i) : Fr Y a b :=
  ⟨h.os, h.tape, h.output, h.size, fun i hi hy => h.block i hi (fun hx => by rcases hxy i hx with h1 | h1; exact hy h1; omega)⟩
theorem Fr.drew {X : Nat → Prop} {a b : World} (h : Fr X a b) : Fr X a b.drew := ⟨h.os, h.tape, h.output, h.size, h.block⟩
theorem Fr.drewN {X : Nat → Prop} {a b : World} (h : Fr X a b) (n : Nat) : Fr X a (b.drewN n) := ⟨h.os, h.tape, h.output, h.size, h.block⟩
theorem Fr.alloc {X : Nat → Prop} {a b : World} (h : Fr X a b) (o : Obj) : Fr X a (b.alloc o) :=
  h.trans ⟨rfl, rfl, rfl, by simp, fun k hk _ => Below.heap_alloc _ _ _ hk⟩
theorem Fr.setRow {X : Nat → Prop} {a b : World} (h : Fr X a b) (g : Nat) (cs : Array Value) (hg : X g ∨ a.heap.size ≤ g) : Fr X a (b.setRow g cs) :=
  h.then (Y := fun k => k = g) ⟨rfl, rfl, rfl, by simp [World.setRow], fun k hk hx => by simp only [World.setRow, Array.getElem?_modify]; rw [if_neg (fun e => hx e.symm)]⟩ (fun i hi => by subst hi; exact hg)
theorem Fr.setCell {X : Nat → Prop} {a b : World} (h : Fr X a b) (p : Addr) (v : Value) (hg : X p.block ∨ a.heap.size ≤ p.block) : Fr X a (b.setCell p v) :=
  h.then (Y := fun k => k = p.block) ⟨rfl, rfl, rfl, by simp, fun k hk hx => Below.heap_setCell _ _ _ _ hx⟩ (fun i hi => by subst hi; exact hg)
theorem Fr.cell {X : Nat → Prop} {w w' : World} (h : Fr X w w') {p : Addr} (hp : p.block < w.heap.size) (hx : ¬ X p.block) : w'.cell? p = w.cell? p := World.cell?_of_block (w := w) (h.block p.block hp hx)
theorem Fr.cellv {X : Nat → Prop} {w w' : World} (h : Fr X w w') {p : Addr} {v : Value} (hv : w.cell? p = some v) (hx : ¬ X p.block) : w'.cell? p = some v :=
  (h.cell (World.block_lt_of_cell? _ _ hv) hx).trans hv
theorem Fr.below {X : Nat → Prop} {B : Nat} {w0 w w' : World} (h : Below B w0 w) (k : Fr X w w') (hB : B ≤ w.heap.size) (hx : ∀ i, X i → B ≤ i) : Below B w0 w' :=
  h.trans ⟨k.os, k.tape, k.output, k.size, fun i hi => k.block i (by omega) (fun hxi => by have := hx i hxi; omega)⟩

/-- Nothing that was there has turned. -/
abbrev Nw (w w' : World) : Prop := Fr (fun _ => False) w w'
theorem Nw.trans {a b c : World} (h : Nw a b) (k : Nw b c) : Nw a c := Fr.trans h k
theorem Nw.any {X : Nat → Prop} {a b : World} (h : Nw a b) : Fr X a b := h.mono (fun _ h => h.elim)
theorem Nw.cell {w w' : World} (h : Nw w w') {p : Addr} {v : Value} (hv : w.cell? p = some v) : w'.cell? p = some v := h.cellv hv (fun h => h)
theorem Nw.heap {w w' : World} (h : Nw w w') {g : Nat} {o : Obj} (hv : w.heap[g]? = some o) : w'.heap[g]? = some o := (h.block g (Array.getElem?_eq_some_iff.1 hv).1 (fun h => h)).trans hv

/-! ### Bytes in memory -/
abbrev By := BitVec 8
abbrev bv (b : By) : Value := .int .u8 b.toNat
def Rd (g o : Nat) (l : List By) (w : World) : Prop := ∀ j (h : j < l.length), w.cell? ⟨g, o + j, none⟩ = some (bv l[j])
theorem Rd.nil (g o : Nat) (w : World) : Rd g o [] w := fun j h => by simp at h
theorem Rd.kept {g o : Nat} {l : List By} {w w' : World} {X : Nat → Prop} (h : Rd g o l w) (f : Fr X w w') (hx : ¬ X g) : Rd g o l w' := fun j hj => f.cellv (h j hj) hx
theorem Rd.nw {g o : Nat} {l : List By} {w w' : World} (h : Rd g o l w) (f : Nw w w') : Rd g o l w' := h.kept f (fun h => h)
theorem Rd.drop {g o : Nat} {l : List By} {w : World} (h : Rd g o l w) (k : Nat) : Rd g (o + k) (l.drop k) w := fun j hj => by
  have := h (k + j) (by simp at hj; omega)
  simp only [List.getElem_drop]
  rw [Nat.add_assoc]; exact this
theorem Rd.take {g o : Nat} {l : List By} {w : World} (h : Rd g o l w) (k : Nat) : Rd g o (l.take k) w := fun j hj => by
  have := h j (by simp at hj; omega)
  simp only [List.getElem_take]; exact this
theorem Rd.at {g o : Nat} {l : List By} {w : World} (h : Rd g o l w) (j : Nat) (b : By) (hb : l[j]? = some b) : w.cell? ⟨g, o + j, none⟩ = some (bv b) := by
  obtain ⟨hj, rfl⟩ := List.getElem?_eq_some_iff.1 hb
  exact h j hj
/-- A slice that reads as l, in block g. -/
def SlB (g : Nat) (v : Value) (l : List By) (w : World) : Prop := ∃ o c, v = .slice (some ⟨g, o, none⟩) l.length c ∧ l.length ≤ c ∧ c < 9223372036854775808 ∧ Rd g o l w
theorem SlB.kept {g : Nat} {v : Value} {l : List By} {w w' : World} {X : Nat → Prop} (h : SlB g v l w) (f : Fr X w w') (hx : ¬ X g) : SlB g v l w' := by
  obtain ⟨o, c, h1, h2, h3, h4⟩ := h
  exact ⟨o, c, h1, h2, h3, h4.kept f hx⟩
/-- A slice that reads as l: without room, or in a block not of X. -/
def Sl (X : Nat → Prop) (v : Value) (l : List By) (w : World) : Prop := (∃ a, v = .slice a 0 0 ∧ l = []) ∨ ∃ g, ¬ X g ∧ SlB g v l w
theorem Sl.kept {X Y : Nat → Prop} {v : Value} {l : List By} {w w' : World} (h : Sl X v l w) (f : Fr Y w w') (hx : ∀ g, Y g → X g) : Sl X v l w' := by
  rcases h with h | ⟨g, h1, h2⟩
  · exact .inl h
  · exact .inr ⟨g, h1, h2.kept f (fun h => h1 (hx g h))⟩
theorem Sl.nw {X : Nat → Prop} {v : Value} {l : List By} {w w' : World} (h : Sl X v l w) (f : Nw w w') : Sl X v l w' := h.kept f (fun _ h => h.elim)
end Go.Proofs.Ytdabfncpanfemaa

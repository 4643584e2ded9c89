import Derived.Test.YtlenihpbhlfcoaaGreatDoorProg
import Derived.WalkLawsBesides
import Derived.WalkSpells
import Derived.BigQuiet
import Derived.Deep.RegionHeld3
import Derived.Deep.RegionLaw
import Derived.Shelf.Abstract
import Derived.Deep.DeepCutAuto
import Derived.Deep.CutBlock
import Derived.Lib.Overlaps
import Derived.Deep.AppendSrc
import Derived.Deep.DeepAppendWide
import Derived.Lib.AsciiSet
import Derived.Deep.WholeRow
set_option maxHeartbeats 8000000
set_option maxRecDepth 100000
set_option linter.unusedSimpArgs false
set_option linter.unusedVariables false
namespace Go.Proofs.YtlenihpbhlfcoaaGreatDoor
open Go.RowKit
structure Fr (X : Nat → Prop) (w w' : World) : Prop where
 os : w'.os = w.os
 tape : w'.tape = w.tape
 output : w'.output = w.output
 size : w.heap.size ≤ w'.heap.size
 block : ∀ k, k < w.heap.size → ¬ X k → w'.heap[k]? = w.heap[k]?
theorem Fr.refl (X : Nat → Prop) (w : World) : Fr X w w := ⟨rfl, rfl, rfl, Nat.le_refl _, fun _ _ _ => rfl⟩
theorem Fr.trans {X : Nat → Prop} {a b c : World} (h : Fr X a b) (k : Fr X b c) : Fr X a c :=
 ⟨k.os.trans h.os, k.tape.trans h.tape, k.output.trans h.output, Nat.le_trans h.size k.size, fun i hi hx => (k.block i (Nat.lt_of_lt_of_le hi h.size) hx).trans (h.block i hi hx)⟩
theorem Fr.then {X Y : Nat → Prop} {a b c : World} (h : Fr X a b) (k : Fr Y b c) (hy : ∀ i, Y i → X i ∨ a.heap.size ≤ i) : Fr X a c :=
 ⟨k.os.trans h.os, k.tape.trans h.tape, k.output.trans h.output, Nat.le_trans h.size k.size, fun i hi hx => (k.block i (Nat.lt_of_lt_of_le hi h.size) (fun hyi => by rcases hy i hyi with h1 | h1; exact hx h1; omega)).trans (h.block i hi hx)⟩
theorem Fr.mono {X Y : Nat → Prop} {a b : World} (h : Fr X a b) (hxy : ∀ i, X i → Y i ∨ a.heap.size ≤ i) : Fr Y a b :=
 ⟨h.os, h.tape, h.output, h.size, fun i hi hy => h.block i hi (fun hx => by rcases hxy i hx with h1 | h1; exact hy h1; omega)⟩
theorem Fr.drew {X : Nat → Prop} {a b : World} (h : Fr X a b) : Fr X a b.drew := ⟨h.os, h.tape, h.output, h.size, h.block⟩
theorem Fr.drewN {X : Nat → Prop} {a b : World} (h : Fr X a b) (n : Nat) : Fr X a (b.drewN n) := ⟨h.os, h.tape, h.output, h.size, h.block⟩
theorem Fr.alloc {X : Nat → Prop} {a b : World} (h : Fr X a b) (o : Obj) : Fr X a (b.alloc o) :=
 h.trans ⟨rfl, rfl, rfl, by simp, fun k hk _ => Below.heap_alloc _ _ _ hk⟩
theorem Fr.setRow {X : Nat → Prop} {a b : World} (h : Fr X a b) (g : Nat) (cs : Array Value) (hg : X g ∨ a.heap.size ≤ g) : Fr X a (b.setRow g cs) :=
 h.then (Y := fun k => k = g) ⟨rfl, rfl, rfl, by simp [World.setRow], fun k hk hx => by simp only [World.setRow, Array.getElem?_modify]; rw [if_neg (fun e => hx e.symm)]⟩ (fun i hi => by subst hi; exact hg)
theorem Fr.setCell {X : Nat → Prop} {a b : World} (h : Fr X a b) (p : Addr) (v : Value) (hg : X p.block ∨ a.heap.size ≤ p.block) : Fr X a (b.setCell p v) :=
 h.then (Y := fun k => k = p.block) ⟨rfl, rfl, rfl, by simp, fun k hk hx => Below.heap_setCell _ _ _ _ hx⟩ (fun i hi => by subst hi; exact hg)
theorem Fr.cell {X : Nat → Prop} {w w' : World} (h : Fr X w w') {p : Addr} (hp : p.block < w.heap.size) (hx : ¬ X p.block) : w'.cell? p = w.cell? p := World.cell?_of_block (w := w) (h.block p.block hp hx)
theorem Fr.cellv {X : Nat → Prop} {w w' : World} (h : Fr X w w') {p : Addr} {v : Value} (hv : w.cell? p = some v) (hx : ¬ X p.block) : w'.cell? p = some v :=
 (h.cell (World.block_lt_of_cell? _ _ hv) hx).trans hv
theorem Fr.below {X : Nat → Prop} {B : Nat} {w0 w w' : World} (h : Below B w0 w) (k : Fr X w w') (hB : B ≤ w.heap.size) (hx : ∀ i, X i → B ≤ i) : Below B w0 w' :=
 h.trans ⟨k.os, k.tape, k.output, k.size, fun i hi => k.block i (by omega) (fun hxi => by have := hx i hxi; omega)⟩
abbrev Nw (w w' : World) : Prop := Fr (fun _ => False) w w'
theorem Nw.trans {a b c : World} (h : Nw a b) (k : Nw b c) : Nw a c := Fr.trans h k
theorem Nw.any {X : Nat → Prop} {a b : World} (h : Nw a b) : Fr X a b := h.mono (fun _ h => h.elim)
theorem Nw.cell {w w' : World} (h : Nw w w') {p : Addr} {v : Value} (hv : w.cell? p = some v) : w'.cell? p = some v := h.cellv hv (fun h => h)
theorem Nw.heap {w w' : World} (h : Nw w w') {g : Nat} {o : Obj} (hv : w.heap[g]? = some o) : w'.heap[g]? = some o := (h.block g (Array.getElem?_eq_some_iff.1 hv).1 (fun h => h)).trans hv
abbrev By := BitVec 8
abbrev bv (b : By) : Value := .int .u8 b.toNat
def Rd (g o : Nat) (l : List By) (w : World) : Prop := ∀ j (h : j < l.length), w.cell? ⟨g, o + j, none⟩ = some (bv l[j])
theorem Rd.kept {g o : Nat} {l : List By} {w w' : World} {X : Nat → Prop} (h : Rd g o l w) (f : Fr X w w') (hx : ¬ X g) : Rd g o l w' := fun j hj => f.cellv (h j hj) hx
theorem Rd.nw {g o : Nat} {l : List By} {w w' : World} (h : Rd g o l w) (f : Nw w w') : Rd g o l w' := h.kept f (fun h => h)
theorem Rd.drop {g o : Nat} {l : List By} {w : World} (h : Rd g o l w) (k : Nat) : Rd g (o + k) (l.drop k) w := fun j hj => by
 have := h (k + j) (by simp at hj; omega);simp only [List.getElem_drop];rw [Nat.add_assoc]; exact this
theorem Rd.take {g o : Nat} {l : List By} {w : World} (h : Rd g o l w) (k : Nat) : Rd g o (l.take k) w := fun j hj => by
 have := h j (by simp at hj; omega);simp only [List.getElem_take]; exact this
theorem Rd.at {g o : Nat} {l : List By} {w : World} (h : Rd g o l w) (j : Nat) (b : By) (hb : l[j]? = some b) : w.cell? ⟨g, o + j, none⟩ = some (bv b) := by
 obtain ⟨hj, rfl⟩ := List.getElem?_eq_some_iff.1 hb;exact h j hj
def SlB (g : Nat) (v : Value) (l : List By) (w : World) : Prop := ∃ o c, v = .slice (some ⟨g, o, none⟩) l.length c ∧ l.length ≤ c ∧ c < 9223372036854775808 ∧ Rd g o l w
theorem SlB.kept {g : Nat} {v : Value} {l : List By} {w w' : World} {X : Nat → Prop} (h : SlB g v l w) (f : Fr X w w') (hx : ¬ X g) : SlB g v l w' := by
 obtain ⟨o, c, h1, h2, h3, h4⟩ := h;exact ⟨o, c, h1, h2, h3, h4.kept f hx⟩
def Sl (X : Nat → Prop) (v : Value) (l : List By) (w : World) : Prop := (∃ a, v = .slice a 0 0 ∧ l = []) ∨ ∃ g, ¬ X g ∧ SlB g v l w
theorem Sl.kept {X Y : Nat → Prop} {v : Value} {l : List By} {w w' : World} (h : Sl X v l w) (f : Fr Y w w') (hx : ∀ g, Y g → X g) : Sl X v l w' := by
 rcases h with h | ⟨g, h1, h2⟩
 ·exact .inl h
 ·exact .inr ⟨g, h1, h2.kept f (fun h => h1 (hx g h))⟩
theorem Sl.nw {X : Nat → Prop} {v : Value} {l : List By} {w w' : World} (h : Sl X v l w) (f : Nw w w') : Sl X v l w' := h.kept f (fun _ h => h.elim)
theorem asP {Pg : Program} {f : FuncId} {args : Array Value} {w : World} {R : Ending → World → Prop} (h : ∀ P : Ending → World → Prop, P = R → Calls Pg f args w P) : Calls Pg f args w R := h R rfl
theorem tkH {P : Program} {ops : Array Oper} {Q : Exit → Act → World → Prop} {md : Region.Mode} {S : World → Prop} {i : Nat} {oi : Oper} {v : Value} {fuel : Nat} {listed : Array Bool} {a : Act} {w : World} (hi : ops[i]? = some oi) (hv : ∀ w, S w → (execOp a.eval oi).run P w = .ok (.value v) w) (h : wpAnyH P md ops Q S fuel (listed.setIfInBounds i true) (a.put oi.dst v) w) (hs : Region.noSelect ops = true := by kernel_rfl) (hf : Region.free md ops listed i = true := by kernel_rfl) (hr : (Region.ready md ops listed).contains i = true := by kernel_rfl) (hQ : ∀ c a w, Q (.panic c) (a.put oi.dst v) w → Q (.panic c) a w := by exact fun _ _ _ h => h) (hw : Region.wanted oi (yielded ops a.tmps) = true := by rfl) (hS : S w := by assumption) : wpAnyH P md ops Q S (fuel + 1) listed a w := wpAnyH_take hi hs hf hr hQ (.inl ⟨hw, hv⟩) hS h
theorem rdH {P : Program} {ops : Array Oper} {Q : Exit → Act → World → Prop} {md : Region.Mode} {S : World → Prop} {i : Nat} {o : Oper} {fuel : Nat} {listed : Array Bool} {a : Act} {w : World} (ho : ops[i]? = some o) (h : ∀ K : Act → World → Prop, Shut (∀ a w, S w → (S w → wpAnyH P md ops Q S fuel (listed.setIfInBounds i true) a w) → K a w) → if Region.wanted o (yielded ops a.tmps) = true then Oper.wp P o a w K Q else K (a.put o.dst undef) w) (hr : Region.ready md ops listed = [i] := by kernel_rfl) : wpAnyH P md ops Q S (fuel + 1) listed a w := wpAnyH_ready hr (by simp) (AllReadyH.cons ho h AllReadyH.nil)
theorem nz1 {α : Type} (l : List α) (i : Nat) (a : α) : l.toArray.setIfInBounds i a = (l.set i a).toArray := List.setIfInBounds_toArray ..
theorem nz2 {α : Type} {x : α} {xs : List α} {y : α} : (x :: xs).set 0 y = y :: xs := rfl
theorem nz3 {α : Type} {x : α} {xs : List α} {n : Nat} {y : α} : (x :: xs).set (n + 1) y = x :: xs.set n y := rfl
theorem add_addr (g o j : Nat) : (⟨g, o, none⟩ : Addr).add j = ⟨g, o + j, none⟩ := by unfold Addr.add; split <;> simp_all
def Bw (g : Nat) (xs : List By) (w : World) : Prop := w.heap[g]? = some (.cells (xs.map bv).toArray 5)
theorem Bw.lt {g : Nat} {xs : List By} {w : World} (h : Bw g xs w) : g < w.heap.size := (Array.getElem?_eq_some_iff.1 h).1
theorem Bw.kept {g : Nat} {xs : List By} {w w' : World} {X : Nat → Prop} (h : Bw g xs w) (f : Fr X w w') (hx : ¬ X g) : Bw g xs w' := (f.block g h.lt hx).trans h
theorem Bw.cell {g : Nat} {xs : List By} {w : World} (h : Bw g xs w) (j : Nat) (b : By) (hb : xs[j]? = some b) : w.cell? ⟨g, j, none⟩ = some (bv b) ∧ w.frozen? ⟨g, j, none⟩ = false := by
 unfold Bw at h;constructor <;> simp [World.cell?, World.frozen?, h, hb]
theorem Bw.rd {g : Nat} {xs : List By} {w : World} (h : Bw g xs w) : Rd g 0 xs w := fun j hj => by
 rw [Nat.zero_add]; exact (h.cell j _ (List.getElem?_eq_getElem hj)).1
theorem Bw.set {g : Nat} {xs : List By} {w : World} (h : Bw g xs w) (j : Nat) (b : By) (z : Int) (hz : z = b.toNat) : Bw g (xs.set j b) (w.setCell ⟨g, j, none⟩ (.int .u8 z)) := by
 subst hz;unfold Bw at h ⊢;simp only [World.setCell, Array.getElem?_modify, h];simp [List.map_set]
def Ow (g : Nat) (v : Value) (l : List By) (w : World) : Prop := ∃ xs, v = .slice (some ⟨g, 0, none⟩) l.length xs.length ∧ xs.take l.length = l ∧ l.length ≤ xs.length ∧ xs.length < 9223372036854775808 ∧ Bw g xs w
theorem Ow.kept {g : Nat} {v : Value} {l : List By} {w w' : World} {X : Nat → Prop} (h : Ow g v l w) (f : Fr X w w') (hx : ¬ X g) : Ow g v l w' := by
 obtain ⟨xs, h1, h2, h3, h4, h5⟩ := h;exact ⟨xs, h1, h2, h3, h4, h5.kept f hx⟩
theorem Ow.nw {g : Nat} {v : Value} {l : List By} {w w' : World} (h : Ow g v l w) (f : Nw w w') : Ow g v l w' := h.kept f (fun h => h)
theorem Ow.lt {g : Nat} {v : Value} {l : List By} {w : World} (h : Ow g v l w) : g < w.heap.size := by
 obtain ⟨xs, h1, h2, h3, h4, h5⟩ := h;exact h5.lt
theorem Ow.slb {g : Nat} {v : Value} {l : List By} {w : World} (h : Ow g v l w) : SlB g v l w := by
 obtain ⟨xs, h1, h2, h3, h4, h5⟩ := h;refine ⟨0, xs.length, h1, h3, h4, ?_⟩;have := h5.rd.take l.length;rw [h2] at this; exact this
theorem Ow.old {g : Nat} {v : Value} {l : List By} {w : World} (h : Ow g v l w) : Sl (fun k => w.heap.size ≤ k) v l w := .inr ⟨g, by have := h.lt; omega, h.slb⟩
theorem infoB : ∃ i, Tryz.prog.info? 5 = some i ∧ i.zero = some (.int .u8 0) ∧ i.size = 1 ∧ i.bytes = 1 := by
 have h : (Tryz.prog.info? 5).map (fun i => (i.zero, i.size, i.bytes)) = some (some (.int .u8 0), 1, 1) := by kernel_rfl
 cases hq : Tryz.prog.info? 5 with
 | none => simp [hq] at h
 | some i => simp [hq] at h; exact ⟨i, rfl, h.1, h.2.1, h.2.2⟩
theorem bv_one (l : List By) : ∀ v ∈ l.map bv, v.oneCell' = true := by
 intro v hv;simp only [List.mem_map] at hv;obtain ⟨b, _, rfl⟩ := hv;rfl
theorem srcB (w : World) (x : Value) (m : List By) (hx : Sl (fun _ => False) x m w) : Src Tryz.prog 1 22 x m.length (m.map bv) w := by
 rcases hx with ⟨a, rfl, rfl⟩ | ⟨g, _, o, c, rfl, h1, h2, h3⟩
 ·cases a with
  | none => exact Src.ofNil w Tryz.underlying22 0
  | some a => exact Src.ofSlice w Tryz.underlying22 a 0 0 _ (by simp) (fun j u hj => by simp at hj) (bv_one _)
 ·refine Src.ofSlice w Tryz.underlying22 ⟨g, o, none⟩ m.length c _ (by simp) (fun j u hj => ?_) (bv_one _);rw [add_addr];simp only [List.getElem?_map, Option.map_eq_some_iff] at hj;obtain ⟨b, hb, rfl⟩ := hj;exact h3.at j b hb
theorem zeroB (n : Nat) : (Builtin.zeroCells (Value.int .u8 0).cells n) = ((List.replicate n 0#8).map bv).toArray := by
 apply Array.ext'
 apply List.ext_getElem?
 intro k;by_cases hk : k < n
 ·simp [Builtin.zeroCells, Value.cells, hk, Nat.mod_one]
 ·rw [List.getElem?_eq_none (by simp [Builtin.zeroCells, Value.cells]; omega), List.getElem?_eq_none (by simp; omega)]
theorem app_any (w : World) (g : Nat) (v : Value) (l : List By) (hO : Ow g v l w) (x : Value) (m : List By) (hx : Sl (fun _ => False) x m w) (hb : l.length + m.length ≤ 200000000000000) :
  ∃ v' g' W, (∀ ty, (Builtin.append_ #[22, 22] ty #[v, x]).run Tryz.prog w = .ok v' W) ∧ Ow g' v' (l ++ m) W ∧ Fr (fun k => k = g) w W ∧ (g' = g ∨ w.heap.size ≤ g') := by
 obtain ⟨xs, rfl, h2, h3, h4, h5⟩ := hO;obtain ⟨i, hi, hz, hs, hby⟩ := infoB;have hsrc := srcB w x m hx;by_cases hroom : l.length + m.length ≤ xs.length
 ·have hst := run_storeCells_at (P := Tryz.prog) g (0 + l.length) 5 (m.map bv) 0 (xs.map bv).toArray w h5 (by simp; omega) (bv_one _);refine ⟨.slice (some ⟨g, 0, none⟩) (l.length + m.length) xs.length, g, w.setRow g (((l ++ m ++ xs.drop (l.length + m.length)).map bv).toArray), fun ty => ?_, ?_, ?_, .inl rfl⟩
  ·obtain ⟨W0, hW0⟩ : ∃ W0, W0 = w.setRow g (((l ++ m ++ xs.drop (l.length + m.length)).map bv).toArray) := ⟨_, rfl⟩;have hst' : (storeCells ⟨g, l.length, none⟩ (m.map bv)).run Tryz.prog w = .ok () W0 := by
    rw [← Nat.zero_add l.length, hst, hW0];congr 3;simp only [Nat.add_zero, Nat.zero_add, List.length_map];rw [← List.map_take, ← List.map_drop, h2];simp
   rw [← hW0];clear hst;rcases hsrc.kind with ⟨e', hk⟩ | hk
   ·simp [Builtin.append_, run_underlying Tryz.underlying22, sizeOf, typeInfo, hi, hs, hsrc.len, hroom, hsrc.cells, Addr.add_lit, hst']
   ·rw [Tryz.underlying22] at hk; cases hk
  ·have hl : (l ++ m).length = l.length + m.length := by simp
   refine ⟨l ++ m ++ xs.drop (l.length + m.length), ?_, ?_, ?_, ?_, ?_⟩
   ·simp; omega
   ·rw [List.take_append_of_le_length (by simp), List.take_of_length_le (by simp)]
   ·simp
   ·simp; omega
   ·exact setRow_heap w g _ _ 5 _ h5
  ·exact (Fr.refl _ _).setRow _ _ (.inl rfl)
 ·have hold : (Builtin.firstCells i.size l.length (.slice (some ⟨g, 0, none⟩) l.length xs.length)).run Tryz.prog w.drew = .ok (l.map bv).toArray w.drew := by
   rw [hs];refine run_firstCells_some w.drew 1 l.length ⟨g, 0, none⟩ l.length xs.length (l.map bv) (by simp) (fun j u hj => ?_);rw [add_addr];simp only [List.getElem?_map, Option.map_eq_some_iff] at hj;obtain ⟨b, hb, rfl⟩ := hj;have hr := h5.rd.take l.length;rw [h2] at hr;exact hr.at j b hb
  have hrun := fun ty => run_append_grow_src w 22 22 ty 5 i _ Tryz.underlying22 hi hz (some ⟨g, 0, none⟩) l.length xs.length _ hold x m.length _ (by rw [hs]; exact hsrc) (by omega) (by omega) (by rw [hby]; exact growslice_fits_wide (by omega) (by omega))
  have hge := grownCap_ge w (l.length + m.length) xs.length 5;have hle := grownCap_le_maxLen w (l.length + m.length) xs.length 5 (by unfold maxLen; omega);unfold maxLen at hle;generalize grownCap w (l.length + m.length) xs.length 5 = G at *;refine ⟨_, w.heap.size, _, hrun, ?_, (Fr.refl _ _).drew.alloc _, .inr (Nat.le_refl _)⟩;have e : ((l.map bv ++ m.map bv).toArray ++ Builtin.zeroCells (Value.int .u8 0).cells (G - (l.length + m.length))) = ((l ++ m ++ List.replicate (G - (l.length + m.length)) 0#8).map bv).toArray := by
   rw [zeroB]; simp
  rw [e];refine ⟨l ++ m ++ List.replicate (G - (l.length + m.length)) 0#8, ?_, ?_, ?_, ?_, ?_⟩
  ·simp; omega
  ·rw [List.take_append_of_le_length (by simp), List.take_of_length_le (by simp)]
  ·simp
  ·simp; omega
  ·show (w.drew.heap.push _)[w.heap.size]? = _;show (w.heap.push _)[w.heap.size]? = _;simp
abbrev Old (w : World) (v : Value) (b : List By) : Prop := Sl (fun k => w.heap.size ≤ k) v b w
theorem Sl.mono {X Y : Nat → Prop} {v : Value} {b : List By} {w : World} (h : Sl X v b w) (hxy : ∀ g, Y g → X g) : Sl Y v b w := by
 rcases h with h | ⟨g, h1, h2⟩
 ·exact .inl h
 ·exact .inr ⟨g, fun hy => h1 (hxy g hy), h2⟩
theorem Ow.empty (w : World) : Ow w.heap.size (.slice (some ⟨w.heap.size, 0, none⟩) 0 0) [] (w.alloc (.cells #[] 5)) :=
 ⟨[], rfl, rfl, by simp, by simp, by
  show (w.heap.push _)[w.heap.size]? = _;simp⟩
theorem Ow.put {g : Nat} {v : Value} {l : List By} {w : World} (h : Ow g v l w) (j : Nat) (hj : j < l.length) (z : By) (k : Int) (hk : k = z.toNat) : Ow g v (l.set j z) (w.setCell ⟨g, j, none⟩ (.int .u8 k)) := by
 obtain ⟨xs, h1, h2, h3, h4, h5⟩ := h;refine ⟨xs.set j z, by rw [h1]; simp, ?_, by simp; exact h3, by simp; exact h4, h5.set j z k hk⟩;rw [List.length_set, List.take_set, h2]
theorem Ow.at {g : Nat} {v : Value} {l : List By} {w : World} (h : Ow g v l w) (j : Nat) (hj : j < l.length) : w.cell? ⟨g, j, none⟩ = some (.int .u8 l[j].toNat) ∧ w.frozen? ⟨g, j, none⟩ = false := by
 obtain ⟨xs, h1, h2, h3, h4, h5⟩ := h;have : xs[j]? = some l[j] := by
  have e : (xs.take l.length)[j]? = l[j]? := by rw [h2]
  rw [List.getElem?_take, if_pos hj, List.getElem?_eq_getElem hj] at e;exact e
 exact h5.cell j _ this
def Mine (K : Nat → Prop) (v : Value) (l : List By) (w : World) : Prop := (v = .slice none 0 0 ∧ l = []) ∨ ∃ g, ¬ K g ∧ Ow g v l w
theorem Mine.kept {K : Nat → Prop} {v : Value} {l : List By} {w w' : World} {X : Nat → Prop} (h : Mine K v l w) (f : Fr X w w') (hx : ∀ g, X g → K g ∨ w.heap.size ≤ g) : Mine K v l w' := by
 rcases h with h | ⟨g, h1, h2⟩
 ·exact .inl h
 ·exact .inr ⟨g, h1, h2.kept f (fun hg => by rcases hx g hg with e | e; exact h1 e; have := h2.lt; omega)⟩
theorem Mine.sl {K : Nat → Prop} {v : Value} {l : List By} {w : World} (h : Mine K v l w) : Sl (fun k => K k ∨ w.heap.size ≤ k) v l w := by
 rcases h with ⟨h1, h2⟩ | ⟨g, h1, h2⟩
 ·exact .inl ⟨none, h1, h2⟩
 ·exact .inr ⟨g, fun hg => by rcases hg with e | e; exact h1 e; have := h2.lt; omega, h2.slb⟩
theorem Mine.nil (K : Nat → Prop) (w : World) : Mine K (.slice none 0 0) [] w := .inl ⟨rfl, rfl⟩
theorem Sl.form {X : Nat → Prop} {v : Value} {l : List By} {w : World} (h : Sl X v l w) : ∃ a c, v = .slice a l.length c ∧ l.length ≤ c ∧ c < 9223372036854775808 := by
 rcases h with ⟨a, rfl, rfl⟩ | ⟨g, _, o, c, rfl, h2, h3, _⟩
 ·exact ⟨a, 0, rfl, by simp, by simp⟩
 ·exact ⟨_, c, rfl, h2, h3⟩
end Go.Proofs.YtlenihpbhlfcoaaGreatDoor
namespace Go.Proofs.YtlenihpbhlfcoaaGreatDoor
def isD (x : By) : Bool := decide (48 ≤ x.toNat ∧ x.toNat ≤ 55)
def isBl (x : By) : Bool := decide (x = 32#8)
def isBz (x : By) : Bool := decide (x = 32#8 ∨ x = 0#8)
theorem isD_bz (x : By) (h : isD x = true) : isBz x = false := by
 unfold isD at h; unfold isBz;have := of_decide_eq_true h;apply decide_eq_false;rintro (e | e)
 ·rw [e] at this; exact absurd this (by decide)
 ·rw [e] at this; exact absurd this (by decide)
def v8 (n : Nat) (l : List By) : Nat := l.foldl (fun n x => 8 * n + (x.toNat - 48)) n
theorem v8_nil (n : Nat) : v8 n [] = n := rfl
theorem v8_cons (n : Nat) (x : By) (l : List By) : v8 n (x :: l) = v8 (8 * n + (x.toNat - 48)) l := by unfold v8; rw [List.foldl_cons]
theorem v8_app (n : Nat) (l m : List By) : v8 n (l ++ m) = v8 (v8 n l) m := by unfold v8; rw [List.foldl_append]
theorem v8_ge (n : Nat) (l : List By) : n ≤ v8 n l := by
 induction l generalizing n with
 | nil => exact Nat.le_refl _
 | cons x l ih => rw [v8_cons]; exact Nat.le_trans (by omega) (ih _)
@[irreducible] def mx : Nat := 9223372036854775807
def dgs (b : List By) : List By := (b.dropWhile isBl).takeWhile isD
def rst (b : List By) : List By := (b.dropWhile isBl).dropWhile isD
def octN (b : List By) : Nat := if (rst b).all isBz then (if v8 0 (dgs b) ≤ mx then v8 0 (dgs b) else 0) else 0
def octE (b : List By) : Nat := if (rst b).all isBz then (if v8 0 (dgs b) ≤ mx then 0 else 121) else 120
def trR (b : List By) : List By := (b.reverse.dropWhile isBz).reverse
theorem trR_all (r : List By) (h : r.all isBz = true) (l : List By) : trR (l ++ r) = trR l := by
 unfold trR;rw [List.reverse_append];have : ∀ (r l : List By), (r.all isBz = true) → (r ++ l).dropWhile isBz = l.dropWhile isBz := by
  intro r l hr
  induction r with
  | nil => rfl
  | cons x r ih =>
   rw [List.all_cons, Bool.and_eq_true] at hr;rw [List.cons_append, List.dropWhile_cons, if_pos hr.1, ih hr.2]
 rw [this];rw [List.all_reverse]; exact h
theorem trR_digits (l : List By) (h : l.all isD = true) : trR l = l := by
 unfold trR;have : l.reverse.dropWhile isBz = l.reverse := by
  have hr : l.reverse.all isD = true := by rw [List.all_reverse]; exact h
  cases hq : l.reverse with
  | nil => rfl
  | cons x r =>
   rw [hq, List.all_cons, Bool.and_eq_true] at hr;rw [List.dropWhile_cons, if_neg (by rw [isD_bz x hr.1]; decide)]
 rw [this, List.reverse_reverse]
theorem trR_keeps (l r : List By) (x : By) (h : (x :: r).all isBz = false) : ∃ m, trR (l ++ x :: r) = l ++ x :: m := by
 unfold trR;have : ∀ (q l : List By), q.all isBz = false → ∃ m, (q ++ l).dropWhile isBz = m ++ l ∧ ∃ p, p ++ m = q ∧ m ≠ [] := by
  intro q l hq
  induction q with
  | nil => simp at hq
  | cons y q ih =>
   by_cases hy : isBz y = true
   ·rw [List.all_cons, hy, Bool.true_and] at hq;obtain ⟨m, e, p, e2, hm⟩ := ih hq;refine ⟨m, ?_, y :: p, by rw [List.cons_append, e2], hm⟩;rw [List.cons_append, List.dropWhile_cons, if_pos hy, e]
   ·refine ⟨y :: q, ?_, [], rfl, by simp⟩;rw [List.cons_append, List.dropWhile_cons, if_neg hy]
 rw [List.reverse_append];obtain ⟨m, e, p, e2, hm⟩ := this (x :: r).reverse l.reverse (by rw [List.all_reverse]; exact h);rw [e, List.reverse_append, List.reverse_reverse];have hx : ∃ m', m = m' ++ [x] := by
  rw [List.reverse_cons] at e2;rcases List.eq_nil_or_concat m with rfl | ⟨m', y, rfl⟩
  ·exact absurd rfl hm
  ·rw [List.concat_eq_append, ← List.append_assoc] at e2;have := (List.append_inj' e2 rfl).2;injection this with this;subst this;exact ⟨m', List.concat_eq_append⟩
 obtain ⟨m', rfl⟩ := hx;exact ⟨m'.reverse, by rw [List.reverse_append]; rfl⟩
theorem dgs_rst (b : List By) : dgs b ++ rst b = b.dropWhile isBl := List.takeWhile_append_dropWhile
theorem dgs_all (b : List By) : (dgs b).all isD = true := by
 unfold dgs;generalize b.dropWhile isBl = l
 induction l with
 | nil => rfl
 | cons x l ih =>
  rw [List.takeWhile_cons];split
  ·rw [List.all_cons, ih, Bool.and_true]; assumption
  ·rfl
theorem rst_head (b : List By) (x : By) (r : List By) (h : rst b = x :: r) : isD x = false := by
 unfold rst at h;generalize b.dropWhile isBl = l at h
 induction l with
 | nil => simp at h
 | cons y l ih =>
  rw [List.dropWhile_cons] at h;split at h
  ·exact ih h
  ·injection h with h1 h2;subst h1
   simpa using ‹¬ isD y = true›
theorem trR_is (b : List By) (h : (rst b).all isBz = true) : trR (b.dropWhile isBl) = dgs b := by
 rw [← dgs_rst, trR_all _ h, trR_digits _ (dgs_all b)]
theorem trR_not (b : List By) (h : (rst b).all isBz = false) : (trR (b.dropWhile isBl)).all isD = false := by
 rw [← dgs_rst];cases hr : rst b with
 | nil => rw [hr] at h; simp at h
 | cons x r =>
  rw [hr] at h;obtain ⟨m, e⟩ := trR_keeps (dgs b) r x h;rw [e, List.all_append, List.all_cons, rst_head b x r hr];simp
def vb (n : Int) (l : List By) : Int := l.foldl (fun n x => n * 256 + (x.toNat : Int)) n
theorem vb_cons (n : Int) (x : By) (l : List By) : vb n (x :: l) = vb (n * 256 + (x.toNat : Int)) l := by unfold vb; rw [List.foldl_cons]
theorem vb_app (n : Int) (l m : List By) : vb n (l ++ m) = vb (vb n l) m := by unfold vb; rw [List.foldl_append]
def fb (x : By) : Int := if (x.toNat : Int) - 128 > 63 then (x.toNat : Int) - 256 else (x.toNat : Int) - 128
def binV : List By → Int
 | [] => 0
 | x :: l => vb (fb x) l
def isB (b : List By) : Bool := decide (2 ≤ b.length ∧ 128 ≤ (b.headD 0).toNat)
def inI (n : Int) : Bool := decide (-9223372036854775808 ≤ n ∧ n ≤ 9223372036854775807)
def binN (b : List By) : Int := if isB b then (if inI (binV b) then binV b else 0) else 0
def binE (b : List By) : Nat := if isB b then (if inI (binV b) then 0 else 121) else 120
theorem vb_out (n : Int) (l : List By) (h : inI n = false) : inI (vb n l) = false := by
 induction l generalizing n with
 | nil => exact h
 | cons x l ih =>
  rw [vb_cons];apply ih;have hx := x.isLt;unfold inI at h ⊢;have := of_decide_eq_false h;apply decide_eq_false;omega
theorem fb_range (x : By) (h : 128 ≤ x.toNat) : -64 ≤ fb x ∧ fb x ≤ 63 := by
 have hx := x.isLt;unfold fb;split <;> omega
def dg (n : Nat) : By := BitVec.ofNat 8 (48 + n % 8)
theorem dg_toNat (n : Nat) : (dg n).toNat = 48 + n % 8 := by
 unfold dg;rw [BitVec.toNat_ofNat];exact Nat.mod_eq_of_lt (by omega)
theorem dg_isD (n : Nat) : isD (dg n) = true := by
 unfold isD;rw [dg_toNat];exact decide_eq_true (by omega)
def ol (n : Nat) : Nat → List By
 | 0 => []
 | k + 1 => dg (n / 8 ^ k) :: ol n k
theorem ol_length (n k : Nat) : (ol n k).length = k := by
 induction k with
 | zero => rfl
 | succ k ih => rw [ol, List.length_cons, ih]
theorem ol_all (n k : Nat) : (ol n k).all isD = true := by
 induction k with
 | zero => rfl
 | succ k ih => rw [ol, List.all_cons, ih, dg_isD]; rfl
theorem v8_ol (n k : Nat) : ∀ m, v8 m (ol n k) = m * 8 ^ k + n % 8 ^ k := by
 induction k with
 | zero => intro m; simp [ol, v8_nil, Nat.mod_one]
 | succ k ih =>
  intro m;rw [ol, v8_cons, ih, dg_toNat, Nat.add_sub_cancel_left, Nat.mod_pow_succ (b := 8), Nat.add_mul, Nat.pow_succ];rw [Nat.mul_comm 8 m, Nat.mul_assoc m 8, Nat.mul_comm 8 (8 ^ k), Nat.mul_comm (n / 8 ^ k % 8)];omega
theorem ol_fit (n k : Nat) (h : n / 8 ^ k = 0) : v8 0 (ol n k) = n := by
 rw [v8_ol, Nat.zero_mul, Nat.zero_add];apply Nat.mod_eq_of_lt;have h0 : 0 < 8 ^ k := Nat.pow_pos (by omega);exact (Nat.div_eq_zero_iff_lt h0).1 h
theorem tw_all (l r : List By) (p : By → Bool) (h : l.all p = true) (hr : ∀ x, r.head? = some x → p x = false) : (l ++ r).takeWhile p = l ∧ (l ++ r).dropWhile p = r := by
 induction l with
 | nil =>
  cases r with
  | nil => exact ⟨rfl, rfl⟩
  | cons x r =>
   have := hr x rfl;rw [List.nil_append, List.takeWhile_cons, List.dropWhile_cons, this];exact ⟨rfl, rfl⟩
 | cons y l ih =>
  rw [List.all_cons, Bool.and_eq_true] at h;obtain ⟨a, b⟩ := ih h.2;rw [List.cons_append, List.takeWhile_cons, List.dropWhile_cons, if_pos h.1, if_pos h.1, a, b];exact ⟨rfl, rfl⟩
theorem isD_bl (x : By) (h : isD x = true) : isBl x = false := by
 have := isD_bz x h;unfold isBz at this; unfold isBl;have := of_decide_eq_false this;exact decide_eq_false (fun e => this (.inl e))
theorem oct_ol (n k : Nat) (h : n / 8 ^ k = 0) (hm : n ≤ mx) (hk : 0 < k) : octN (ol n k ++ [0#8]) = n ∧ octE (ol n k ++ [0#8]) = 0 := by
 have hd : (ol n k ++ [0#8]).dropWhile isBl = ol n k ++ [0#8] := by
  obtain ⟨j, rfl⟩ : ∃ j, k = j + 1 := ⟨k - 1, by omega⟩;rw [ol, List.cons_append, List.dropWhile_cons, if_neg (by rw [isD_bl _ (dg_isD _)]; decide)]
 have ht := tw_all (ol n k) [0#8] isD (ol_all n k) (fun x e => by injection e with e; rw [← e]; decide);have e1 : dgs (ol n k ++ [0#8]) = ol n k := by unfold dgs; rw [hd, ht.1]
 have e2 : rst (ol n k ++ [0#8]) = [0#8] := by unfold rst; rw [hd, ht.2]
 have e3 : ([0#8] : List By).all isBz = true := by decide
 have e4 := ol_fit n k h;unfold octN octE;rw [e1, e2, e3, e4, if_pos rfl, if_pos rfl, if_pos hm, if_pos hm];exact ⟨rfl, rfl⟩
theorem octN_mx (b : List By) : octN b ≤ mx := by
 unfold octN;split
 ·split
  ·assumption
  ·exact Nat.zero_le _
 ·exact Nat.zero_le _
def lb (n : Int) : By := BitVec.ofInt 8 n
theorem lb_toNat (n : Int) : ((lb n).toNat : Int) = n % 256 := by
 unfold lb;rw [BitVec.toNat_ofInt];have : (0 : Int) ≤ n % 256 := Int.emod_nonneg _ (by omega);omega
def bl (n : Int) : Nat → List By
 | 0 => []
 | k + 1 => lb (n / 256 ^ k) :: bl n k
theorem bl_length (n : Int) (k : Nat) : (bl n k).length = k := by
 induction k with
 | zero => rfl
 | succ k ih => rw [bl, List.length_cons, ih]
theorem pow_p (k : Nat) : (0 : Int) < 256 ^ k := Int.pow_pos (by omega)
theorem mod_succ (n : Int) (k : Nat) : n % 256 ^ (k + 1) = (n / 256 ^ k % 256) * 256 ^ k + n % 256 ^ k := by
 have h0 := pow_p k;rw [Int.pow_succ];generalize (256 : Int) ^ k = M at *;have h1 : 0 ≤ n % M := Int.emod_nonneg _ (by omega);have h2 : n % M < M := Int.emod_lt_of_pos _ h0;have h3 : n = M * (n / M) + n % M := (Int.mul_ediv_add_emod n M).symm;generalize n / M = q at *;generalize n % M = r at *;have h4 : q = 256 * (q / 256) + q % 256 := by omega
 have h5 : 0 ≤ q % 256 := Int.emod_nonneg _ (by omega);have h6 : q % 256 < 256 := Int.emod_lt_of_pos _ (by omega);generalize q % 256 = s at *;generalize q / 256 = t at *;have h7 : n = (s * M + r) + (M * 256) * t := by
  rw [h3, h4, Int.mul_add, Int.mul_assoc M 256 t, Int.mul_comm M s];omega
 rw [h7, Int.add_mul_emod_self_left];have h8 : 0 ≤ s * M := Int.mul_nonneg h5 (by omega);have h9 : s * M ≤ 255 * M := Int.mul_le_mul_of_nonneg_right (by omega) (by omega);exact Int.emod_eq_of_lt (by omega) (by omega)
theorem vb_bl (n : Int) (k : Nat) : ∀ m, vb m (bl n k) = m * 256 ^ k + n % 256 ^ k := by
 induction k with
 | zero => intro m; simp [bl, vb, Int.emod_one]
 | succ k ih =>
  intro m;rw [bl, vb_cons, ih, lb_toNat, mod_succ, Int.add_mul, Int.pow_succ, Int.mul_assoc, Int.mul_comm 256, Int.add_assoc]
def hb (h : Int) : By := lb h ||| 128#8
theorem hb_toNat (h : Int) (h1 : -64 ≤ h) (h2 : h ≤ 63) : ((hb h).toNat : Int) = if h < 0 then h + 256 else h + 128 := by
 have : ∀ x : By, (x ||| 128#8).toNat = x.toNat % 128 + 128 := by decide +kernel
 unfold hb;have e := this (lb h);have e2 := lb_toNat h;split <;> omega
theorem fb_hb (h : Int) (h1 : -64 ≤ h) (h2 : h ≤ 63) : fb (hb h) = h ∧ 128 ≤ (hb h).toNat := by
 have := hb_toNat h h1 h2;unfold fb;split at this
 ·constructor
  ·rw [if_pos (by omega)]; omega
  ·omega
 ·constructor
  ·rw [if_neg (by omega)]; omega
  ·omega
def fits (n : Int) (k : Nat) : Bool := decide (-64 ≤ n / 256 ^ k ∧ n / 256 ^ k ≤ 63)
def bfd (n : Int) (k : Nat) : List By := hb (n / 256 ^ k) :: bl n k
theorem bfd_length (n : Int) (k : Nat) : (bfd n k).length = k + 1 := by unfold bfd; rw [List.length_cons, bl_length]
theorem binV_bfd (n : Int) (k : Nat) (h : fits n k = true) : binV (bfd n k) = n ∧ (0 < k → isB (bfd n k) = true) := by
 obtain ⟨h1, h2⟩ := of_decide_eq_true h;obtain ⟨a, b⟩ := fb_hb _ h1 h2;constructor
 ·show vb (fb (hb _)) (bl n k) = n;rw [a, vb_bl];exact Int.ediv_mul_add_emod n (256 ^ k)
 ·intro hk;apply decide_eq_true;rw [bfd_length];exact ⟨by omega, b⟩
end Go.Proofs.YtlenihpbhlfcoaaGreatDoor
namespace Go.Proofs.YtlenihpbhlfcoaaGreatDoor
open Go.RowKit
theorem tHid {p : Prop} (h : p) : Hid p := h
theorem sl_cons {X : Nat → Prop} {a : Option Addr} {n c : Nat} {x : By} {l : List By} {w : World} (h : Sl X (.slice a n c) (x :: l) w) :
  ∃ g o, a = some ⟨g, o, none⟩ ∧ n = l.length + 1 ∧ n ≤ c ∧ c < 9223372036854775808 ∧ w.cell? ⟨g, o, none⟩ = some (.int .u8 x.toNat) ∧
   (c ≤ 1 → ∀ y, Sl X (.slice y (n - 1) 0) l w) ∧ (1 < c → Sl X (.slice (some ⟨g, o + 1, none⟩) (n - 1) (c - 1)) l w) := by
 rcases h with ⟨_, _, e⟩ | ⟨g, hg, o, c', e, e1, e2, e3⟩
 ·cases e
 ·injection e with ea en ec;subst ec;rw [List.length_cons] at en e1;have h0 := e3 0 (by simp);refine ⟨g, o, ea, en, by omega, e2, h0, fun hc y => .inl ⟨y, by rw [show n - 1 = 0 by omega], ?_⟩, fun hc => .inr ⟨g, hg, o + 1, c - 1, ?_, by omega, by omega, ?_⟩⟩
  ·exact List.length_eq_zero_iff.1 (by omega)
  ·rw [show n - 1 = l.length by omega]
  ·exact e3.drop 1
theorem sl_len {X : Nat → Prop} {a : Option Addr} {n c : Nat} {l : List By} {w : World} (h : Sl X (.slice a n c) l w) : l.length = n ∧ n ≤ c ∧ c < 9223372036854775808 := by
 obtain ⟨a', c', e, q1, q2⟩ := h.form;generalize hq : l.length = q at e q1;cases e;exact ⟨rfl, q1, q2⟩
theorem trimlb_any {X : Nat → Prop} (w : World) (a : Option Addr) (n c : Nat) (b : List By) (hb : Sl X (.slice a n c) b w) :
  Calls Tryz.prog 171 #[.slice a n c, .int .u8 32] w fun e w' => ∃ a' n' c', e = .returned (.slice a' n' c') ∧ Hid (Sl X (.slice a' n' c') (b.dropWhile isBl) w) ∧ w = w' := by
 refine asP fun P hP => ?_
 have HF : Hid (∀ a' n' c', Sl X (.slice a' n' c') (b.dropWhile isBl) w → P (.returned (.slice a' n' c')) w) := fun a' n' c' h => by rw [hP]; exact ⟨a', n', c', rfl, h, rfl⟩
 clear hP;have HB : Hid (Sl X (.slice a n c) b w) := hb;obtain ⟨_, k1, k2⟩ := sl_len hb;clear hb;go_enter Tryz.func171, Tryz.ntmps171
 go_wp2_with fail
 go_loopg [0] n (fun kx v wr => ∃ a' n' c', n' ≤ c' ∧ c' < 9223372036854775808 ∧ n' ≤ kx ∧ v = .slice a' n' c' ∧ wr = w ∧ Hid (∃ l, Sl X (.slice a' n' c') l w ∧ l.dropWhile isBl = b.dropWhile isBl))
 case atStart => exact ⟨a, n, c, k1, k2, Nat.le_refl _, rfl, rfl, b, HB.out, rfl⟩
 case round =>
  obtain ⟨a', n', c', hc1, hc2, hkx, rfl, rfl, HL⟩ := hrel;obtain ⟨l, hl, he⟩ := HL.out;cases l with
  | nil =>
   obtain ⟨e0, _, _⟩ := sl_len hl;obtain rfl : n' = 0 := e0.symm;have HF2 := tHid (HF.out none 0 0 (by rw [← he]; exact .inl ⟨none, rfl, rfl⟩));clear HF HL HB hl he
   go_wp2_with fail
   exact HF2.out
  | cons x l =>
   obtain ⟨g, o, rfl, hn, hc, _, x0, hs1, hs2⟩ := sl_cons hl;by_cases hx : x = 32#8
   ·subst hx;have x1 : wr.cell? ⟨g, o, none⟩ = some (.int .u8 32) := x0;have he2 : l.dropWhile isBl = b.dropWhile isBl := by rw [← he, List.dropWhile_cons, if_pos (by decide)]
    obtain ⟨m, rfl⟩ : ∃ m, n' = m + 1 := ⟨n' - 1, by omega⟩;have z1 : (0 : Int) < ((m + 1 : Nat) : Int) := by omega
    have z2 : 0 < m + 1 := by omega
    by_cases hcc : c' ≤ 1
    ·have HS := tHid (hs1 hcc);have HE := tHid he2;clear HF HL HB hl he x0 hs1 hs2 he2 hn
     go_wp2_with fail
     go_roundg m
     all_goals (first | omega | exact ⟨_, m, 0, by omega, by omega, Nat.le_refl _, rfl, rfl, l, by have := HS.out (some ⟨g, o, none⟩); rw [Nat.add_sub_cancel] at this; exact this, HE.out⟩)
    ·have HS := tHid (hs2 (by omega));have HE := tHid he2;have hc3 : 1 < c' := by omega
     have hc4 : ¬ c' = 1 := by omega
     clear HF HL HB hl he x0 hs1 hs2 he2 hn hcc
     go_wp2_with fail
     go_roundg m
     all_goals (first | omega | exact ⟨_, m, c' - 1, by omega, by omega, Nat.le_refl _, rfl, rfl, l, by have := HS.out; rw [Nat.add_sub_cancel] at this; exact this, HE.out⟩)
   ·have hne : (x.toNat : Int) ≠ 32 := fun e => hx (BitVec.eq_of_toNat_eq (by show x.toNat = 32; omega))
    have hz : ((x.toNat : Int) == 32) = false := by rw [beq_eq_false_iff_ne]; exact hne
    have HF2 := tHid (HF.out (some ⟨g, o, none⟩) n' c' (by rw [← he, List.dropWhile_cons, if_neg (by unfold isBl; rw [decide_eq_false hx]; decide)]; exact hl));have z1 : (0 : Int) < (n' : Int) := by omega
    have z2 : 0 < n' := by omega
    have z3 : ¬ n' = 0 := by omega
    have z4 : ((n' : Int) == 0) = false := by rw [beq_eq_false_iff_ne]; omega
    clear HF HL HB hl he hs1 hs2 hn;generalize x.toNat = xx at *
    go_wp2_with fail
    exact HF2.out
def AS : Array Value := Lib.setCells [32, 0]
theorem as_size : AS.size = 256 := Lib.setCells_size _
theorem q_as : ∀ (x : By), ((UInt8.ofBitVec x == 32) || (UInt8.ofBitVec x == 0)) = decide (x = 32#8 ∨ x = 0#8) := by decide +kernel
theorem as_at (x : By) : AS[x.toNat]? = some (.bool (isBz x)) := by
 unfold AS;have h := Lib.setCells_at [32, 0] (UInt8.ofBitVec x);have e : (UInt8.ofBitVec x).toNat = x.toNat := rfl;rw [e] at h;rw [h, List.contains_cons, List.contains_cons, List.contains_nil, Bool.or_false, q_as];rfl
theorem newHeap (w : World) (o : Obj) : (w.alloc o).heap[w.heap.size]? = some o := by
 show (w.heap.push o)[w.heap.size]? = some o;simp
theorem as_one : AS.all (·.oneCell') = true := Lib.setCells_one _
theorem as_info : (Tryz.prog.info? 242).map (·.size) = some AS.size := by rw [as_size]; kernel_rfl
theorem zc53 : Tryz.zeroCells242 = Lib.setCells ([] : List UInt8) := by
 kernel_rfl
theorem mkAscii_any (w : World) : Calls Tryz.prog 168 #[.string ⟨#[32, 0]⟩] w fun e w' => e = .returned (.tuple #[.agg AS, .bool true]) ∧ w' = w.alloc (.cells AS 242) := by
 refine asP fun P hP => ?_
 have HF : Hid (P (.returned (.tuple #[.agg AS, .bool true])) (w.alloc (.cells AS 242))) := by rw [hP]; exact ⟨rfl, rfl⟩
 clear hP;obtain ⟨cs, hcs⟩ : ∃ cs : ByteArray, cs = ⟨#[32, 0]⟩ := ⟨_, rfl⟩;rw [← hcs];have hsz : cs.size = 2 := by rw [hcs]; rfl
 have e0 : ∀ h, (cs[0]'h).toNat = 32 := by subst hcs; intro h; rfl
 have e1 : ∀ h, (cs[1]'h).toNat = 0 := by subst hcs; intro h; rfl
 clear hcs
 skip
 go_enter Tryz.func168, Tryz.ntmps168
 go_wp2
 rw [zc53];go_loopg [4] 2 (fun g s4 wx => ∃ i : Nat, i + g = 2 ∧ s4 = .int .i64 i ∧ wx = w.alloc (.cells (Lib.setCells (([32, 0] : List UInt8).take i)) 242))
 case atStart => exact ⟨0, by omega, rfl, rfl⟩
 case round =>
  obtain ⟨i, hig, rfl, rfl⟩ := hrel;cases gk with
  | zero =>
   obtain rfl : i = 2 := by omega
   have hAS : Lib.setCells (([32, 0] : List UInt8).take 2) = AS := rfl;rw [hAS];have hld := run_loadVar_new (P := Tryz.prog) w 242 AS 256 4 Tryz.underlying242 as_info
   go_wp2_with (first
    | (refine wpList_load_row rfl 242 _ rfl w.heap.size (by first | rfl | simp [Act.eval]) 242 AS (0, 0) _ (newHeap w _) Tryz.underlying242 rfl as_info ?_)
    | (refine wpList_store_row rfl 242 _ _ rfl w.heap.size AS (by first | rfl | simp [Act.eval]) (by first | rfl | simp [Act.eval]) 242 AS (newHeap w _) as_info rfl as_one ?_; rw [World.setRow_alloc_new]))
   (try simp only [Exit.inBlock, Exit.then])
   refine bodyPost_ret (v := .tuple #[.agg AS, .bool true]) ?_ rfl HF.out;rw [results_cell_tmp rfl];simp [asAddr, Result.andThen, hld]
  | succ g =>
   have hi : i = 0 ∨ i = 1 := by omega
   rcases hi with rfl | rfl
   ·have hcell : (Lib.setCells (([32, 0] : List UInt8).take 0))[32]? = some (.bool false) := Lib.setCells_at [] 32;generalize hC : Lib.setCells (([32, 0] : List UInt8).take 0) = C at *;have HC : Hid (C.setIfInBounds 32 (.bool true) = Lib.setCells (([32, 0] : List UInt8).take 1)) := by rw [← hC]; rfl
    clear hC
    go_wp2
    go_roundg g
    case measure => omega
    case rel => exact ⟨1, by omega, by first | rfl | simp, by rw [HC.out]⟩
   ·have hcell : (Lib.setCells (([32, 0] : List UInt8).take 1))[0]? = some (.bool false) := Lib.setCells_at [32] 0;generalize hC : Lib.setCells (([32, 0] : List UInt8).take 1) = C at *;have HC : Hid (C.setIfInBounds 0 (.bool true) = Lib.setCells (([32, 0] : List UInt8).take 2)) := by rw [← hC]; rfl
    clear hC
    go_wp2
    go_roundg g
    case measure => omega
    case rel => exact ⟨2, by omega, by first | rfl | simp, by rw [HC.out]⟩
theorem asciiHas_any (b : Nat) (x : By) (w : World) (hw : w.heap[b]? = some (.cells AS 242)) :
  Calls Tryz.prog 206 #[.pointer (some ⟨b, 0, none⟩), .int .u8 x.toNat] w fun e w' => e = .returned (.bool (isBz x)) ∧ w = w' := by
 refine asP fun P hP => ?_
 have HF : Hid (P (.returned (.bool (isBz x))) w) := by rw [hP]; exact ⟨rfl, rfl⟩
 clear hP;have hc : w.cell? ⟨b, x.toNat, none⟩ = some (.bool (isBz x)) := by
  have := as_at x;simp only [World.cell?, hw]
  simpa using this
 have hx256 : (x.toNat : Int) < 256 := by have := x.isLt; omega
 clear hw;generalize isBz x = v at *;generalize x.toNat = y at *;go_enter Tryz.func206, Tryz.ntmps206
 go_wp2
 exact HF.out
end Go.Proofs.YtlenihpbhlfcoaaGreatDoor

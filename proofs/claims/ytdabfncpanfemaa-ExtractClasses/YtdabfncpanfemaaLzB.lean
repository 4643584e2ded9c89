import Derived.Test.YtdabfncpanfemaaLzA
import Derived.Lib.Overlaps
import Derived.Deep.AppendSrc
import Derived.Laws.AppendOwn
import Derived.Deep.DeepAppendWide
namespace Go.Proofs.Ytdabfncpanfemaa
open Go.RowKit
set_option linter.unusedVariables false

theorem add_addr (g o j : Nat) : (⟨g, o, none⟩ : Addr).add j = ⟨g, o + j, none⟩ := by unfold Addr.add; split <;> simp_all
/-! ### Rows of bytes that the call makes -/
def Bw (g : Nat) (xs : List By) (w : World) : Prop := w.heap[g]? = some (.cells (xs.map bv).toArray 5)
theorem Bw.lt {g : Nat} {xs : List By} {w : World} (h : Bw g xs w) : g < w.heap.size := (Array.getElem?_eq_some_iff.1 h).1
theorem Bw.kept {g : Nat} {xs : List By} {w w' : World} {X : Nat → Prop} (h : Bw g xs w) (f : Fr X w w') (hx : ¬ X g) : Bw g xs w' := (f.block g h.lt hx).trans h
theorem Bw.cell {g : Nat} {xs : List By} {w : World} (h : Bw g xs w) (j : Nat) (b : By) (hb : xs[j]? = some b) : w.cell? ⟨g, j, none⟩ = some (bv b) ∧ w.frozen? ⟨g, j, none⟩ = false := by
  unfold Bw at h
  constructor <;> simp [World.cell?, World.frozen?, h, hb]
theorem Bw.rd {g : Nat} {xs : List By} {w : World} (h : Bw g xs w) : Rd g 0 xs w := fun j hj => by
  rw [Nat.zero_add]; exact (h.cell j _ (List.getElem?_eq_getElem hj)).1
theorem Bw.set {g : Nat} {xs : List By} {w : World} (h : Bw g xs w) (j : Nat) (b : By) (z : Int) (hz : z = b.toNat) : Bw g (xs.set j b) (w.setCell ⟨g, j, none⟩ (.int .u8 z)) := by
  subst hz
  unfold Bw at h ⊢
  simp only [World.setCell, Array.getElem?_modify, h]
  simp [List.map_set]
/-- A slice of the call's own, from its block's first cell on. -/
def Ow (g : Nat) (v : Value) (l : List By) (w : World) : Prop := ∃ xs, v = .slice (some ⟨g, 0, none⟩) l.length xs.length ∧ xs.take l.length = l ∧ l.length ≤ xs.length ∧ xs.length < 9223372036854775808 ∧ Bw g xs w
theorem Ow.kept {g : Nat} {v : Value} {l : List By} {w w' : World} {X : Nat → Prop} (h : Ow g v l w) (f : Fr X w w') (hx : ¬ X g) : Ow g v l w' := by
  obtain ⟨xs, h1, h2, h3, h4, h5⟩ := h
  exact ⟨xs, h1, h2, h3, h4, h5.kept f hx⟩
theorem Ow.nw {g : Nat} {v : Value} {l : List By} {w w' : World} (h : Ow g v l w) (f : Nw w w') : Ow g v l w' := h.kept f (fun h => h)
theorem Ow.lt {g : Nat} {v : Value} {l : List By} {w : World} (h : Ow g v l w) : g < w.heap.size := by
  obtain ⟨xs, h1, h2, h3, h4, h5⟩ := h
  exact h5.lt
theorem Ow.slb {g : Nat} {v : Value} {l : List By} {w : World} (h : Ow g v l w) : SlB g v l w := by
  obtain ⟨xs, h1, h2, h3, h4, h5⟩ := h
  refine ⟨0, xs.length, h1, h3, h4, ?_⟩
  have := h5.rd.take l.length
  rw [h2] at this; exact this
theorem Ow.old {g : Nat} {v : Value} {l : List By} {w : World} (h : Ow g v l w) : Sl (fun k => w.heap.size ≤ k) v l w := .inr ⟨g, by have := h.lt; omega, h.slb⟩
theorem infoB : ∃ i, Try.prog.info? 5 = some i ∧ i.zero = some (.int .u8 0) ∧ i.size = 1 ∧ i.bytes = 1 := by
  have h : (Try.prog.info? 5).map (fun i => (i.zero, i.size, i.bytes)) = some (some (.int .u8 0), 1, 1) := by kernel_rfl
  cases hq : Try.prog.info? 5 with
  | none => simp [hq] at h
  | some i => simp [hq] at h; exact ⟨i, rfl, h.1, h.2.1, h.2.2⟩
theorem bv_one (l : List By) : ∀ v ∈ l.map bv, v.oneCell' = true := by
  intro v hv
  simp only [List.mem_map] at hv
  obtain ⟨b, _, rfl⟩ := hv
  rfl
theorem zeroB (n : Nat) : (Builtin.zeroCells (Value.int .u8 0).cells n) = ((List.replicate n 0#8).map bv).toArray := by
  apply Array.ext'
  apply List.ext_getElem?
  intro k
  by_cases hk : k < n
  · simp [Builtin.zeroCells, Value.cells, hk, Nat.mod_one]
  · rw [List.getElem?_eq_none (by simp [Builtin.zeroCells, Value.cells]; omega), List.getElem?_eq_none (by simp; omega)]
/-- A slice of what is there. -/
abbrev Old (w : World) (v : Value) (b : List By) : Prop := Sl (fun k => w.heap.size ≤ k) v b w
theorem Sl.length {X : Nat → Prop} {v : Value} {b : List By} {w : World} (h : Sl X v b w) : b.length < 9223372036854775808 := by
  rcases h with ⟨_, _, rfl⟩ | ⟨g, _, o, c, _, h2, h3, _⟩
  · simp
  · omega
theorem Sl.mono {X Y : Nat → Prop} {v : Value} {b : List By} {w : World} (h : Sl X v b w) (hxy : ∀ g, Y g → X g) : Sl Y v b w := by
  rcases h with h | ⟨g, h1, h2⟩
  · exact .inl h
  · exact .inr ⟨g, fun hy => h1 (hxy g hy), h2⟩

theorem Sl.later {w V : World} {v : Value} {b : List By} (h : Old w v b) (hV : Nw w V) : Old V v b := by
  have h1 := h.nw hV
  exact h1.mono (fun g hg => Nat.le_trans hV.size hg)
theorem cbase {f : FuncId} {args : Array Value} {w W : World} {v : Value} (h : Nw w W) (k : Calls Try.prog f args W fun e w' => e = .returned v ∧ Nw W w') : Calls Try.prog f args W fun e w' => e = .returned v ∧ Nw w w' :=
  k.mono (fun e w' hk => ⟨hk.1, h.trans hk.2⟩)
/-- An empty slice of the call's own. -/
theorem Ow.empty (w : World) : Ow w.heap.size (.slice (some ⟨w.heap.size, 0, none⟩) 0 0) [] (w.alloc (.cells #[] 5)) :=
  ⟨[], rfl, rfl, by simp, by simp, by
    show (w.heap.push _)[w.heap.size]? = _
    simp⟩
theorem Ow.cut {g : Nat} {v : Value} {l : List By} {w : World} (h : Ow g v l w) (n : Nat) (hn : n ≤ l.length) : ∃ c, v = .slice (some ⟨g, 0, none⟩) l.length c ∧ l.length ≤ c ∧ c < 9223372036854775808 ∧ Ow g (.slice (some ⟨g, 0, none⟩) n c) (l.take n) w := by
  obtain ⟨xs, h1, h2, h3, h4, h5⟩ := h
  refine ⟨xs.length, h1, h3, h4, xs, ?_, ?_, ?_, h4, h5⟩
  · rw [List.length_take, Nat.min_eq_left hn]
  · rw [List.length_take, Nat.min_eq_left hn]
    conv => rhs; rw [← h2]
    rw [List.take_take, Nat.min_eq_left hn]
  · rw [List.length_take]; omega
/-- A byte of one's own, written over. -/
theorem Ow.put {g : Nat} {v : Value} {l : List By} {w : World} (h : Ow g v l w) (j : Nat) (hj : j < l.length) (z : By) (k : Int) (hk : k = z.toNat) : Ow g v (l.set j z) (w.setCell ⟨g, j, none⟩ (.int .u8 k)) := by
  obtain ⟨xs, h1, h2, h3, h4, h5⟩ := h
  refine ⟨xs.set j z, by rw [h1]; simp, ?_, by simp; exact h3, by simp; exact h4, h5.set j z k hk⟩
  rw [List.length_set, List.take_set, h2]
theorem Ow.at {g : Nat} {v : Value} {l : List By} {w : World} (h : Ow g v l w) (j : Nat) (hj : j < l.length) : w.cell? ⟨g, j, none⟩ = some (.int .u8 l[j].toNat) ∧ w.frozen? ⟨g, j, none⟩ = false := by
  obtain ⟨xs, h1, h2, h3, h4, h5⟩ := h
  have : xs[j]? = some l[j] := by
    have e : (xs.take l.length)[j]? = l[j]? := by rw [h2]
    rw [List.getElem?_take, if_pos hj, List.getElem?_eq_getElem hj] at e
    exact e
  exact h5.cell j _ this
/-- Nil, or a slice of the call's own in a block that no one else holds. -/
def Mine (K : Nat → Prop) (v : Value) (l : List By) (w : World) : Prop := (v = .slice none 0 0 ∧ l = []) ∨ ∃ g, ¬ K g ∧ Ow g v l w
theorem Mine.kept {K : Nat → Prop} {v : Value} {l : List By} {w w' : World} {X : Nat → Prop} (h : Mine K v l w) (f : Fr X w w') (hx : ∀ g, X g → K g ∨ w.heap.size ≤ g) : Mine K v l w' := by
  rcases h with h | ⟨g, h1, h2⟩
  · exact .inl h
  · exact .inr ⟨g, h1, h2.kept f (fun hg => by rcases hx g hg with e | e; exact h1 e; have := h2.lt; omega)⟩
theorem Mine.nw {K : Nat → Prop} {v : Value} {l : List By} {w w' : World} (h : Mine K v l w) (f : Nw w w') : Mine K v l w' := h.kept f (fun _ h => h.elim)
theorem Mine.more {K K' : Nat → Prop} {v : Value} {l : List By} {w : World} (h : Mine K v l w) (hk : ∀ g, K' g → K g ∨ w.heap.size ≤ g) : Mine K' v l w := by
  rcases h with h | ⟨g, h1, h2⟩
  · exact .inl h
  · exact .inr ⟨g, fun hg => by rcases hk g hg with e | e; exact h1 e; have := h2.lt; omega, h2⟩
theorem Mine.sl {K : Nat → Prop} {v : Value} {l : List By} {w : World} (h : Mine K v l w) : Sl (fun k => K k ∨ w.heap.size ≤ k) v l w := by
  rcases h with ⟨h1, h2⟩ | ⟨g, h1, h2⟩
  · exact .inl ⟨none, h1, h2⟩
  · exact .inr ⟨g, fun hg => by rcases hg with e | e; exact h1 e; have := h2.lt; omega, h2.slb⟩
theorem Mine.old {K : Nat → Prop} {v : Value} {l : List By} {w : World} (h : Mine K v l w) : Old w v l := h.sl.mono (fun _ h => .inr h)
theorem Mine.nil (K : Nat → Prop) (w : World) : Mine K (.slice none 0 0) [] w := .inl ⟨rfl, rfl⟩
/-- A slice's form. -/
theorem Sl.form {X : Nat → Prop} {v : Value} {l : List By} {w : World} (h : Sl X v l w) : ∃ a c, v = .slice a l.length c ∧ l.length ≤ c ∧ c < 9223372036854775808 := by
  rcases h with ⟨a, rfl, rfl⟩ | ⟨g, _, o, c, rfl, h2, h3, _⟩
  · exact ⟨a, 0, rfl, by simp, by simp⟩
  · exact ⟨_, c, rfl, h2, h3⟩
end Go.Proofs.Ytdabfncpanfemaa

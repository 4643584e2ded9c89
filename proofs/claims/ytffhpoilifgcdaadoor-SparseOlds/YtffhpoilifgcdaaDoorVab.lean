import Derived.Test.YtffhpoilifgcdaaDoorVaa
import Derived.Lib.Overlaps
import Derived.Deep.AppendSrc
import Derived.Laws.AppendOwn
import Derived.Deep.DeepAppendWide
namespace Go.Proofs.YtffhpoilifgcdaaDoor
open Go.RowKit
set_option linter.unusedVariables false

theorem add_addr (g o j : Nat) : (⟨g, o, none⟩ : Addr).add j = ⟨g, o + j, none⟩ := by unfold Addr.add; split <;> simp_all
/-! ### Rows of bytes that the call makes -/
def Bw (g : Nat) (xs : List By) (w : World) : Prop := w.heap[g]? = some (.cells (xs.map bv).toArray 5)
theorem Bw.lt {g : Nat} {xs : List By} {w : World} (h : Bw g xs w) : g < w.heap.size := (Array.getElem?_eq_some_iff.1 h).1
theorem Bw.kept {g : Nat} {xs : List By} {w w' : World} {X : Nat → Prop} (h : Bw g xs w) (f : Fr X w w') (hx : ¬ X g) : Bw g xs w' := (f.block g h.lt hx).trans h
theorem Bw.cell {g : Nat} {xs : List By} {w : World} (h : Bw g xs w) (j : Nat) (b : By) (hb : xs[j]? = some b) : w.cell? ⟨g, j, none⟩ = some (bv b) ∧ w.frozen? ⟨g, j, none⟩ = false := by
  unfold Bw at h
  constructor <;> simp [World.cell?, World.frozen?, h, hb]
theorem Bw.rd {g : Nat} {xs : List By} {w : World} (h : Bw g xs w) : Rd g 0 xs w := fun j hj => by
  rw [Nat.zero_add]; exact (h.cell j _ (List.getElem?_eq_getElem hj)).1
theorem Bw.set {g : Nat} {xs : List By} {w : World} (h : Bw g xs w) (j : Nat) (b : By) (z : Int) (hz : z = b.toNat) : Bw g (xs.set j b) (w.setCell ⟨g, j, none⟩ (.int .u8 z)) := by
  subst hz
  unfold Bw at h ⊢
  simp only [World.setCell, Array.getElem?_modify, h]
  simp [List.map_set]
/-- A slice of the call's own, from its block's first cell on. -/
def Ow (g : Nat) (v : Value) (l : List By) (w : World) : Prop := ∃ xs, v = .slice (some ⟨g, 0, none⟩) l.length xs.length ∧ xs.take l.length = l ∧ l.length ≤ xs.length ∧ xs.length < 9223372036854775808 ∧ Bw g xs w
theorem Ow.kept {g : Nat} {v : Value} {l : List By} {w w' : World} {X : Nat → Prop} (h : Ow g v l w) (f : Fr X w w') (hx : ¬ X g) : Ow g v l w' := by
  obtain ⟨xs, h1, h2, h3, h4, h5⟩ := h
  exact ⟨xs, h1, h2, h3, h4, h5.kept f hx⟩
theorem Ow.nw {g : Nat} {v : Value} {l : List By} {w w' : World} (h : Ow g v l w) (f : Nw w w') : Ow g v l w' := h.kept f (fun h => h)
theorem Ow.lt {g : Nat} {v : Value} {l : List By} {w : World} (h : Ow g v l w) : g < w.heap.size := by
  obtain ⟨xs, h1, h2, h3, h4, h5⟩ := h
  exact h5.lt
theorem Ow.slb {g : Nat} {v : Value} {l : List By} {w : World} (h : Ow g v l w) : SlB g v l w := by
  obtain ⟨xs, h1, h2, h3, h4, h5⟩ := h
  refine ⟨0, xs.length, h1, h3, h4, ?_⟩
  have := h5.rd.take l.length
  rw [h2] at this; exact this
theorem Ow.old {g : Nat} {v : Value} {l : List By} {w : World} (h : Ow g v l w) : Sl (fun k => w.heap.size ≤ k) v l w := .inr ⟨g, by have := h.lt; omega, h.slb⟩
theorem infoB : ∃ i, Tryd.prog.info? 5 = some i ∧ i.zero = some (.int .u8 0) ∧ i.size = 1 ∧ i.bytes = 1 := by
  have h : (Tryd.prog.info? 5).map (fun i => (i.zero, i.size, i.bytes)) = some (some (.int .u8 0), 1, 1) := by kernel_rfl
  cases hq : Tryd.prog.info? 5 with
  | none => simp [hq] at h
  | some i => simp [hq] at h; exact ⟨i, rfl, h.1, h.2.1, h.2.2⟩
theorem bv_one (l : List By) : ∀ v ∈ l.map bv, v.oneCell' = true := by
  intro v hv
  simp only [List.mem_map] at hv
  obtain ⟨b, _, rfl⟩ := hv
  rfl
theorem srcB (w : World) (x : Value) (m : List By) (hx : Sl (fun _ => False) x m w) : Src Tryd.prog 1 23 x m.length (m.map bv) w := by
  rcases hx with ⟨a, rfl, rfl⟩ | ⟨g, _, o, c, rfl, h1, h2, h3⟩
  · cases a with
    | none => exact Src.ofNil w Tryd.underlying23 0
    | some a => exact Src.ofSlice w Tryd.underlying23 a 0 0 _ (by simp) (fun j u hj => by simp at hj) (bv_one _)
  · refine Src.ofSlice w Tryd.underlying23 ⟨g, o, none⟩ m.length c _ (by simp) (fun j u hj => ?_) (bv_one _)
    rw [add_addr]
    simp only [List.getElem?_map, Option.map_eq_some_iff] at hj
    obtain ⟨b, hb, rfl⟩ := hj
    exact h3.at j b hb
theorem zeroB (n : Nat) : (Builtin.zeroCells (Value.int .u8 0).cells n) = ((List.replicate n 0#8).map bv).toArray := by
  apply Array.ext'
  apply List.ext_getElem?
  intro k
  by_cases hk : k < n
  · simp [Builtin.zeroCells, Value.cells, hk, Nat.mod_one]
  · rw [List.getElem?_eq_none (by simp [Builtin.zeroCells, Value.cells]; omega), List.getElem?_eq_none (by simp; omega)]
set_option maxRecDepth 100000 in
theorem app_any (w : World) (g : Nat) (v : Value) (l : List By) (hO : Ow g v l w) (x : Value) (m : List By) (hx : Sl (fun _ => False) x m w) (hb : l.length + m.length ≤ 200000000000000) :
    ∃ v' g' W, (∀ ty, (Builtin.append_ #[23, 23] ty #[v, x]).run Tryd.prog w = .ok v' W) ∧ Ow g' v' (l ++ m) W ∧ Fr (fun k => k = g) w W ∧ (g' = g ∨ w.heap.size ≤ g') := by
  obtain ⟨xs, rfl, h2, h3, h4, h5⟩ := hO
  obtain ⟨i, hi, hz, hs, hby⟩ := infoB
  have hsrc := srcB w x m hx
  by_cases hroom : l.length + m.length ≤ xs.length
  · have hst := run_storeCells_at (P := Tryd.prog) g (0 + l.length) 5 (m.map bv) 0 (xs.map bv).toArray w h5 (by simp; omega) (bv_one _)
    refine ⟨.slice (some ⟨g, 0, none⟩) (l.length + m.length) xs.length, g, w.setRow g (((l ++ m ++ xs.drop (l.length + m.length)).map bv).toArray), fun ty => ?_, ?_, ?_, .inl rfl⟩
    · obtain ⟨W0, hW0⟩ : ∃ W0, W0 = w.setRow g (((l ++ m ++ xs.drop (l.length + m.length)).map bv).toArray) := ⟨_, rfl⟩
      have hst' : (storeCells ⟨g, l.length, none⟩ (m.map bv)).run Tryd.prog w = .ok () W0 := by
        rw [← Nat.zero_add l.length, hst, hW0]
        congr 3
        simp only [Nat.add_zero, Nat.zero_add, List.length_map]
        rw [← List.map_take, ← List.map_drop, h2]
        simp
      rw [← hW0]
      clear hst
      rcases hsrc.kind with ⟨e', hk⟩ | hk
      · simp [Builtin.append_, run_underlying Tryd.underlying23, sizeOf, typeInfo, hi, hs, hsrc.len, hroom, hsrc.cells, Addr.add_lit, hst']
      · rw [Tryd.underlying23] at hk; cases hk
    · have hl : (l ++ m).length = l.length + m.length := by simp
      refine ⟨l ++ m ++ xs.drop (l.length + m.length), ?_, ?_, ?_, ?_, ?_⟩
      · simp; omega
      · rw [List.take_append_of_le_length (by simp), List.take_of_length_le (by simp)]
      · simp
      · simp; omega
      · exact setRow_heap w g _ _ 5 _ h5
    · exact (Fr.refl _ _).setRow _ _ (.inl rfl)
  · have hold : (Builtin.firstCells i.size l.length (.slice (some ⟨g, 0, none⟩) l.length xs.length)).run Tryd.prog w.drew = .ok (l.map bv).toArray w.drew := by
      rw [hs]
      refine run_firstCells_some w.drew 1 l.length ⟨g, 0, none⟩ l.length xs.length (l.map bv) (by simp) (fun j u hj => ?_)
      rw [add_addr]
      simp only [List.getElem?_map, Option.map_eq_some_iff] at hj
      obtain ⟨b, hb, rfl⟩ := hj
      have hr := h5.rd.take l.length
      rw [h2] at hr
      exact hr.at j b hb
    have hrun := fun ty => run_append_grow_src w 23 23 ty 5 i _ Tryd.underlying23 hi hz (some ⟨g, 0, none⟩) l.length xs.length _ hold x m.length _ (by rw [hs]; exact hsrc) (by omega) (by omega) (by rw [hby]; exact growslice_fits_wide (by omega) (by omega))
    have hge := grownCap_ge w (l.length + m.length) xs.length 5
    have hle := grownCap_le_maxLen w (l.length + m.length) xs.length 5 (by unfold maxLen; omega)
    unfold maxLen at hle
    generalize grownCap w (l.length + m.length) xs.length 5 = G at *
    refine ⟨_, w.heap.size, _, hrun, ?_, (Fr.refl _ _).drew.alloc _, .inr (Nat.le_refl _)⟩
    have e : ((l.map bv ++ m.map bv).toArray ++ Builtin.zeroCells (Value.int .u8 0).cells (G - (l.length + m.length))) = ((l ++ m ++ List.replicate (G - (l.length + m.length)) 0#8).map bv).toArray := by
      rw [zeroB]; simp
    rw [e]
    refine ⟨l ++ m ++ List.replicate (G - (l.length + m.length)) 0#8, ?_, ?_, ?_, ?_, ?_⟩
    · simp; omega
    · rw [List.take_append_of_le_length (by simp), List.take_of_length_le (by simp)]
    · simp
    · simp; omega
    · show (w.drew.heap.push _)[w.heap.size]? = _
      show (w.heap.push _)[w.heap.size]? = _
      simp
/-- A slice of what is there. -/
abbrev Old (w : World) (v : Value) (b : List By) : Prop := Sl (fun k => w.heap.size ≤ k) v b w
theorem Sl.length {X : Nat → Prop} {v : Value} {b : List By} {w : World} (h : Sl X v b w) : b.length < 9223372036854775808 := by
  rcases h with ⟨_, _, rfl⟩ | ⟨g, _, o, c, _, h2, h3, _⟩
  · simp
  · omega
theorem Sl.mono {X Y : Nat → Prop} {v : Value} {b : List By} {w : World} (h : Sl X v b w) (hxy : ∀ g, Y g → X g) : Sl Y v b w := by
  rcases h with h | ⟨g, h1, h2⟩
  · exact .inl h
  · exact .inr ⟨g, fun hy => h1 (hxy g hy), h2⟩

theorem Sl.later {w V : World} {v : Value} {b : List By} (h : Old w v b) (hV : Nw w V) : Old V v b := by
  have h1 := h.nw hV
  exact h1.mono (fun g hg => Nat.le_trans hV.size hg)
theorem cbase {f : FuncId} {args : Array Value} {w W : World} {v : Value} (h : Nw w W) (k : Calls Tryd.prog f args W fun e w' => e = .returned v ∧ Nw W w') : Calls Tryd.prog f args W fun e w' => e = .returned v ∧ Nw w w' :=
  k.mono (fun e w' hk => ⟨hk.1, h.trans hk.2⟩)
/-- An empty slice of the call's own. -/
theorem Ow.empty (w : World) : Ow w.heap.size (.slice (some ⟨w.heap.size, 0, none⟩) 0 0) [] (w.alloc (.cells #[] 5)) :=
  ⟨[], rfl, rfl, by simp, by simp, by
    show (w.heap.push _)[w.heap.size]? = _
    simp⟩
theorem Ow.cut {g : Nat} {v : Value} {l : List By} {w : World} (h : Ow g v l w) (n : Nat) (hn : n ≤ l.length) : ∃ c, v = .slice (some ⟨g, 0, none⟩) l.length c ∧ l.length ≤ c ∧ c < 9223372036854775808 ∧ Ow g (.slice (some ⟨g, 0, none⟩) n c) (l.take n) w := by
  obtain ⟨xs, h1, h2, h3, h4, h5⟩ := h
  refine ⟨xs.length, h1, h3, h4, xs, ?_, ?_, ?_, h4, h5⟩
  · rw [List.length_take, Nat.min_eq_left hn]
  · rw [List.length_take, Nat.min_eq_left hn]
    conv => rhs; rw [← h2]
    rw [List.take_take, Nat.min_eq_left hn]
  · rw [List.length_take]; omega
/-- A byte of one's own, written over. -/
theorem Ow.put {g : Nat} {v : Value} {l : List By} {w : World} (h : Ow g v l w) (j : Nat) (hj : j < l.length) (z : By) (k : Int) (hk : k = z.toNat) : Ow g v (l.set j z) (w.setCell ⟨g, j, none⟩ (.int .u8 k)) := by
  obtain ⟨xs, h1, h2, h3, h4, h5⟩ := h
  refine ⟨xs.set j z, by rw [h1]; simp, ?_, by simp; exact h3, by simp; exact h4, h5.set j z k hk⟩
  rw [List.length_set, List.take_set, h2]
theorem Ow.at {g : Nat} {v : Value} {l : List By} {w : World} (h : Ow g v l w) (j : Nat) (hj : j < l.length) : w.cell? ⟨g, j, none⟩ = some (.int .u8 l[j].toNat) ∧ w.frozen? ⟨g, j, none⟩ = false := by
  obtain ⟨xs, h1, h2, h3, h4, h5⟩ := h
  have : xs[j]? = some l[j] := by
    have e : (xs.take l.length)[j]? = l[j]? := by rw [h2]
    rw [List.getElem?_take, if_pos hj, List.getElem?_eq_getElem hj] at e
    exact e
  exact h5.cell j _ this
theorem app_nil (w : World) (x : Value) (m : List By) (hx : Sl (fun _ => False) x m w) (hb : m.length ≤ 200000000000000) (hm : m ≠ []) :
    ∃ v' W, (∀ ty, (Builtin.append_ #[23, 23] ty #[.slice none 0 0, x]).run Tryd.prog w = .ok v' W) ∧ Ow w.heap.size v' m W ∧ Nw w W := by
  obtain ⟨i, hi, hz, hs, hby⟩ := infoB
  have hsrc := srcB w x m hx
  have hm0 : 0 < m.length := List.length_pos_iff.2 hm
  have hrun := fun ty => run_append_grow_src w 23 23 ty 5 i _ Tryd.underlying23 hi hz none 0 0 [] (by simp [Builtin.firstCells]) x m.length _ (by rw [hs]; exact hsrc) (by omega) (by omega) (by rw [hby]; exact growslice_fits_wide (by omega) (by omega))
  have hge := grownCap_ge w (0 + m.length) 0 5
  have hle := grownCap_le_maxLen w (0 + m.length) 0 5 (by unfold maxLen; omega)
  unfold maxLen at hle
  generalize grownCap w (0 + m.length) 0 5 = G at *
  refine ⟨_, _, hrun, ?_, (Fr.refl _ _).drew.alloc _⟩
  have e : (([] ++ m.map bv).toArray ++ Builtin.zeroCells (Value.int .u8 0).cells (G - (0 + m.length))) = ((m ++ List.replicate (G - (0 + m.length)) 0#8).map bv).toArray := by
    rw [zeroB]; simp
  rw [e]
  refine ⟨m ++ List.replicate (G - (0 + m.length)) 0#8, ?_, ?_, ?_, ?_, ?_⟩
  · simp; omega
  · rw [List.take_append_of_le_length (by simp), List.take_of_length_le (by simp)]
  · simp
  · simp; omega
  · show (w.heap.push _)[w.heap.size]? = _
    simp
theorem app_none (w : World) (x : Value) (a : Option Addr) (hx : x = .slice a 0 0) : ∀ ty, (Builtin.append_ #[23, 23] ty #[.slice none 0 0, x]).run Tryd.prog w = .ok (.slice none 0 0) w := by
  intro ty
  subst hx
  obtain ⟨i, hi, hz, hs, hb⟩ := infoB
  cases a with
  | none => simp [Builtin.append_, run_underlying Tryd.underlying23, sizeOf, typeInfo, hi, Builtin.lenOf, Builtin.firstCells]
  | some a =>
    have hl : (loadCells a 0).run Tryd.prog w = .ok #[] w := run_loadCells_list (P := Tryd.prog) w a [] (fun j v hj => by simp at hj)
    simp [Builtin.append_, run_underlying Tryd.underlying23, sizeOf, typeInfo, hi, Builtin.lenOf, Builtin.firstCells, hl]
theorem app_none' (w : World) (g o c : Nat) : ∀ ty, (Builtin.append_ #[23, 23] ty #[.slice none 0 0, .slice (some ⟨g, o, none⟩) 0 c]).run Tryd.prog w = .ok (.slice none 0 0) w := by
  intro ty
  obtain ⟨i, hi, hz, hs, hb⟩ := infoB
  have hl : (loadCells ⟨g, o, none⟩ 0).run Tryd.prog w = .ok #[] w := run_loadCells_list (P := Tryd.prog) w ⟨g, o, none⟩ [] (fun j v hj => by simp at hj)
  simp [Builtin.append_, run_underlying Tryd.underlying23, sizeOf, typeInfo, hi, Builtin.lenOf, Builtin.firstCells, hl]
/-- Nil, or a slice of the call's own in a block that no one else holds. -/
def Mine (K : Nat → Prop) (v : Value) (l : List By) (w : World) : Prop := (v = .slice none 0 0 ∧ l = []) ∨ ∃ g, ¬ K g ∧ Ow g v l w
theorem Mine.kept {K : Nat → Prop} {v : Value} {l : List By} {w w' : World} {X : Nat → Prop} (h : Mine K v l w) (f : Fr X w w') (hx : ∀ g, X g → K g ∨ w.heap.size ≤ g) : Mine K v l w' := by
  rcases h with h | ⟨g, h1, h2⟩
  · exact .inl h
  · exact .inr ⟨g, h1, h2.kept f (fun hg => by rcases hx g hg with e | e; exact h1 e; have := h2.lt; omega)⟩
theorem Mine.nw {K : Nat → Prop} {v : Value} {l : List By} {w w' : World} (h : Mine K v l w) (f : Nw w w') : Mine K v l w' := h.kept f (fun _ h => h.elim)
theorem Mine.more {K K' : Nat → Prop} {v : Value} {l : List By} {w : World} (h : Mine K v l w) (hk : ∀ g, K' g → K g ∨ w.heap.size ≤ g) : Mine K' v l w := by
  rcases h with h | ⟨g, h1, h2⟩
  · exact .inl h
  · exact .inr ⟨g, fun hg => by rcases hk g hg with e | e; exact h1 e; have := h2.lt; omega, h2⟩
theorem Mine.sl {K : Nat → Prop} {v : Value} {l : List By} {w : World} (h : Mine K v l w) : Sl (fun k => K k ∨ w.heap.size ≤ k) v l w := by
  rcases h with ⟨h1, h2⟩ | ⟨g, h1, h2⟩
  · exact .inl ⟨none, h1, h2⟩
  · exact .inr ⟨g, fun hg => by rcases hg with e | e; exact h1 e; have := h2.lt; omega, h2.slb⟩
theorem Mine.old {K : Nat → Prop} {v : Value} {l : List By} {w : World} (h : Mine K v l w) : Old w v l := h.sl.mono (fun _ h => .inr h)
theorem Mine.nil (K : Nat → Prop) (w : World) : Mine K (.slice none 0 0) [] w := .inl ⟨rfl, rfl⟩
/-- A slice's form. -/
theorem Sl.form {X : Nat → Prop} {v : Value} {l : List By} {w : World} (h : Sl X v l w) : ∃ a c, v = .slice a l.length c ∧ l.length ≤ c ∧ c < 9223372036854775808 := by
  rcases h with ⟨a, rfl, rfl⟩ | ⟨g, _, o, c, rfl, h2, h3, _⟩
  · exact ⟨a, 0, rfl, by simp, by simp⟩
  · exact ⟨_, c, rfl, h2, h3⟩
theorem mine_app (K : Nat → Prop) (w : World) (hK : ∀ k, K k → k < w.heap.size) (v : Value) (l : List By) (h : Mine K v l w) (x : Value) (m : List By) (hx : Sl (fun _ => False) x m w) (hb : l.length + m.length ≤ 200000000000000) :
    ∃ v' W, (∀ ty, (Builtin.append_ #[23, 23] ty #[v, x]).run Tryd.prog w = .ok v' W) ∧ Mine K v' (l ++ m) W ∧ Fr (fun k => ¬ K k) w W := by
  rcases h with ⟨rfl, rfl⟩ | ⟨g, h1, h4⟩
  · by_cases hm : m = []
    · subst hm
      refine ⟨.slice none 0 0, w, ?_, .inl ⟨rfl, rfl⟩, Fr.refl _ _⟩
      rcases hx with ⟨a, rfl, _⟩ | ⟨g, _, o, c, rfl, _, _, _⟩
      · exact app_none w _ a rfl
      · exact app_none' w g o c
    · obtain ⟨v', W, k1, k2, k3⟩ := app_nil w x m hx (by simpa using hb) hm
      exact ⟨v', W, k1, .inr ⟨_, fun hk => by have := hK w.heap.size hk; omega, by rw [List.nil_append]; exact k2⟩, k3.any⟩
  · obtain ⟨v', g', W, k1, k2, k3, k4⟩ := app_any w g v l h4 x m hx hb
    refine ⟨v', W, k1, .inr ⟨g', ?_, k2⟩, k3.mono (fun i hi => .inl (by subst hi; exact h1))⟩
    rcases k4 with rfl | k4
    · exact h1
    · intro hk; have := hK _ hk; omega
end Go.Proofs.YtffhpoilifgcdaaDoor

namespace Go.Proofs.YtffhpoilifgcdaaDoor
set_option linter.unusedVariables false
/-! ### Numbers in octal digits, as the document has them -/
/-- An octal digit. -/
def isD (x : By) : Bool := decide (48 ≤ x.toNat ∧ x.toNat ≤ 55)
def isBl (x : By) : Bool := decide (x = 32#8)
def isBz (x : By) : Bool := decide (x = 32#8 ∨ x = 0#8)
theorem isD_bz (x : By) (h : isD x = true) : isBz x = false := by
  unfold isD at h; unfold isBz
  have := of_decide_eq_true h
  apply decide_eq_false
  rintro (e | e)
  · rw [e] at this; exact absurd this (by decide)
  · rw [e] at this; exact absurd this (by decide)
/-- The number of a row of digits. -/
def v8 (n : Nat) (l : List By) : Nat := l.foldl (fun n x => 8 * n + (x.toNat - 48)) n
theorem v8_nil (n : Nat) : v8 n [] = n := rfl
theorem v8_cons (n : Nat) (x : By) (l : List By) : v8 n (x :: l) = v8 (8 * n + (x.toNat - 48)) l := by unfold v8; rw [List.foldl_cons]
theorem v8_app (n : Nat) (l m : List By) : v8 n (l ++ m) = v8 (v8 n l) m := by unfold v8; rw [List.foldl_append]
theorem v8_ge (n : Nat) (l : List By) : n ≤ v8 n l := by
  induction l generalizing n with
  | nil => exact Nat.le_refl _
  | cons x l ih => rw [v8_cons]; exact Nat.le_trans (by omega) (ih _)
@[irreducible] def mx : Nat := 9223372036854775807
/-- The digits, and what stands behind them. -/
def dgs (b : List By) : List By := (b.dropWhile isBl).takeWhile isD
def rst (b : List By) : List By := (b.dropWhile isBl).dropWhile isD
/-- Octal: the number and the error. -/
def octN (b : List By) : Nat := if (rst b).all isBz then (if v8 0 (dgs b) ≤ mx then v8 0 (dgs b) else 0) else 0
def octE (b : List By) : Nat := if (rst b).all isBz then (if v8 0 (dgs b) ≤ mx then 0 else 121) else 120
/-- What is left when blanks and zeros behind are taken off. -/
def trR (b : List By) : List By := (b.reverse.dropWhile isBz).reverse
theorem trR_all (r : List By) (h : r.all isBz = true) (l : List By) : trR (l ++ r) = trR l := by
  unfold trR
  rw [List.reverse_append]
  have : ∀ (r l : List By), (r.all isBz = true) → (r ++ l).dropWhile isBz = l.dropWhile isBz := by
    intro r l hr
    induction r with
    | nil => rfl
    | cons x r ih =>
      rw [List.all_cons, Bool.and_eq_true] at hr
      rw [List.cons_append, List.dropWhile_cons, if_pos hr.1, ih hr.2]
  rw [this]
  rw [List.all_reverse]; exact h
theorem trR_digits (l : List By) (h : l.all isD = true) : trR l = l := by
  unfold trR
  have : l.reverse.dropWhile isBz = l.reverse := by
    have hr : l.reverse.all isD = true := by rw [List.all_reverse]; exact h
    cases hq : l.reverse with
    | nil => rfl
    | cons x r =>
      rw [hq, List.all_cons, Bool.and_eq_true] at hr
      rw [List.dropWhile_cons, if_neg (by rw [isD_bz x hr.1]; decide)]
  rw [this, List.reverse_reverse]
/-- What is kept where something behind is no blank and no zero: all ahead of it. -/
theorem trR_keeps (l r : List By) (x : By) (h : (x :: r).all isBz = false) : ∃ m, trR (l ++ x :: r) = l ++ x :: m := by
  unfold trR
  have : ∀ (q l : List By), q.all isBz = false → ∃ m, (q ++ l).dropWhile isBz = m ++ l ∧ ∃ p, p ++ m = q ∧ m ≠ [] := by
    intro q l hq
    induction q with
    | nil => simp at hq
    | cons y q ih =>
      by_cases hy : isBz y = true
      · rw [List.all_cons, hy, Bool.true_and] at hq
        obtain ⟨m, e, p, e2, hm⟩ := ih hq
        refine ⟨m, ?_, y :: p, by rw [List.cons_append, e2], hm⟩
        rw [List.cons_append, List.dropWhile_cons, if_pos hy, e]
      · refine ⟨y :: q, ?_, [], rfl, by simp⟩
        rw [List.cons_append, List.dropWhile_cons, if_neg hy]
  rw [List.reverse_append]
  obtain ⟨m, e, p, e2, hm⟩ := this (x :: r).reverse l.reverse (by rw [List.all_reverse]; exact h)
  rw [e, List.reverse_append, List.reverse_reverse]
  -- m ends in x
  have hx : ∃ m', m = m' ++ [x] := by
    rw [List.reverse_cons] at e2
    rcases List.eq_nil_or_concat m with rfl | ⟨m', y, rfl⟩
    · exact absurd rfl hm
    · rw [List.concat_eq_append, ← List.append_assoc] at e2
      have := (List.append_inj' e2 rfl).2
      injection this with this
      subst this
      exact ⟨m', List.concat_eq_append⟩
  obtain ⟨m', rfl⟩ := hx
  exact ⟨m'.reverse, by rw [List.reverse_append]; rfl⟩
theorem dgs_rst (b : List By) : dgs b ++ rst b = b.dropWhile isBl := List.takeWhile_append_dropWhile
theorem dgs_all (b : List By) : (dgs b).all isD = true := by
  unfold dgs
  generalize b.dropWhile isBl = l
  induction l with
  | nil => rfl
  | cons x l ih =>
    rw [List.takeWhile_cons]
    split
    · rw [List.all_cons, ih, Bool.and_true]; assumption
    · rfl
theorem rst_head (b : List By) (x : By) (r : List By) (h : rst b = x :: r) : isD x = false := by
  unfold rst at h
  generalize b.dropWhile isBl = l at h
  induction l with
  | nil => simp at h
  | cons y l ih =>
    rw [List.dropWhile_cons] at h
    split at h
    · exact ih h
    · injection h with h1 h2
      subst h1
      simpa using ‹¬ isD y = true›
/-- The digits between blanks and zeros: they are the digits, if the field is one. -/
theorem trR_is (b : List By) (h : (rst b).all isBz = true) : trR (b.dropWhile isBl) = dgs b := by
  rw [← dgs_rst, trR_all _ h, trR_digits _ (dgs_all b)]
theorem trR_not (b : List By) (h : (rst b).all isBz = false) : (trR (b.dropWhile isBl)).all isD = false := by
  rw [← dgs_rst]
  cases hr : rst b with
  | nil => rw [hr] at h; simp at h
  | cons x r =>
    rw [hr] at h
    obtain ⟨m, e⟩ := trR_keeps (dgs b) r x h
    rw [e, List.all_append, List.all_cons, rst_head b x r hr]
    simp
/-! ### Numbers to the base 256 -/
/-- The number of bytes, the highest first, going on from n. -/
def vb (n : Int) (l : List By) : Int := l.foldl (fun n x => n * 256 + (x.toNat : Int)) n
theorem vb_cons (n : Int) (x : By) (l : List By) : vb n (x :: l) = vb (n * 256 + (x.toNat : Int)) l := by unfold vb; rw [List.foldl_cons]
theorem vb_app (n : Int) (l m : List By) : vb n (l ++ m) = vb (vb n l) m := by unfold vb; rw [List.foldl_append]
/-- It is n shifted, and the bytes' own number. -/
theorem vb_split (n : Int) (l : List By) : vb n l = n * 256 ^ l.length + vb 0 l := by
  induction l generalizing n with
  | nil => simp [vb]
  | cons x l ih =>
    rw [vb_cons, ih, vb_cons, ih (0 * 256 + (x.toNat : Int)), List.length_cons, Int.pow_succ, Int.add_mul, Int.zero_mul, Int.zero_add, Int.add_assoc, Int.mul_assoc, Int.mul_comm 256]
theorem vb_lo (l : List By) : 0 ≤ vb 0 l ∧ vb 0 l < 256 ^ l.length := by
  induction l with
  | nil => simp [vb]
  | cons x l ih =>
    have hx := x.isLt
    rw [vb_cons, vb_split, List.length_cons, Int.pow_succ]
    have h0 : (0 : Int) < 256 ^ l.length := Int.pow_pos (by omega)
    generalize (256 : Int) ^ l.length = M at *
    generalize vb 0 l = v at *
    have h1 : (0 * 256 + (x.toNat : Int)) * M = (x.toNat : Int) * M := by rw [Int.zero_mul, Int.zero_add]
    rw [h1]
    have h2 : (x.toNat : Int) * M ≤ 255 * M := Int.mul_le_mul_of_nonneg_right (by omega) (by omega)
    have h3 : 0 ≤ (x.toNat : Int) * M := Int.mul_nonneg (by omega) (by omega)
    constructor
    · omega
    · omega
/-- The first byte with its sign. -/
def fb (x : By) : Int := if (x.toNat : Int) - 128 > 63 then (x.toNat : Int) - 256 else (x.toNat : Int) - 128
/-- The number of a binary field. -/
def binV : List By → Int
  | [] => 0
  | x :: l => vb (fb x) l
def isB (b : List By) : Bool := decide (2 ≤ b.length ∧ 128 ≤ (b.headD 0).toNat)
def inI (n : Int) : Bool := decide (-9223372036854775808 ≤ n ∧ n ≤ 9223372036854775807)
def binN (b : List By) : Int := if isB b then (if inI (binV b) then binV b else 0) else 0
def binE (b : List By) : Nat := if isB b then (if inI (binV b) then 0 else 121) else 120
/-- Once out of the range, always. -/
theorem vb_out (n : Int) (l : List By) (h : inI n = false) : inI (vb n l) = false := by
  induction l generalizing n with
  | nil => exact h
  | cons x l ih =>
    rw [vb_cons]
    apply ih
    have hx := x.isLt
    unfold inI at h ⊢
    have := of_decide_eq_false h
    apply decide_eq_false
    omega
theorem fb_range (x : By) (h : 128 ≤ x.toNat) : -64 ≤ fb x ∧ fb x ≤ 63 := by
  have hx := x.isLt
  unfold fb
  split <;> omega
/-- What numbers fields of k + 1 bytes have. -/
theorem binV_range (x : By) (l : List By) (h : 128 ≤ x.toNat) : -64 * 256 ^ l.length ≤ binV (x :: l) ∧ binV (x :: l) < 64 * 256 ^ l.length := by
  obtain ⟨h1, h2⟩ := fb_range x h
  show _ ≤ vb (fb x) l ∧ vb (fb x) l < _
  rw [vb_split]
  obtain ⟨h3, h4⟩ := vb_lo l
  have h0 : (0 : Int) < 256 ^ l.length := Int.pow_pos (by omega)
  generalize (256 : Int) ^ l.length = M at *
  generalize vb 0 l = v at *
  have a1 : -64 * M ≤ fb x * M := Int.mul_le_mul_of_nonneg_right h1 (by omega)
  have a2 : fb x * M ≤ 63 * M := Int.mul_le_mul_of_nonneg_right h2 (by omega)
  omega
end Go.Proofs.YtffhpoilifgcdaaDoor

namespace Go.Proofs.YtffhpoilifgcdaaDoor
set_option linter.unusedVariables false
/-! ### Octal digits, written -/
def dg (n : Nat) : By := BitVec.ofNat 8 (48 + n % 8)
theorem dg_toNat (n : Nat) : (dg n).toNat = 48 + n % 8 := by
  unfold dg
  rw [BitVec.toNat_ofNat]
  exact Nat.mod_eq_of_lt (by omega)
theorem dg_isD (n : Nat) : isD (dg n) = true := by
  unfold isD
  rw [dg_toNat]
  exact decide_eq_true (by omega)
/-- The last k octal digits of n. -/
def ol (n : Nat) : Nat → List By
  | 0 => []
  | k + 1 => dg (n / 8 ^ k) :: ol n k
theorem ol_length (n k : Nat) : (ol n k).length = k := by
  induction k with
  | zero => rfl
  | succ k ih => rw [ol, List.length_cons, ih]
theorem ol_all (n k : Nat) : (ol n k).all isD = true := by
  induction k with
  | zero => rfl
  | succ k ih => rw [ol, List.all_cons, ih, dg_isD]; rfl
theorem v8_ol (n k : Nat) : ∀ m, v8 m (ol n k) = m * 8 ^ k + n % 8 ^ k := by
  induction k with
  | zero => intro m; simp [ol, v8_nil, Nat.mod_one]
  | succ k ih =>
    intro m
    rw [ol, v8_cons, ih, dg_toNat, Nat.add_sub_cancel_left, Nat.mod_pow_succ (b := 8), Nat.add_mul, Nat.pow_succ]
    rw [Nat.mul_comm 8 m, Nat.mul_assoc m 8, Nat.mul_comm 8 (8 ^ k), Nat.mul_comm (n / 8 ^ k % 8)]
    omega
theorem ol_fit (n k : Nat) (h : n / 8 ^ k = 0) : v8 0 (ol n k) = n := by
  rw [v8_ol, Nat.zero_mul, Nat.zero_add]
  apply Nat.mod_eq_of_lt
  have h0 : 0 < 8 ^ k := Nat.pow_pos (by omega)
  exact (Nat.div_eq_zero_iff_lt h0).1 h
theorem tw_all (l r : List By) (p : By → Bool) (h : l.all p = true) (hr : ∀ x, r.head? = some x → p x = false) : (l ++ r).takeWhile p = l ∧ (l ++ r).dropWhile p = r := by
  induction l with
  | nil =>
    cases r with
    | nil => exact ⟨rfl, rfl⟩
    | cons x r =>
      have := hr x rfl
      rw [List.nil_append, List.takeWhile_cons, List.dropWhile_cons, this]
      exact ⟨rfl, rfl⟩
  | cons y l ih =>
    rw [List.all_cons, Bool.and_eq_true] at h
    obtain ⟨a, b⟩ := ih h.2
    rw [List.cons_append, List.takeWhile_cons, List.dropWhile_cons, if_pos h.1, if_pos h.1, a, b]
    exact ⟨rfl, rfl⟩
theorem isD_bl (x : By) (h : isD x = true) : isBl x = false := by
  have := isD_bz x h
  unfold isBz at this; unfold isBl
  have := of_decide_eq_false this
  exact decide_eq_false (fun e => this (.inl e))
/-- Digits and a zero read as their number. -/
theorem oct_ol (n k : Nat) (h : n / 8 ^ k = 0) (hm : n ≤ mx) (hk : 0 < k) : octN (ol n k ++ [0#8]) = n ∧ octE (ol n k ++ [0#8]) = 0 := by
  have hd : (ol n k ++ [0#8]).dropWhile isBl = ol n k ++ [0#8] := by
    obtain ⟨j, rfl⟩ : ∃ j, k = j + 1 := ⟨k - 1, by omega⟩
    rw [ol, List.cons_append, List.dropWhile_cons, if_neg (by rw [isD_bl _ (dg_isD _)]; decide)]
  have ht := tw_all (ol n k) [0#8] isD (ol_all n k) (fun x e => by injection e with e; rw [← e]; decide)
  have e1 : dgs (ol n k ++ [0#8]) = ol n k := by unfold dgs; rw [hd, ht.1]
  have e2 : rst (ol n k ++ [0#8]) = [0#8] := by unfold rst; rw [hd, ht.2]
  have e3 : ([0#8] : List By).all isBz = true := by decide
  have e4 := ol_fit n k h
  unfold octN octE
  rw [e1, e2, e3, e4, if_pos rfl, if_pos rfl, if_pos hm, if_pos hm]
  exact ⟨rfl, rfl⟩
theorem octN_mx (b : List By) : octN b ≤ mx := by
  unfold octN
  split
  · split
    · assumption
    · exact Nat.zero_le _
  · exact Nat.zero_le _
theorem octE_cases (b : List By) : octE b = 0 ∨ ((octE b = 120 ∨ octE b = 121) ∧ octN b = 0) := by
  unfold octE octN
  split
  · split
    · exact .inl rfl
    · exact .inr ⟨.inr rfl, rfl⟩
  · exact .inr ⟨.inl rfl, rfl⟩
/-! ### Base 256, written -/
def lb (n : Int) : By := BitVec.ofInt 8 n
theorem lb_toNat (n : Int) : ((lb n).toNat : Int) = n % 256 := by
  unfold lb
  rw [BitVec.toNat_ofInt]
  have : (0 : Int) ≤ n % 256 := Int.emod_nonneg _ (by omega)
  omega
/-- The last k bytes of n. -/
def bl (n : Int) : Nat → List By
  | 0 => []
  | k + 1 => lb (n / 256 ^ k) :: bl n k
theorem bl_length (n : Int) (k : Nat) : (bl n k).length = k := by
  induction k with
  | zero => rfl
  | succ k ih => rw [bl, List.length_cons, ih]
theorem pow_p (k : Nat) : (0 : Int) < 256 ^ k := Int.pow_pos (by omega)
theorem mod_succ (n : Int) (k : Nat) : n % 256 ^ (k + 1) = (n / 256 ^ k % 256) * 256 ^ k + n % 256 ^ k := by
  have h0 := pow_p k
  rw [Int.pow_succ]
  generalize (256 : Int) ^ k = M at *
  have h1 : 0 ≤ n % M := Int.emod_nonneg _ (by omega)
  have h2 : n % M < M := Int.emod_lt_of_pos _ h0
  have h3 : n = M * (n / M) + n % M := (Int.mul_ediv_add_emod n M).symm
  generalize n / M = q at *
  generalize n % M = r at *
  have h4 : q = 256 * (q / 256) + q % 256 := by omega
  have h5 : 0 ≤ q % 256 := Int.emod_nonneg _ (by omega)
  have h6 : q % 256 < 256 := Int.emod_lt_of_pos _ (by omega)
  generalize q % 256 = s at *
  generalize q / 256 = t at *
  have h7 : n = (s * M + r) + (M * 256) * t := by
    rw [h3, h4, Int.mul_add, Int.mul_assoc M 256 t, Int.mul_comm M s]
    omega
  rw [h7, Int.add_mul_emod_self_left]
  have h8 : 0 ≤ s * M := Int.mul_nonneg h5 (by omega)
  have h9 : s * M ≤ 255 * M := Int.mul_le_mul_of_nonneg_right (by omega) (by omega)
  exact Int.emod_eq_of_lt (by omega) (by omega)
theorem vb_bl (n : Int) (k : Nat) : ∀ m, vb m (bl n k) = m * 256 ^ k + n % 256 ^ k := by
  induction k with
  | zero => intro m; simp [bl, vb, Int.emod_one]
  | succ k ih =>
    intro m
    rw [bl, vb_cons, ih, lb_toNat, mod_succ, Int.add_mul, Int.pow_succ, Int.mul_assoc, Int.mul_comm 256, Int.add_assoc]
theorem vb_div (m : Int) (l : List By) : vb m l / 256 ^ l.length = m ∧ vb m l % 256 ^ l.length = vb 0 l := by
  have h0 := pow_p l.length
  obtain ⟨h1, h2⟩ := vb_lo l
  rw [vb_split]
  generalize (256 : Int) ^ l.length = M at *
  constructor
  · rw [Int.mul_comm, Int.add_comm, Int.add_mul_ediv_left _ _ (by omega), Int.ediv_eq_zero_of_lt h1 h2, Int.zero_add]
  · rw [Int.mul_comm, Int.add_comm, Int.add_mul_emod_self_left, Int.emod_eq_of_lt h1 h2]
theorem lb_of (m : Int) (y : By) : lb (m * 256 + (y.toNat : Int)) = y := by
  apply BitVec.eq_of_toNat_eq
  have := lb_toNat (m * 256 + (y.toNat : Int))
  have hy := y.isLt
  omega
theorem bl_vb (l : List By) : ∀ m, bl (vb m l) l.length = l := by
  induction l with
  | nil => intro m; rfl
  | cons y l ih =>
    intro m
    rw [List.length_cons, bl, vb_cons, (vb_div _ l).1, lb_of, ih]
/-- The first byte of a field. -/
def hb (h : Int) : By := lb h ||| 128#8
theorem hb_toNat (h : Int) (h1 : -64 ≤ h) (h2 : h ≤ 63) : ((hb h).toNat : Int) = if h < 0 then h + 256 else h + 128 := by
  have : ∀ x : By, (x ||| 128#8).toNat = x.toNat % 128 + 128 := by decide +kernel
  unfold hb
  have e := this (lb h)
  have e2 := lb_toNat h
  split <;> omega
theorem fb_hb (h : Int) (h1 : -64 ≤ h) (h2 : h ≤ 63) : fb (hb h) = h ∧ 128 ≤ (hb h).toNat := by
  have := hb_toNat h h1 h2
  unfold fb
  split at this
  · constructor
    · rw [if_pos (by omega)]; omega
    · omega
  · constructor
    · rw [if_neg (by omega)]; omega
    · omega
theorem hb_fb (x : By) (h : 128 ≤ x.toNat) : hb (fb x) = x := by
  have hx := x.isLt
  obtain ⟨h1, h2⟩ := fb_range x h
  have := hb_toNat (fb x) h1 h2
  apply BitVec.eq_of_toNat_eq
  have e : fb x = if (x.toNat : Int) - 128 > 63 then (x.toNat : Int) - 256 else (x.toNat : Int) - 128 := rfl
  generalize fb x = z at *
  split at this
  · split at e <;> omega
  · split at e <;> omega
/-- Does a field of k + 1 bytes have the number n? -/
def fits (n : Int) (k : Nat) : Bool := decide (-64 ≤ n / 256 ^ k ∧ n / 256 ^ k ≤ 63)
/-- The field. -/
def bfd (n : Int) (k : Nat) : List By := hb (n / 256 ^ k) :: bl n k
theorem bfd_length (n : Int) (k : Nat) : (bfd n k).length = k + 1 := by unfold bfd; rw [List.length_cons, bl_length]
theorem binV_bfd (n : Int) (k : Nat) (h : fits n k = true) : binV (bfd n k) = n ∧ (0 < k → isB (bfd n k) = true) := by
  obtain ⟨h1, h2⟩ := of_decide_eq_true h
  obtain ⟨a, b⟩ := fb_hb _ h1 h2
  constructor
  · show vb (fb (hb _)) (bl n k) = n
    rw [a, vb_bl]
    exact Int.ediv_mul_add_emod n (256 ^ k)
  · intro hk
    apply decide_eq_true
    rw [bfd_length]
    exact ⟨by omega, b⟩
theorem bfd_binV (x : By) (l : List By) (h : 128 ≤ x.toNat) : fits (binV (x :: l)) l.length = true ∧ bfd (binV (x :: l)) l.length = x :: l := by
  have e : binV (x :: l) = vb (fb x) l := rfl
  obtain ⟨h1, h2⟩ := fb_range x h
  rw [e]
  unfold fits bfd
  rw [(vb_div _ l).1, hb_fb x h, bl_vb]
  exact ⟨decide_eq_true ⟨h1, h2⟩, rfl⟩
end Go.Proofs.YtffhpoilifgcdaaDoor

import Derived.Test.YtincbbnppcpfpaaDoorTaa
import Derived.Lib.Overlaps
import Derived.Deep.AppendSrc
import Derived.Laws.AppendOwn
import Derived.Deep.DeepAppendWide
namespace Go.Proofs.YtincbbnppcpfpaaDoor
open Go.RowKit
set_option linter.unusedVariables false

theorem add_addr (g o j : Nat) : (⟨g, o, none⟩ : Addr).add j = ⟨g, o + j, none⟩ := by unfold Addr.add; split <;> simp_all
/-! ### Rows of bytes that the call makes -/
def Bw (g : Nat) (xs : List By) (w : World) : Prop := w.heap[g]? = some (.cells (xs.map bv).toArray 5)
theorem Bw.lt {g : Nat} {xs : List By} {w : World} (h : Bw g xs w) : g < w.heap.size := (Array.getElem?_eq_some_iff.1 h).1
theorem Bw.kept {g : Nat} {xs : List By} {w w' : World} {X : Nat → Prop} (h : Bw g xs w) (f : Fr X w w') (hx : ¬ X g) : Bw g xs w' := (f.block g h.lt hx).trans h
theorem Bw.cell {g : Nat} {xs : List By} {w : World} (h : Bw g xs w) (j : Nat) (b : By) (hb : xs[j]? = some b) : w.cell? ⟨g, j, none⟩ = some (bv b) ∧ w.frozen? ⟨g, j, none⟩ = false := by
  unfold Bw at h
  constructor <;> simp [World.cell?, World.frozen?, h, hb]
theorem Bw.rd {g : Nat} {xs : List By} {w : World} (h : Bw g xs w) : Rd g 0 xs w := fun j hj => by
  rw [Nat.zero_add]; exact (h.cell j _ (List.getElem?_eq_getElem hj)).1
theorem Bw.set {g : Nat} {xs : List By} {w : World} (h : Bw g xs w) (j : Nat) (b : By) (z : Int) (hz : z = b.toNat) : Bw g (xs.set j b) (w.setCell ⟨g, j, none⟩ (.int .u8 z)) := by
  subst hz
  unfold Bw at h ⊢
  simp only [World.setCell, Array.getElem?_modify, h]
  simp [List.map_set]
/-- A slice of the call's own, from its block's first cell on. -/
def Ow (g : Nat) (v : Value) (l : List By) (w : World) : Prop := ∃ xs, v = .slice (some ⟨g, 0, none⟩) l.length xs.length ∧ xs.take l.length = l ∧ l.length ≤ xs.length ∧ xs.length < 9223372036854775808 ∧ Bw g xs w
theorem Ow.kept {g : Nat} {v : Value} {l : List By} {w w' : World} {X : Nat → Prop} (h : Ow g v l w) (f : Fr X w w') (hx : ¬ X g) : Ow g v l w' := by
  obtain ⟨xs, h1, h2, h3, h4, h5⟩ := h
  exact ⟨xs, h1, h2, h3, h4, h5.kept f hx⟩
theorem Ow.nw {g : Nat} {v : Value} {l : List By} {w w' : World} (h : Ow g v l w) (f : Nw w w') : Ow g v l w' := h.kept f (fun h => h)
theorem Ow.lt {g : Nat} {v : Value} {l : List By} {w : World} (h : Ow g v l w) : g < w.heap.size := by
  obtain ⟨xs, h1, h2, h3, h4, h5⟩ := h
  exact h5.lt
theorem Ow.slb {g : Nat} {v : Value} {l : List By} {w : World} (h : Ow g v l w) : SlB g v l w := by
  obtain ⟨xs, h1, h2, h3, h4, h5⟩ := h
  refine ⟨0, xs.length, h1, h3, h4, ?_⟩
  have := h5.rd.take l.length
  rw [h2] at this; exact this
theorem Ow.old {g : Nat} {v : Value} {l : List By} {w : World} (h : Ow g v l w) : Sl (fun k => w.heap.size ≤ k) v l w := .inr ⟨g, by have := h.lt; omega, h.slb⟩
theorem infoB : ∃ i, Tryd.prog.info? 5 = some i ∧ i.zero = some (.int .u8 0) ∧ i.size = 1 ∧ i.bytes = 1 := by
  have h : (Tryd.prog.info? 5).map (fun i => (i.zero, i.size, i.bytes)) = some (some (.int .u8 0), 1, 1) := by kernel_rfl
  cases hq : Tryd.prog.info? 5 with
  | none => simp [hq] at h
  | some i => simp [hq] at h; exact ⟨i, rfl, h.1, h.2.1, h.2.2⟩
theorem bv_one (l : List By) : ∀ v ∈ l.map bv, v.oneCell' = true := by
  intro v hv
  simp only [List.mem_map] at hv
  obtain ⟨b, _, rfl⟩ := hv
  rfl
theorem srcB (w : World) (x : Value) (m : List By) (hx : Sl (fun _ => False) x m w) : Src Tryd.prog 1 22 x m.length (m.map bv) w := by
  rcases hx with ⟨a, rfl, rfl⟩ | ⟨g, _, o, c, rfl, h1, h2, h3⟩
  · cases a with
    | none => exact Src.ofNil w Tryd.underlying22 0
    | some a => exact Src.ofSlice w Tryd.underlying22 a 0 0 _ (by simp) (fun j u hj => by simp at hj) (bv_one _)
  · refine Src.ofSlice w Tryd.underlying22 ⟨g, o, none⟩ m.length c _ (by simp) (fun j u hj => ?_) (bv_one _)
    rw [add_addr]
    simp only [List.getElem?_map, Option.map_eq_some_iff] at hj
    obtain ⟨b, hb, rfl⟩ := hj
    exact h3.at j b hb
theorem zeroB (n : Nat) : (Builtin.zeroCells (Value.int .u8 0).cells n) = ((List.replicate n 0#8).map bv).toArray := by
  apply Array.ext'
  apply List.ext_getElem?
  intro k
  by_cases hk : k < n
  · simp [Builtin.zeroCells, Value.cells, hk, Nat.mod_one]
  · rw [List.getElem?_eq_none (by simp [Builtin.zeroCells, Value.cells]; omega), List.getElem?_eq_none (by simp; omega)]
set_option maxRecDepth 100000 in
theorem app_any (w : World) (g : Nat) (v : Value) (l : List By) (hO : Ow g v l w) (x : Value) (m : List By) (hx : Sl (fun _ => False) x m w) (hb : l.length + m.length ≤ 200000000000000) :
    ∃ v' g' W, (∀ ty, (Builtin.append_ #[22, 22] ty #[v, x]).run Tryd.prog w = .ok v' W) ∧ Ow g' v' (l ++ m) W ∧ Fr (fun k => k = g) w W ∧ (g' = g ∨ w.heap.size ≤ g') := by
  obtain ⟨xs, rfl, h2, h3, h4, h5⟩ := hO
  obtain ⟨i, hi, hz, hs, hby⟩ := infoB
  have hsrc := srcB w x m hx
  by_cases hroom : l.length + m.length ≤ xs.length
  · have hst := run_storeCells_at (P := Tryd.prog) g (0 + l.length) 5 (m.map bv) 0 (xs.map bv).toArray w h5 (by simp; omega) (bv_one _)
    refine ⟨.slice (some ⟨g, 0, none⟩) (l.length + m.length) xs.length, g, w.setRow g (((l ++ m ++ xs.drop (l.length + m.length)).map bv).toArray), fun ty => ?_, ?_, ?_, .inl rfl⟩
    · obtain ⟨W0, hW0⟩ : ∃ W0, W0 = w.setRow g (((l ++ m ++ xs.drop (l.length + m.length)).map bv).toArray) := ⟨_, rfl⟩
      have hst' : (storeCells ⟨g, l.length, none⟩ (m.map bv)).run Tryd.prog w = .ok () W0 := by
        rw [← Nat.zero_add l.length, hst, hW0]
        congr 3
        simp only [Nat.add_zero, Nat.zero_add, List.length_map]
        rw [← List.map_take, ← List.map_drop, h2]
        simp
      rw [← hW0]
      clear hst
      rcases hsrc.kind with ⟨e', hk⟩ | hk
      · simp [Builtin.append_, run_underlying Tryd.underlying22, sizeOf, typeInfo, hi, hs, hsrc.len, hroom, hsrc.cells, Addr.add_lit, hst']
      · rw [Tryd.underlying22] at hk; cases hk
    · have hl : (l ++ m).length = l.length + m.length := by simp
      refine ⟨l ++ m ++ xs.drop (l.length + m.length), ?_, ?_, ?_, ?_, ?_⟩
      · simp; omega
      · rw [List.take_append_of_le_length (by simp), List.take_of_length_le (by simp)]
      · simp
      · simp; omega
      · exact setRow_heap w g _ _ 5 _ h5
    · exact (Fr.refl _ _).setRow _ _ (.inl rfl)
  · have hold : (Builtin.firstCells i.size l.length (.slice (some ⟨g, 0, none⟩) l.length xs.length)).run Tryd.prog w.drew = .ok (l.map bv).toArray w.drew := by
      rw [hs]
      refine run_firstCells_some w.drew 1 l.length ⟨g, 0, none⟩ l.length xs.length (l.map bv) (by simp) (fun j u hj => ?_)
      rw [add_addr]
      simp only [List.getElem?_map, Option.map_eq_some_iff] at hj
      obtain ⟨b, hb, rfl⟩ := hj
      have hr := h5.rd.take l.length
      rw [h2] at hr
      exact hr.at j b hb
    have hrun := fun ty => run_append_grow_src w 22 22 ty 5 i _ Tryd.underlying22 hi hz (some ⟨g, 0, none⟩) l.length xs.length _ hold x m.length _ (by rw [hs]; exact hsrc) (by omega) (by omega) (by rw [hby]; exact growslice_fits_wide (by omega) (by omega))
    have hge := grownCap_ge w (l.length + m.length) xs.length 5
    have hle := grownCap_le_maxLen w (l.length + m.length) xs.length 5 (by unfold maxLen; omega)
    unfold maxLen at hle
    generalize grownCap w (l.length + m.length) xs.length 5 = G at *
    refine ⟨_, w.heap.size, _, hrun, ?_, (Fr.refl _ _).drew.alloc _, .inr (Nat.le_refl _)⟩
    have e : ((l.map bv ++ m.map bv).toArray ++ Builtin.zeroCells (Value.int .u8 0).cells (G - (l.length + m.length))) = ((l ++ m ++ List.replicate (G - (l.length + m.length)) 0#8).map bv).toArray := by
      rw [zeroB]; simp
    rw [e]
    refine ⟨l ++ m ++ List.replicate (G - (l.length + m.length)) 0#8, ?_, ?_, ?_, ?_, ?_⟩
    · simp; omega
    · rw [List.take_append_of_le_length (by simp), List.take_of_length_le (by simp)]
    · simp
    · simp; omega
    · show (w.drew.heap.push _)[w.heap.size]? = _
      show (w.heap.push _)[w.heap.size]? = _
      simp
/-- A slice of what is there. -/
abbrev Old (w : World) (v : Value) (b : List By) : Prop := Sl (fun k => w.heap.size ≤ k) v b w
theorem Sl.length {X : Nat → Prop} {v : Value} {b : List By} {w : World} (h : Sl X v b w) : b.length < 9223372036854775808 := by
  rcases h with ⟨_, _, rfl⟩ | ⟨g, _, o, c, _, h2, h3, _⟩
  · simp
  · omega
theorem Sl.mono {X Y : Nat → Prop} {v : Value} {b : List By} {w : World} (h : Sl X v b w) (hxy : ∀ g, Y g → X g) : Sl Y v b w := by
  rcases h with h | ⟨g, h1, h2⟩
  · exact .inl h
  · exact .inr ⟨g, fun hy => h1 (hxy g hy), h2⟩

theorem Sl.later {w V : World} {v : Value} {b : List By} (h : Old w v b) (hV : Nw w V) : Old V v b := by
  have h1 := h.nw hV
  exact h1.mono (fun g hg => Nat.le_trans hV.size hg)
theorem cbase {f : FuncId} {args : Array Value} {w W : World} {v : Value} (h : Nw w W) (k : Calls Tryd.prog f args W fun e w' => e = .returned v ∧ Nw W w') : Calls Tryd.prog f args W fun e w' => e = .returned v ∧ Nw w w' :=
  k.mono (fun e w' hk => ⟨hk.1, h.trans hk.2⟩)
/-- An empty slice of the call's own. -/
theorem Ow.empty (w : World) : Ow w.heap.size (.slice (some ⟨w.heap.size, 0, none⟩) 0 0) [] (w.alloc (.cells #[] 5)) :=
  ⟨[], rfl, rfl, by simp, by simp, by
    show (w.heap.push _)[w.heap.size]? = _
    simp⟩
theorem Ow.cut {g : Nat} {v : Value} {l : List By} {w : World} (h : Ow g v l w) (n : Nat) (hn : n ≤ l.length) : ∃ c, v = .slice (some ⟨g, 0, none⟩) l.length c ∧ l.length ≤ c ∧ c < 9223372036854775808 ∧ Ow g (.slice (some ⟨g, 0, none⟩) n c) (l.take n) w := by
  obtain ⟨xs, h1, h2, h3, h4, h5⟩ := h
  refine ⟨xs.length, h1, h3, h4, xs, ?_, ?_, ?_, h4, h5⟩
  · rw [List.length_take, Nat.min_eq_left hn]
  · rw [List.length_take, Nat.min_eq_left hn]
    conv => rhs; rw [← h2]
    rw [List.take_take, Nat.min_eq_left hn]
  · rw [List.length_take]; omega
/-- A byte of one's own, written over. -/
theorem Ow.put {g : Nat} {v : Value} {l : List By} {w : World} (h : Ow g v l w) (j : Nat) (hj : j < l.length) (z : By) (k : Int) (hk : k = z.toNat) : Ow g v (l.set j z) (w.setCell ⟨g, j, none⟩ (.int .u8 k)) := by
  obtain ⟨xs, h1, h2, h3, h4, h5⟩ := h
  refine ⟨xs.set j z, by rw [h1]; simp, ?_, by simp; exact h3, by simp; exact h4, h5.set j z k hk⟩
  rw [List.length_set, List.take_set, h2]
theorem Ow.at {g : Nat} {v : Value} {l : List By} {w : World} (h : Ow g v l w) (j : Nat) (hj : j < l.length) : w.cell? ⟨g, j, none⟩ = some (.int .u8 l[j].toNat) ∧ w.frozen? ⟨g, j, none⟩ = false := by
  obtain ⟨xs, h1, h2, h3, h4, h5⟩ := h
  have : xs[j]? = some l[j] := by
    have e : (xs.take l.length)[j]? = l[j]? := by rw [h2]
    rw [List.getElem?_take, if_pos hj, List.getElem?_eq_getElem hj] at e
    exact e
  exact h5.cell j _ this
theorem app_nil (w : World) (x : Value) (m : List By) (hx : Sl (fun _ => False) x m w) (hb : m.length ≤ 200000000000000) (hm : m ≠ []) :
    ∃ v' W, (∀ ty, (Builtin.append_ #[22, 22] ty #[.slice none 0 0, x]).run Tryd.prog w = .ok v' W) ∧ Ow w.heap.size v' m W ∧ Nw w W := by
  obtain ⟨i, hi, hz, hs, hby⟩ := infoB
  have hsrc := srcB w x m hx
  have hm0 : 0 < m.length := List.length_pos_iff.2 hm
  have hrun := fun ty => run_append_grow_src w 22 22 ty 5 i _ Tryd.underlying22 hi hz none 0 0 [] (by simp [Builtin.firstCells]) x m.length _ (by rw [hs]; exact hsrc) (by omega) (by omega) (by rw [hby]; exact growslice_fits_wide (by omega) (by omega))
  have hge := grownCap_ge w (0 + m.length) 0 5
  have hle := grownCap_le_maxLen w (0 + m.length) 0 5 (by unfold maxLen; omega)
  unfold maxLen at hle
  generalize grownCap w (0 + m.length) 0 5 = G at *
  refine ⟨_, _, hrun, ?_, (Fr.refl _ _).drew.alloc _⟩
  have e : (([] ++ m.map bv).toArray ++ Builtin.zeroCells (Value.int .u8 0).cells (G - (0 + m.length))) = ((m ++ List.replicate (G - (0 + m.length)) 0#8).map bv).toArray := by
    rw [zeroB]; simp
  rw [e]
  refine ⟨m ++ List.replicate (G - (0 + m.length)) 0#8, ?_, ?_, ?_, ?_, ?_⟩
  · simp; omega
  · rw [List.take_append_of_le_length (by simp), List.take_of_length_le (by simp)]
  · simp
  · simp; omega
  · show (w.heap.push _)[w.heap.size]? = _
    simp
theorem app_none (w : World) (x : Value) (a : Option Addr) (hx : x = .slice a 0 0) : ∀ ty, (Builtin.append_ #[22, 22] ty #[.slice none 0 0, x]).run Tryd.prog w = .ok (.slice none 0 0) w := by
  intro ty
  subst hx
  obtain ⟨i, hi, hz, hs, hb⟩ := infoB
  cases a with
  | none => simp [Builtin.append_, run_underlying Tryd.underlying22, sizeOf, typeInfo, hi, Builtin.lenOf, Builtin.firstCells]
  | some a =>
    have hl : (loadCells a 0).run Tryd.prog w = .ok #[] w := run_loadCells_list (P := Tryd.prog) w a [] (fun j v hj => by simp at hj)
    simp [Builtin.append_, run_underlying Tryd.underlying22, sizeOf, typeInfo, hi, Builtin.lenOf, Builtin.firstCells, hl]
theorem app_none' (w : World) (g o c : Nat) : ∀ ty, (Builtin.append_ #[22, 22] ty #[.slice none 0 0, .slice (some ⟨g, o, none⟩) 0 c]).run Tryd.prog w = .ok (.slice none 0 0) w := by
  intro ty
  obtain ⟨i, hi, hz, hs, hb⟩ := infoB
  have hl : (loadCells ⟨g, o, none⟩ 0).run Tryd.prog w = .ok #[] w := run_loadCells_list (P := Tryd.prog) w ⟨g, o, none⟩ [] (fun j v hj => by simp at hj)
  simp [Builtin.append_, run_underlying Tryd.underlying22, sizeOf, typeInfo, hi, Builtin.lenOf, Builtin.firstCells, hl]
/-- Nil, or a slice of the call's own in a block that no one else holds. -/
def Mine (K : Nat → Prop) (v : Value) (l : List By) (w : World) : Prop := (v = .slice none 0 0 ∧ l = []) ∨ ∃ g, ¬ K g ∧ Ow g v l w
theorem Mine.kept {K : Nat → Prop} {v : Value} {l : List By} {w w' : World} {X : Nat → Prop} (h : Mine K v l w) (f : Fr X w w') (hx : ∀ g, X g → K g ∨ w.heap.size ≤ g) : Mine K v l w' := by
  rcases h with h | ⟨g, h1, h2⟩
  · exact .inl h
  · exact .inr ⟨g, h1, h2.kept f (fun hg => by rcases hx g hg with e | e; exact h1 e; have := h2.lt; omega)⟩
theorem Mine.nw {K : Nat → Prop} {v : Value} {l : List By} {w w' : World} (h : Mine K v l w) (f : Nw w w') : Mine K v l w' := h.kept f (fun _ h => h.elim)
theorem Mine.more {K K' : Nat → Prop} {v : Value} {l : List By} {w : World} (h : Mine K v l w) (hk : ∀ g, K' g → K g ∨ w.heap.size ≤ g) : Mine K' v l w := by
  rcases h with h | ⟨g, h1, h2⟩
  · exact .inl h
  · exact .inr ⟨g, fun hg => by rcases hk g hg with e | e; exact h1 e; have := h2.lt; omega, h2⟩
theorem Mine.sl {K : Nat → Prop} {v : Value} {l : List By} {w : World} (h : Mine K v l w) : Sl (fun k => K k ∨ w.heap.size ≤ k) v l w := by
  rcases h with ⟨h1, h2⟩ | ⟨g, h1, h2⟩
  · exact .inl ⟨none, h1, h2⟩
  · exact .inr ⟨g, fun hg => by rcases hg with e | e; exact h1 e; have := h2.lt; omega, h2.slb⟩
theorem Mine.old {K : Nat → Prop} {v : Value} {l : List By} {w : World} (h : Mine K v l w) : Old w v l := h.sl.mono (fun _ h => .inr h)
theorem Mine.nil (K : Nat → Prop) (w : World) : Mine K (.slice none 0 0) [] w := .inl ⟨rfl, rfl⟩
/-- A slice's form. -/
theorem Sl.form {X : Nat → Prop} {v : Value} {l : List By} {w : World} (h : Sl X v l w) : ∃ a c, v = .slice a l.length c ∧ l.length ≤ c ∧ c < 9223372036854775808 := by
  rcases h with ⟨a, rfl, rfl⟩ | ⟨g, _, o, c, rfl, h2, h3, _⟩
  · exact ⟨a, 0, rfl, by simp, by simp⟩
  · exact ⟨_, c, rfl, h2, h3⟩
theorem mine_app (K : Nat → Prop) (w : World) (hK : ∀ k, K k → k < w.heap.size) (v : Value) (l : List By) (h : Mine K v l w) (x : Value) (m : List By) (hx : Sl (fun _ => False) x m w) (hb : l.length + m.length ≤ 200000000000000) :
    ∃ v' W, (∀ ty, (Builtin.append_ #[22, 22] ty #[v, x]).run Tryd.prog w = .ok v' W) ∧ Mine K v' (l ++ m) W ∧ Fr (fun k => ¬ K k) w W := by
  rcases h with ⟨rfl, rfl⟩ | ⟨g, h1, h4⟩
  · by_cases hm : m = []
    · subst hm
      refine ⟨.slice none 0 0, w, ?_, .inl ⟨rfl, rfl⟩, Fr.refl _ _⟩
      rcases hx with ⟨a, rfl, _⟩ | ⟨g, _, o, c, rfl, _, _, _⟩
      · exact app_none w _ a rfl
      · exact app_none' w g o c
    · obtain ⟨v', W, k1, k2, k3⟩ := app_nil w x m hx (by simpa using hb) hm
      exact ⟨v', W, k1, .inr ⟨_, fun hk => by have := hK w.heap.size hk; omega, by rw [List.nil_append]; exact k2⟩, k3.any⟩
  · obtain ⟨v', g', W, k1, k2, k3, k4⟩ := app_any w g v l h4 x m hx hb
    refine ⟨v', W, k1, .inr ⟨g', ?_, k2⟩, k3.mono (fun i hi => .inl (by subst hi; exact h1))⟩
    rcases k4 with rfl | k4
    · exact h1
    · intro hk; have := hK _ hk; omega
end Go.Proofs.YtincbbnppcpfpaaDoor

namespace Go.Proofs.YtincbbnppcpfpaaDoor
open Go.RowKit
set_option linter.unusedVariables false

/-! ### What the document says of blocks -/
/-- A number's further bytes: their sum, and how many they are. -/
def more : List By → Option (Nat × Nat)
  | [] => none
  | x :: r => if x.toNat = 255 then (match more r with | none => none | some (n, k) => some (n + 255, k + 1)) else some (x.toNat, 1)
/-- A number whose four bits are low. -/
def num (low : Nat) (r : List By) : Option (Nat × Nat) := if low = 15 then (match more r with | none => none | some (n, k) => some (n + 15, k)) else some (low, 0)
structure Tk (σ : Type) where
  room : σ → Nat → Bool
  plain : σ → List By → σ
  reaches : σ → Nat → Bool
  mat : σ → Nat → Nat → σ
  fin : σ → σ
inductive Pt (σ : Type) where
  | bad (at' why : Nat)
  | ok (r : List By) (s : σ)
inductive Rs (σ : Type) where
  | bad (at' why : Nat)
  | good (s : σ)
variable {σ : Type}
def plainS (T : Tk σ) (L low : Nat) (r : List By) (s : σ) : Pt σ :=
  match num low r with
  | none => .bad L 4
  | some (n, k) =>
    if T.room s n = false then .bad (L - (r.length - k)) 32
    else if r.length - k < n then .bad L 4
    else .ok (r.drop (k + n)) (T.plain s ((r.drop k).take n))
def matchS (T : Tk σ) (L low : Nat) (r : List By) (s : σ) : Pt σ :=
  match r with
  | b0 :: b1 :: r4 =>
    if b0.toNat + 256 * b1.toNat = 0 ∨ T.reaches s (b0.toNat + 256 * b1.toNat) = false then .bad (L - r.length) 30
    else match num low r4 with
      | none => .bad L 4
      | some (n, k) => if T.room s (n + 4) = false then .bad (L - r.length) 32 else .ok (r4.drop k) (T.mat s (b0.toNat + 256 * b1.toNat) (n + 4))
  | _ => .bad L 4
def scanS (T : Tk σ) (L : Nat) (r : List By) (s : σ) : Rs σ :=
  match r with
  | [] => .bad L 4
  | tok :: r1 =>
    match plainS T L (tok.toNat / 16) r1 s with
    | .bad a y => .bad a y
    | .ok r3 s1 =>
      if r3 = [] then (if tok.toNat % 16 = 0 then .good (T.fin s1) else .bad (L - (r1.length + 1)) 31)
      else match matchS T L (tok.toNat % 16) r3 s1 with
        | .bad a y => .bad a y
        | .ok r5 s2 => if h : r5.length < r1.length + 1 then scanS T L r5 s2 else .bad 0 0
termination_by r.length

theorem more_le {r : List By} {n k : Nat} (h : more r = some (n, k)) : 1 ≤ k ∧ k ≤ r.length ∧ n + 1 ≤ 255 * k := by
  induction r generalizing n k with
  | nil => simp [more] at h
  | cons x r ih =>
    simp only [more] at h
    split at h
    · cases hm : more r with
      | none => simp [hm] at h
      | some p =>
        obtain ⟨n', k'⟩ := p
        simp [hm] at h
        have := ih hm
        simp only [List.length_cons]; omega
    · simp at h
      have := x.isLt
      simp only [List.length_cons]; omega
theorem num_le {low : Nat} {r : List By} {n k : Nat} (h : num low r = some (n, k)) (hl : low ≤ 15) : k ≤ r.length ∧ n ≤ 15 + 255 * k := by
  unfold num at h
  split at h
  · cases hm : more r with
    | none => simp [hm] at h
    | some p =>
      obtain ⟨n', k'⟩ := p
      simp [hm] at h
      have := more_le hm
      omega
  · simp at h; omega
theorem plainS_ok {T : Tk σ} {L low : Nat} {r r3 : List By} {s s1 : σ} (h : plainS T L low r s = .ok r3 s1) : ∃ n k, num low r = some (n, k) ∧ T.room s n = true ∧ n ≤ r.length - k ∧ r3 = r.drop (k + n) ∧ s1 = T.plain s ((r.drop k).take n) := by
  unfold plainS at h
  cases hm : num low r with
  | none => simp [hm] at h
  | some p =>
    obtain ⟨n, k⟩ := p
    simp only [hm] at h
    split at h
    · cases h
    · split at h
      · cases h
      · rename_i h1 h2
        injection h with h3 h4
        exact ⟨n, k, rfl, by simpa using h1, by omega, h3.symm, h4.symm⟩
theorem plainS_le {T : Tk σ} {L low : Nat} {r r3 : List By} {s s1 : σ} (h : plainS T L low r s = .ok r3 s1) : r3.length ≤ r.length := by
  obtain ⟨n, k, _, _, _, rfl, _⟩ := plainS_ok h
  simp
theorem matchS_le {T : Tk σ} {L low : Nat} {r r5 : List By} {s s1 : σ} (h : matchS T L low r s = .ok r5 s1) : r5.length + 2 ≤ r.length := by
  unfold matchS at h
  split at h
  · split at h
    · cases h
    · split at h
      · cases h
      · split at h
        · cases h
        · injection h with h1 h2
          subst h1; simp
  · cases h
/-- One sequence, and then the others. -/
theorem scanS_cons (T : Tk σ) (L : Nat) (tok : By) (r1 : List By) (s : σ) : scanS T L (tok :: r1) s =
    match plainS T L (tok.toNat / 16) r1 s with
    | .bad a y => .bad a y
    | .ok r3 s1 =>
      if r3 = [] then (if tok.toNat % 16 = 0 then .good (T.fin s1) else .bad (L - (r1.length + 1)) 31)
      else match matchS T L (tok.toNat % 16) r3 s1 with
        | .bad a y => .bad a y
        | .ok r5 s2 => scanS T L r5 s2 := by
  rw [scanS]
  cases hp : plainS T L (tok.toNat / 16) r1 s with
  | bad a y => rfl
  | ok r3 s1 =>
    simp only
    split
    · rfl
    · cases hm : matchS T L (tok.toNat % 16) r3 s1 with
      | bad a y => rfl
      | ok r5 s2 =>
        have h1 := plainS_le hp
        have h2 := matchS_le hm
        simp only
        rw [dif_pos (by omega)]

/-! ### Copies -/
/-- Bytes behind which a match was done. -/
def cop (all : List By) (back : Nat) : Nat → List By
  | 0 => all
  | n + 1 => cop all back n ++ [(cop all back n).getD ((cop all back n).length - back) 0]
theorem cop_length (all : List By) (back n : Nat) : (cop all back n).length = all.length + n := by
  induction n with
  | zero => rfl
  | succ n ih => simp [cop, ih]; omega
/-- Each byte beyond is the one back places ahead of it. -/
structure Per (all : List By) (back : Nat) (X : List By) : Prop where
  pre : X.take all.length = all
  le : all.length ≤ X.length
  per : ∀ i, all.length ≤ i → i < X.length → X[i]? = X[i - back]?
theorem Per.refl (all : List By) (back : Nat) : Per all back all := ⟨by simp, Nat.le_refl _, fun i h1 h2 => by omega⟩
theorem Per.app {all : List By} {back : Nat} {X m : List By} (h : Per all back X) (hm : ∀ i, i < m.length → m[i]? = (X ++ m)[X.length + i - back]?) : Per all back (X ++ m) := by
  refine ⟨?_, ?_, ?_⟩
  · rw [List.take_append_of_le_length h.le]; exact h.pre
  · simp; have := h.le; omega
  · intro i h1 h2
    by_cases hi : i < X.length
    · rw [List.getElem?_append_left hi, List.getElem?_append_left (by omega)]
      exact h.per i h1 hi
    · rw [List.length_append] at h2
      rw [List.getElem?_append_right (by omega), hm (i - X.length) (by omega)]
      congr 1; omega
theorem Per.step {all : List By} {back : Nat} {X : List By} (h : Per all back X) (hb : 1 ≤ back) (hb2 : back ≤ all.length) : Per all back (X ++ [X.getD (X.length - back) 0]) := by
  refine h.app (fun i hi => ?_)
  have := h.le
  simp at hi; subst hi
  rw [List.getElem?_append_left (by omega)]
  simp [List.getD_eq_getElem?_getD, List.getElem?_eq_getElem (show X.length - back < X.length by omega)]
theorem per_cop (all : List By) (back : Nat) (hb : 1 ≤ back) (hb2 : back ≤ all.length) (n : Nat) : Per all back (cop all back n) := by
  induction n with
  | zero => exact Per.refl _ _
  | succ n ih => exact ih.step hb hb2
theorem Per.uniq {all : List By} {back : Nat} {X Y : List By} (h : Per all back X) (k : Per all back Y) (hl : X.length = Y.length) (hb : 1 ≤ back) (hb2 : back ≤ all.length) : X = Y := by
  apply List.ext_getElem?
  intro i
  induction i using Nat.strongRecOn with
  | ind i ih =>
    by_cases h1 : i < all.length
    · have e1 : (X.take all.length)[i]? = (Y.take all.length)[i]? := by rw [h.pre, k.pre]
      rw [List.getElem?_take, List.getElem?_take, if_pos h1, if_pos h1] at e1
      exact e1
    · by_cases h2 : i < X.length
      · rw [h.per i (by omega) h2, k.per i (by omega) (by omega)]
        exact ih (i - back) (by omega)
      · rw [List.getElem?_eq_none (by omega), List.getElem?_eq_none (by omega)]
theorem Per.cop {all : List By} {back : Nat} {X : List By} (h : Per all back X) (hb : 1 ≤ back) (hb2 : back ≤ all.length) (n : Nat) (hl : X.length = all.length + n) : X = cop all back n :=
  h.uniq (per_cop all back hb hb2 n) (by rw [cop_length, hl]) hb hb2
/-- What lies farther ahead plays no part. -/
theorem cop_far (x all : List By) (back n : Nat) (hb : 1 ≤ back) (hb2 : back ≤ all.length) : cop (x ++ all) back n = x ++ cop all back n := by
  symm
  have hp := per_cop all back hb hb2 n
  have hl := cop_length all back n
  refine Per.cop (all := x ++ all) ⟨?_, ?_, ?_⟩ hb (by simp; omega) n (by simp; omega)
  · rw [List.length_append, List.take_append, List.take_of_length_le (by omega), Nat.add_sub_cancel_left, hp.pre]
  · simp; omega
  · intro i h1 h2
    rw [List.length_append] at h1 h2
    rw [List.getElem?_append_right (by omega), List.getElem?_append_right (by omega), hp.per (i - x.length) (by omega) (by omega)]
    congr 1; omega
/-- Over and over the same. -/
theorem Per.times {all : List By} {back : Nat} {X : List By} (h : Per all back X) (j t : Nat) (h1 : all.length ≤ j + back) (h2 : j + t * back < X.length) (hb : 1 ≤ back) : X[j + t * back]? = X[j]? := by
  induction t with
  | zero => simp
  | succ t ih =>
    rw [Nat.add_mul, Nat.one_mul] at h2
    rw [← ih (by omega), h.per _ (by rw [Nat.add_mul, Nat.one_mul]; omega) (by rw [Nat.add_mul, Nat.one_mul]; omega)]
    congr 1; rw [Nat.add_mul, Nat.one_mul]; omega
/-- A player of sequences. -/
def pl (ahead : List By) (most : Nat) : Tk (List By) where
  room s n := decide (n + s.length ≤ most)
  plain s p := s ++ p
  reaches s b := decide (b ≤ ahead.length + s.length)
  mat s b n := (cop (ahead ++ s) b n).drop ahead.length
  fin s := s
theorem pl_mat (ahead : List By) (most : Nat) (s : List By) (b n : Nat) (hb : 1 ≤ b) (hr : b ≤ ahead.length + s.length) : ahead ++ (pl ahead most).mat s b n = cop (ahead ++ s) b n := by
  have hp := per_cop (ahead ++ s) b hb (by simp; omega) n
  show ahead ++ (cop (ahead ++ s) b n).drop ahead.length = _
  have h1 : (cop (ahead ++ s) b n).take ahead.length = ahead := by
    have := congrArg (List.take ahead.length) hp.pre
    rw [List.take_take, List.length_append, Nat.min_eq_left (by omega)] at this
    rw [this]; simp
  conv => lhs; lhs; rw [← h1]
  exact List.take_append_drop _ _
theorem pl_mat_length (ahead : List By) (most : Nat) (s : List By) (b n : Nat) : ((pl ahead most).mat s b n).length = s.length + n := by
  show ((cop (ahead ++ s) b n).drop ahead.length).length = _
  rw [List.length_drop, cop_length, List.length_append]; omega
/-- Decode, as the document has it. -/
def dec (b ahead : List By) (most : Int) : List By × Nat × Nat :=
  if most < 0 ∨ 4194304 < most then ([], 0, 1) else
    match scanS (pl ahead most.toNat) b.length b [] with
    | .bad a y => ([], a, y)
    | .good s => (s, 0, 0)
end Go.Proofs.YtincbbnppcpfpaaDoor

import Derived.Test.YtoplhkpbicgceaaLzA
import Derived.Lib.Overlaps
import Derived.Deep.AppendSrc
import Derived.Laws.AppendOwn
import Derived.Deep.DeepAppendWide
namespace Go.Proofs.Ytoplhkpbicgceaa
open Go.RowKit
set_option linter.unusedVariables false

theorem add_addr (g o j : Nat) : (⟨g, o, none⟩ : Addr).add j = ⟨g, o + j, none⟩ := by unfold Addr.add; split <;> simp_all
/-! ### Rows of bytes that the call makes -/
def Bw (g : Nat) (xs : List By) (w : World) : Prop := w.heap[g]? = some (.cells (xs.map bv).toArray 5)
theorem Bw.lt {g : Nat} {xs : List By} {w : World} (h : Bw g xs w) : g < w.heap.size := (Array.getElem?_eq_some_iff.1 h).1
theorem Bw.kept {g : Nat} {xs : List By} {w w' : World} {X : Nat → Prop} (h : Bw g xs w) (f : Fr X w w') (hx : ¬ X g) : Bw g xs w' := (f.block g h.lt hx).trans h
theorem Bw.cell {g : Nat} {xs : List By} {w : World} (h : Bw g xs w) (j : Nat) (b : By) (hb : xs[j]? = some b) : w.cell? ⟨g, j, none⟩ = some (bv b) ∧ w.frozen? ⟨g, j, none⟩ = false := by
  unfold Bw at h
  constructor <;> simp [World.cell?, World.frozen?, h, hb]
theorem Bw.rd {g : Nat} {xs : List By} {w : World} (h : Bw g xs w) : Rd g 0 xs w := fun j hj => by
  rw [Nat.zero_add]; exact (h.cell j _ (List.getElem?_eq_getElem hj)).1
theorem Bw.set {g : Nat} {xs : List By} {w : World} (h : Bw g xs w) (j : Nat) (b : By) (z : Int) (hz : z = b.toNat) : Bw g (xs.set j b) (w.setCell ⟨g, j, none⟩ (.int .u8 z)) := by
  subst hz
  unfold Bw at h ⊢
  simp only [World.setCell, Array.getElem?_modify, h]
  simp [List.map_set]
/-- A slice of the call's own, from its block's first cell on. -/
def Ow (g : Nat) (v : Value) (l : List By) (w : World) : Prop := ∃ xs, v = .slice (some ⟨g, 0, none⟩) l.length xs.length ∧ xs.take l.length = l ∧ l.length ≤ xs.length ∧ xs.length < 9223372036854775808 ∧ Bw g xs w
theorem Ow.kept {g : Nat} {v : Value} {l : List By} {w w' : World} {X : Nat → Prop} (h : Ow g v l w) (f : Fr X w w') (hx : ¬ X g) : Ow g v l w' := by
  obtain ⟨xs, h1, h2, h3, h4, h5⟩ := h
  exact ⟨xs, h1, h2, h3, h4, h5.kept f hx⟩
theorem Ow.nw {g : Nat} {v : Value} {l : List By} {w w' : World} (h : Ow g v l w) (f : Nw w w') : Ow g v l w' := h.kept f (fun h => h)
theorem Ow.lt {g : Nat} {v : Value} {l : List By} {w : World} (h : Ow g v l w) : g < w.heap.size := by
  obtain ⟨xs, h1, h2, h3, h4, h5⟩ := h
  exact h5.lt
theorem Ow.slb {g : Nat} {v : Value} {l : List By} {w : World} (h : Ow g v l w) : SlB g v l w := by
  obtain ⟨xs, h1, h2, h3, h4, h5⟩ := h
  refine ⟨0, xs.length, h1, h3, h4, ?_⟩
  have := h5.rd.take l.length
  rw [h2] at this; exact this
theorem Ow.old {g : Nat} {v : Value} {l : List By} {w : World} (h : Ow g v l w) : Sl (fun k => w.heap.size ≤ k) v l w := .inr ⟨g, by have := h.lt; omega, h.slb⟩
theorem infoB : ∃ i, Try.prog.info? 5 = some i ∧ i.zero = some (.int .u8 0) ∧ i.size = 1 ∧ i.bytes = 1 := by
  have h : (Try.prog.info? 5).map (fun i => (i.zero, i.size, i.bytes)) = some (some (.int .u8 0), 1, 1) := by kernel_rfl
  cases hq : Try.prog.info? 5 with
  | none => simp [hq] at h
  | some i => simp [hq] at h; exact ⟨i, rfl, h.1, h.2.1, h.2.2⟩
theorem bv_one (l : List By) : ∀ v ∈ l.map bv, v.oneCell' = true := by
  intro v hv
  simp only [List.mem_map] at hv
  obtain ⟨b, _, rfl⟩ := hv
  rfl
theorem srcB (w : World) (x : Value) (m : List By) (hx : Sl (fun _ => False) x m w) : Src Try.prog 1 27 x m.length (m.map bv) w := by
  rcases hx with ⟨a, rfl, rfl⟩ | ⟨g, _, o, c, rfl, h1, h2, h3⟩
  · cases a with
    | none => exact Src.ofNil w Try.underlying27 0
    | some a => exact Src.ofSlice w Try.underlying27 a 0 0 _ (by simp) (fun j u hj => by simp at hj) (bv_one _)
  · refine Src.ofSlice w Try.underlying27 ⟨g, o, none⟩ m.length c _ (by simp) (fun j u hj => ?_) (bv_one _)
    rw [add_addr]
    simp only [List.getElem?_map, Option.map_eq_some_iff] at hj
    obtain ⟨b, hb, rfl⟩ := hj
    exact h3.at j b hb
theorem zeroB (n : Nat) : (Builtin.zeroCells (Value.int .u8 0).cells n) = ((List.replicate n 0#8).map bv).toArray := by
  apply Array.ext'
  apply List.ext_getElem?
  intro k
  by_cases hk : k < n
  · simp [Builtin.zeroCells, Value.cells, hk, Nat.mod_one]
  · rw [List.getElem?_eq_none (by simp [Builtin.zeroCells, Value.cells]; omega), List.getElem?_eq_none (by simp; omega)]
set_option maxRecDepth 100000 in
theorem app_any (w : World) (g : Nat) (v : Value) (l : List By) (hO : Ow g v l w) (x : Value) (m : List By) (hx : Sl (fun _ => False) x m w) (hb : l.length + m.length ≤ 200000000000000) :
    ∃ v' g' W, (∀ ty, (Builtin.append_ #[27, 27] ty #[v, x]).run Try.prog w = .ok v' W) ∧ Ow g' v' (l ++ m) W ∧ Fr (fun k => k = g) w W ∧ (g' = g ∨ w.heap.size ≤ g') := by
  obtain ⟨xs, rfl, h2, h3, h4, h5⟩ := hO
  obtain ⟨i, hi, hz, hs, hby⟩ := infoB
  have hsrc := srcB w x m hx
  by_cases hroom : l.length + m.length ≤ xs.length
  · have hst := run_storeCells_at (P := Try.prog) g (0 + l.length) 5 (m.map bv) 0 (xs.map bv).toArray w h5 (by simp; omega) (bv_one _)
    refine ⟨.slice (some ⟨g, 0, none⟩) (l.length + m.length) xs.length, g, w.setRow g (((l ++ m ++ xs.drop (l.length + m.length)).map bv).toArray), fun ty => ?_, ?_, ?_, .inl rfl⟩
    · obtain ⟨W0, hW0⟩ : ∃ W0, W0 = w.setRow g (((l ++ m ++ xs.drop (l.length + m.length)).map bv).toArray) := ⟨_, rfl⟩
      have hst' : (storeCells ⟨g, l.length, none⟩ (m.map bv)).run Try.prog w = .ok () W0 := by
        rw [← Nat.zero_add l.length, hst, hW0]
        congr 3
        simp only [Nat.add_zero, Nat.zero_add, List.length_map]
        rw [← List.map_take, ← List.map_drop, h2]
        simp
      rw [← hW0]
      clear hst
      rcases hsrc.kind with ⟨e', hk⟩ | hk
      · simp [Builtin.append_, run_underlying Try.underlying27, sizeOf, typeInfo, hi, hs, hsrc.len, hroom, hsrc.cells, Addr.add_lit, hst']
      · rw [Try.underlying27] at hk; cases hk
    · have hl : (l ++ m).length = l.length + m.length := by simp
      refine ⟨l ++ m ++ xs.drop (l.length + m.length), ?_, ?_, ?_, ?_, ?_⟩
      · simp; omega
      · rw [List.take_append_of_le_length (by simp), List.take_of_length_le (by simp)]
      · simp
      · simp; omega
      · exact setRow_heap w g _ _ 5 _ h5
    · exact (Fr.refl _ _).setRow _ _ (.inl rfl)
  · have hold : (Builtin.firstCells i.size l.length (.slice (some ⟨g, 0, none⟩) l.length xs.length)).run Try.prog w.drew = .ok (l.map bv).toArray w.drew := by
      rw [hs]
      refine run_firstCells_some w.drew 1 l.length ⟨g, 0, none⟩ l.length xs.length (l.map bv) (by simp) (fun j u hj => ?_)
      rw [add_addr]
      simp only [List.getElem?_map, Option.map_eq_some_iff] at hj
      obtain ⟨b, hb, rfl⟩ := hj
      have hr := h5.rd.take l.length
      rw [h2] at hr
      exact hr.at j b hb
    have hrun := fun ty => run_append_grow_src w 27 27 ty 5 i _ Try.underlying27 hi hz (some ⟨g, 0, none⟩) l.length xs.length _ hold x m.length _ (by rw [hs]; exact hsrc) (by omega) (by omega) (by rw [hby]; exact growslice_fits_wide (by omega) (by omega))
    have hge := grownCap_ge w (l.length + m.length) xs.length 5
    have hle := grownCap_le_maxLen w (l.length + m.length) xs.length 5 (by unfold maxLen; omega)
    unfold maxLen at hle
    generalize grownCap w (l.length + m.length) xs.length 5 = G at *
    refine ⟨_, w.heap.size, _, hrun, ?_, (Fr.refl _ _).drew.alloc _, .inr (Nat.le_refl _)⟩
    have e : ((l.map bv ++ m.map bv).toArray ++ Builtin.zeroCells (Value.int .u8 0).cells (G - (l.length + m.length))) = ((l ++ m ++ List.replicate (G - (l.length + m.length)) 0#8).map bv).toArray := by
      rw [zeroB]; simp
    rw [e]
    refine ⟨l ++ m ++ List.replicate (G - (l.length + m.length)) 0#8, ?_, ?_, ?_, ?_, ?_⟩
    · simp; omega
    · rw [List.take_append_of_le_length (by simp), List.take_of_length_le (by simp)]
    · simp
    · simp; omega
    · show (w.drew.heap.push _)[w.heap.size]? = _
      show (w.heap.push _)[w.heap.size]? = _
      simp
/-- A slice of what is there. -/
abbrev Old (w : World) (v : Value) (b : List By) : Prop := Sl (fun k => w.heap.size ≤ k) v b w
theorem Sl.length {X : Nat → Prop} {v : Value} {b : List By} {w : World} (h : Sl X v b w) : b.length < 9223372036854775808 := by
  rcases h with ⟨_, _, rfl⟩ | ⟨g, _, o, c, _, h2, h3, _⟩
  · simp
  · omega
theorem Sl.mono {X Y : Nat → Prop} {v : Value} {b : List By} {w : World} (h : Sl X v b w) (hxy : ∀ g, Y g → X g) : Sl Y v b w := by
  rcases h with h | ⟨g, h1, h2⟩
  · exact .inl h
  · exact .inr ⟨g, fun hy => h1 (hxy g hy), h2⟩

theorem Sl.later {w V : World} {v : Value} {b : List By} (h : Old w v b) (hV : Nw w V) : Old V v b := by
  have h1 := h.nw hV
  exact h1.mono (fun g hg => Nat.le_trans hV.size hg)
theorem cbase {f : FuncId} {args : Array Value} {w W : World} {v : Value} (h : Nw w W) (k : Calls Try.prog f args W fun e w' => e = .returned v ∧ Nw W w') : Calls Try.prog f args W fun e w' => e = .returned v ∧ Nw w w' :=
  k.mono (fun e w' hk => ⟨hk.1, h.trans hk.2⟩)
/-- An empty slice of the call's own. -/
theorem Ow.empty (w : World) : Ow w.heap.size (.slice (some ⟨w.heap.size, 0, none⟩) 0 0) [] (w.alloc (.cells #[] 5)) :=
  ⟨[], rfl, rfl, by simp, by simp, by
    show (w.heap.push _)[w.heap.size]? = _
    simp⟩
theorem Ow.cut {g : Nat} {v : Value} {l : List By} {w : World} (h : Ow g v l w) (n : Nat) (hn : n ≤ l.length) : ∃ c, v = .slice (some ⟨g, 0, none⟩) l.length c ∧ l.length ≤ c ∧ c < 9223372036854775808 ∧ Ow g (.slice (some ⟨g, 0, none⟩) n c) (l.take n) w := by
  obtain ⟨xs, h1, h2, h3, h4, h5⟩ := h
  refine ⟨xs.length, h1, h3, h4, xs, ?_, ?_, ?_, h4, h5⟩
  · rw [List.length_take, Nat.min_eq_left hn]
  · rw [List.length_take, Nat.min_eq_left hn]
    conv => rhs; rw [← h2]
    rw [List.take_take, Nat.min_eq_left hn]
  · rw [List.length_take]; omega
/-- A byte of one's own, written over. -/
theorem Ow.put {g : Nat} {v : Value} {l : List By} {w : World} (h : Ow g v l w) (j : Nat) (hj : j < l.length) (z : By) (k : Int) (hk : k = z.toNat) : Ow g v (l.set j z) (w.setCell ⟨g, j, none⟩ (.int .u8 k)) := by
  obtain ⟨xs, h1, h2, h3, h4, h5⟩ := h
  refine ⟨xs.set j z, by rw [h1]; simp, ?_, by simp; exact h3, by simp; exact h4, h5.set j z k hk⟩
  rw [List.length_set, List.take_set, h2]
theorem Ow.at {g : Nat} {v : Value} {l : List By} {w : World} (h : Ow g v l w) (j : Nat) (hj : j < l.length) : w.cell? ⟨g, j, none⟩ = some (.int .u8 l[j].toNat) ∧ w.frozen? ⟨g, j, none⟩ = false := by
  obtain ⟨xs, h1, h2, h3, h4, h5⟩ := h
  have : xs[j]? = some l[j] := by
    have e : (xs.take l.length)[j]? = l[j]? := by rw [h2]
    rw [List.getElem?_take, if_pos hj, List.getElem?_eq_getElem hj] at e
    exact e
  exact h5.cell j _ this
theorem app_nil (w : World) (x : Value) (m : List By) (hx : Sl (fun _ => False) x m w) (hb : m.length ≤ 200000000000000) (hm : m ≠ []) :
    ∃ v' W, (∀ ty, (Builtin.append_ #[27, 27] ty #[.slice none 0 0, x]).run Try.prog w = .ok v' W) ∧ Ow w.heap.size v' m W ∧ Nw w W := by
  obtain ⟨i, hi, hz, hs, hby⟩ := infoB
  have hsrc := srcB w x m hx
  have hm0 : 0 < m.length := List.length_pos_iff.2 hm
  have hrun := fun ty => run_append_grow_src w 27 27 ty 5 i _ Try.underlying27 hi hz none 0 0 [] (by simp [Builtin.firstCells]) x m.length _ (by rw [hs]; exact hsrc) (by omega) (by omega) (by rw [hby]; exact growslice_fits_wide (by omega) (by omega))
  have hge := grownCap_ge w (0 + m.length) 0 5
  have hle := grownCap_le_maxLen w (0 + m.length) 0 5 (by unfold maxLen; omega)
  unfold maxLen at hle
  generalize grownCap w (0 + m.length) 0 5 = G at *
  refine ⟨_, _, hrun, ?_, (Fr.refl _ _).drew.alloc _⟩
  have e : (([] ++ m.map bv).toArray ++ Builtin.zeroCells (Value.int .u8 0).cells (G - (0 + m.length))) = ((m ++ List.replicate (G - (0 + m.length)) 0#8).map bv).toArray := by
    rw [zeroB]; simp
  rw [e]
  refine ⟨m ++ List.replicate (G - (0 + m.length)) 0#8, ?_, ?_, ?_, ?_, ?_⟩
  · simp; omega
  · rw [List.take_append_of_le_length (by simp), List.take_of_length_le (by simp)]
  · simp
  · simp; omega
  · show (w.heap.push _)[w.heap.size]? = _
    simp
theorem app_none (w : World) (x : Value) (a : Option Addr) (hx : x = .slice a 0 0) : ∀ ty, (Builtin.append_ #[27, 27] ty #[.slice none 0 0, x]).run Try.prog w = .ok (.slice none 0 0) w := by
  intro ty
  subst hx
  obtain ⟨i, hi, hz, hs, hb⟩ := infoB
  cases a with
  | none => simp [Builtin.append_, run_underlying Try.underlying27, sizeOf, typeInfo, hi, Builtin.lenOf, Builtin.firstCells]
  | some a =>
    have hl : (loadCells a 0).run Try.prog w = .ok #[] w := run_loadCells_list (P := Try.prog) w a [] (fun j v hj => by simp at hj)
    simp [Builtin.append_, run_underlying Try.underlying27, sizeOf, typeInfo, hi, Builtin.lenOf, Builtin.firstCells, hl]
theorem app_none' (w : World) (g o c : Nat) : ∀ ty, (Builtin.append_ #[27, 27] ty #[.slice none 0 0, .slice (some ⟨g, o, none⟩) 0 c]).run Try.prog w = .ok (.slice none 0 0) w := by
  intro ty
  obtain ⟨i, hi, hz, hs, hb⟩ := infoB
  have hl : (loadCells ⟨g, o, none⟩ 0).run Try.prog w = .ok #[] w := run_loadCells_list (P := Try.prog) w ⟨g, o, none⟩ [] (fun j v hj => by simp at hj)
  simp [Builtin.append_, run_underlying Try.underlying27, sizeOf, typeInfo, hi, Builtin.lenOf, Builtin.firstCells, hl]
/-- Nil, or a slice of the call's own in a block that no one else holds. -/
def Mine (K : Nat → Prop) (v : Value) (l : List By) (w : World) : Prop := (v = .slice none 0 0 ∧ l = []) ∨ ∃ g, ¬ K g ∧ Ow g v l w
theorem Mine.kept {K : Nat → Prop} {v : Value} {l : List By} {w w' : World} {X : Nat → Prop} (h : Mine K v l w) (f : Fr X w w') (hx : ∀ g, X g → K g ∨ w.heap.size ≤ g) : Mine K v l w' := by
  rcases h with h | ⟨g, h1, h2⟩
  · exact .inl h
  · exact .inr ⟨g, h1, h2.kept f (fun hg => by rcases hx g hg with e | e; exact h1 e; have := h2.lt; omega)⟩
theorem Mine.nw {K : Nat → Prop} {v : Value} {l : List By} {w w' : World} (h : Mine K v l w) (f : Nw w w') : Mine K v l w' := h.kept f (fun _ h => h.elim)
theorem Mine.more {K K' : Nat → Prop} {v : Value} {l : List By} {w : World} (h : Mine K v l w) (hk : ∀ g, K' g → K g ∨ w.heap.size ≤ g) : Mine K' v l w := by
  rcases h with h | ⟨g, h1, h2⟩
  · exact .inl h
  · exact .inr ⟨g, fun hg => by rcases hk g hg with e | e; exact h1 e; have := h2.lt; omega, h2⟩
theorem Mine.sl {K : Nat → Prop} {v : Value} {l : List By} {w : World} (h : Mine K v l w) : Sl (fun k => K k ∨ w.heap.size ≤ k) v l w := by
  rcases h with ⟨h1, h2⟩ | ⟨g, h1, h2⟩
  · exact .inl ⟨none, h1, h2⟩
  · exact .inr ⟨g, fun hg => by rcases hg with e | e; exact h1 e; have := h2.lt; omega, h2.slb⟩
theorem Mine.old {K : Nat → Prop} {v : Value} {l : List By} {w : World} (h : Mine K v l w) : Old w v l := h.sl.mono (fun _ h => .inr h)
theorem Mine.nil (K : Nat → Prop) (w : World) : Mine K (.slice none 0 0) [] w := .inl ⟨rfl, rfl⟩
/-- A slice's form. -/
theorem Sl.form {X : Nat → Prop} {v : Value} {l : List By} {w : World} (h : Sl X v l w) : ∃ a c, v = .slice a l.length c ∧ l.length ≤ c ∧ c < 9223372036854775808 := by
  rcases h with ⟨a, rfl, rfl⟩ | ⟨g, _, o, c, rfl, h2, h3, _⟩
  · exact ⟨a, 0, rfl, by simp, by simp⟩
  · exact ⟨_, c, rfl, h2, h3⟩
theorem mine_app (K : Nat → Prop) (w : World) (hK : ∀ k, K k → k < w.heap.size) (v : Value) (l : List By) (h : Mine K v l w) (x : Value) (m : List By) (hx : Sl (fun _ => False) x m w) (hb : l.length + m.length ≤ 200000000000000) :
    ∃ v' W, (∀ ty, (Builtin.append_ #[27, 27] ty #[v, x]).run Try.prog w = .ok v' W) ∧ Mine K v' (l ++ m) W ∧ Fr (fun k => ¬ K k) w W := by
  rcases h with ⟨rfl, rfl⟩ | ⟨g, h1, h4⟩
  · by_cases hm : m = []
    · subst hm
      refine ⟨.slice none 0 0, w, ?_, .inl ⟨rfl, rfl⟩, Fr.refl _ _⟩
      rcases hx with ⟨a, rfl, _⟩ | ⟨g, _, o, c, rfl, _, _, _⟩
      · exact app_none w _ a rfl
      · exact app_none' w g o c
    · obtain ⟨v', W, k1, k2, k3⟩ := app_nil w x m hx (by simpa using hb) hm
      exact ⟨v', W, k1, .inr ⟨_, fun hk => by have := hK w.heap.size hk; omega, by rw [List.nil_append]; exact k2⟩, k3.any⟩
  · obtain ⟨v', g', W, k1, k2, k3, k4⟩ := app_any w g v l h4 x m hx hb
    refine ⟨v', W, k1, .inr ⟨g', ?_, k2⟩, k3.mono (fun i hi => .inl (by subst hi; exact h1))⟩
    rcases k4 with rfl | k4
    · exact h1
    · intro hk; have := hK _ hk; omega
end Go.Proofs.Ytoplhkpbicgceaa

import Derived.Test.YtlfcgldbgejfbaaXxG
import Derived.Deep.AppendSrc
import Derived.Laws.AppendOwn
namespace Go.Proofs.Ytlfcgldbgejfbaa
open Go.RowKit
set_option linter.unusedVariables false

/-! ### Rows of bytes that the call makes -/
def Bw (g : Nat) (xs : List By) (w : World) : Prop := w.heap[g]? = some (.cells (xs.map bv).toArray 5)
theorem Bw.lt {g : Nat} {xs : List By} {w : World} (h : Bw g xs w) : g < w.heap.size := (Array.getElem?_eq_some_iff.1 h).1
theorem Bw.kept {g : Nat} {xs : List By} {w w' : World} {X : Nat → Prop} (h : Bw g xs w) (f : Fr X w w') (hx : ¬ X g) : Bw g xs w' := (f.block g h.lt hx).trans h
theorem Bw.cell {g : Nat} {xs : List By} {w : World} (h : Bw g xs w) (j : Nat) (b : By) (hb : xs[j]? = some b) : w.cell? ⟨g, j, none⟩ = some (bv b) ∧ w.frozen? ⟨g, j, none⟩ = false := by
  unfold Bw at h
  constructor <;> simp [World.cell?, World.frozen?, h, hb]
theorem Bw.rd {g : Nat} {xs : List By} {w : World} (h : Bw g xs w) : Rd g 0 xs w := fun j hj => by
  rw [Nat.zero_add]; exact (h.cell j _ (List.getElem?_eq_getElem hj)).1
theorem Bw.set {g : Nat} {xs : List By} {w : World} (h : Bw g xs w) (j : Nat) (b : By) (z : Int) (hz : z = b.toNat) : Bw g (xs.set j b) (w.setCell ⟨g, j, none⟩ (.int .u8 z)) := by
  subst hz
  unfold Bw at h ⊢
  simp only [World.setCell, Array.getElem?_modify, h]
  simp [List.map_set]
/-- A slice of the call's own, from its block's first cell on. -/
def Ow (g : Nat) (v : Value) (l : List By) (w : World) : Prop := ∃ xs, v = .slice (some ⟨g, 0, none⟩) l.length xs.length ∧ xs.take l.length = l ∧ l.length ≤ xs.length ∧ xs.length < 9223372036854775808 ∧ Bw g xs w
theorem Ow.kept {g : Nat} {v : Value} {l : List By} {w w' : World} {X : Nat → Prop} (h : Ow g v l w) (f : Fr X w w') (hx : ¬ X g) : Ow g v l w' := by
  obtain ⟨xs, h1, h2, h3, h4, h5⟩ := h
  exact ⟨xs, h1, h2, h3, h4, h5.kept f hx⟩
theorem Ow.nw {g : Nat} {v : Value} {l : List By} {w w' : World} (h : Ow g v l w) (f : Nw w w') : Ow g v l w' := h.kept f (fun h => h)
theorem Ow.lt {g : Nat} {v : Value} {l : List By} {w : World} (h : Ow g v l w) : g < w.heap.size := by
  obtain ⟨xs, h1, h2, h3, h4, h5⟩ := h
  exact h5.lt
theorem Ow.slb {g : Nat} {v : Value} {l : List By} {w : World} (h : Ow g v l w) : SlB g v l w := by
  obtain ⟨xs, h1, h2, h3, h4, h5⟩ := h
  refine ⟨0, xs.length, h1, h3, h4, ?_⟩
  have := h5.rd.take l.length
  rw [h2] at this; exact this
theorem Ow.old {g : Nat} {v : Value} {l : List By} {w : World} (h : Ow g v l w) : Sl (fun k => w.heap.size ≤ k) v l w := .inr ⟨g, by have := h.lt; omega, h.slb⟩
theorem infoB : ∃ i, Try.prog.info? 5 = some i ∧ i.zero = some (.int .u8 0) ∧ i.size = 1 ∧ i.bytes = 1 := by
  have h : (Try.prog.info? 5).map (fun i => (i.zero, i.size, i.bytes)) = some (some (.int .u8 0), 1, 1) := by kernel_rfl
  cases hq : Try.prog.info? 5 with
  | none => simp [hq] at h
  | some i => simp [hq] at h; exact ⟨i, rfl, h.1, h.2.1, h.2.2⟩
theorem bv_one (l : List By) : ∀ v ∈ l.map bv, v.oneCell' = true := by
  intro v hv
  simp only [List.mem_map] at hv
  obtain ⟨b, _, rfl⟩ := hv
  rfl
theorem srcB (w : World) (x : Value) (m : List By) (hx : Sl (fun _ => False) x m w) : Src Try.prog 1 24 x m.length (m.map bv) w := by
  rcases hx with ⟨a, rfl, rfl⟩ | ⟨g, _, o, c, rfl, h1, h2, h3⟩
  · cases a with
    | none => exact Src.ofNil w Try.underlying24 0
    | some a => exact Src.ofSlice w Try.underlying24 a 0 0 _ (by simp) (fun j u hj => by simp at hj) (bv_one _)
  · refine Src.ofSlice w Try.underlying24 ⟨g, o, none⟩ m.length c _ (by simp) (fun j u hj => ?_) (bv_one _)
    rw [add_addr]
    simp only [List.getElem?_map, Option.map_eq_some_iff] at hj
    obtain ⟨b, hb, rfl⟩ := hj
    exact h3.at j b hb
theorem zeroB (n : Nat) : (Builtin.zeroCells (Value.int .u8 0).cells n) = ((List.replicate n 0#8).map bv).toArray := by
  apply Array.ext'
  apply List.ext_getElem?
  intro k
  by_cases hk : k < n
  · simp [Builtin.zeroCells, Value.cells, hk, Nat.mod_one]
  · rw [List.getElem?_eq_none (by simp [Builtin.zeroCells, Value.cells]; omega), List.getElem?_eq_none (by simp; omega)]
theorem app_any (w : World) (g : Nat) (v : Value) (l : List By) (hO : Ow g v l w) (x : Value) (m : List By) (hx : Sl (fun _ => False) x m w) (hb : l.length + m.length ≤ 140737488355328) :
    ∃ v' g' W, (∀ ty, (Builtin.append_ #[24, 24] ty #[v, x]).run Try.prog w = .ok v' W) ∧ Ow g' v' (l ++ m) W ∧ Fr (fun k => k = g) w W ∧ (g' = g ∨ w.heap.size ≤ g') := by
  obtain ⟨xs, rfl, h2, h3, h4, h5⟩ := hO
  obtain ⟨i, hi, hz, hs, hby⟩ := infoB
  have hsrc := srcB w x m hx
  by_cases hroom : l.length + m.length ≤ xs.length
  · have hst := run_storeCells_at (P := Try.prog) g (0 + l.length) 5 (m.map bv) 0 (xs.map bv).toArray w h5 (by simp; omega) (bv_one _)
    refine ⟨.slice (some ⟨g, 0, none⟩) (l.length + m.length) xs.length, g, w.setRow g (((l ++ m ++ xs.drop (l.length + m.length)).map bv).toArray), fun ty => ?_, ?_, ?_, .inl rfl⟩
    · obtain ⟨W0, hW0⟩ : ∃ W0, W0 = w.setRow g (((l ++ m ++ xs.drop (l.length + m.length)).map bv).toArray) := ⟨_, rfl⟩
      have hst' : (storeCells ⟨g, l.length, none⟩ (m.map bv)).run Try.prog w = .ok () W0 := by
        rw [← Nat.zero_add l.length, hst, hW0]
        congr 3
        simp only [Nat.add_zero, Nat.zero_add, List.length_map]
        rw [← List.map_take, ← List.map_drop, h2]
        simp
      rw [← hW0]
      clear hst
      rcases hsrc.kind with ⟨e', hk⟩ | hk
      · simp [Builtin.append_, run_underlying Try.underlying24, sizeOf, typeInfo, hi, hs, hsrc.len, hroom, hsrc.cells, Addr.add_lit, hst']
      · rw [Try.underlying24] at hk; cases hk
    · have hl : (l ++ m).length = l.length + m.length := by simp
      refine ⟨l ++ m ++ xs.drop (l.length + m.length), ?_, ?_, ?_, ?_, ?_⟩
      · simp; omega
      · rw [List.take_append_of_le_length (by simp), List.take_of_length_le (by simp)]
      · simp
      · simp; omega
      · exact setRow_heap w g _ _ 5 _ h5
    · exact (Fr.refl _ _).setRow _ _ (.inl rfl)
  · have hold : (Builtin.firstCells i.size l.length (.slice (some ⟨g, 0, none⟩) l.length xs.length)).run Try.prog w.drew = .ok (l.map bv).toArray w.drew := by
      rw [hs]
      refine run_firstCells_some w.drew 1 l.length ⟨g, 0, none⟩ l.length xs.length (l.map bv) (by simp) (fun j u hj => ?_)
      rw [add_addr]
      simp only [List.getElem?_map, Option.map_eq_some_iff] at hj
      obtain ⟨b, hb, rfl⟩ := hj
      have hr := h5.rd.take l.length
      rw [h2] at hr
      exact hr.at j b hb
    have hrun := fun ty => run_append_grow_src w 24 24 ty 5 i _ Try.underlying24 hi hz (some ⟨g, 0, none⟩) l.length xs.length _ hold x m.length _ (by rw [hs]; exact hsrc) (by omega) (by omega) (by rw [hby]; exact growslice_fits (by omega) (by omega))
    have hge := grownCap_ge w (l.length + m.length) xs.length 5
    have hle := grownCap_le_maxLen w (l.length + m.length) xs.length 5 (by unfold maxLen; omega)
    unfold maxLen at hle
    generalize grownCap w (l.length + m.length) xs.length 5 = G at *
    refine ⟨_, w.heap.size, _, hrun, ?_, (Fr.refl _ _).drew.alloc _, .inr (Nat.le_refl _)⟩
    have e : ((l.map bv ++ m.map bv).toArray ++ Builtin.zeroCells (Value.int .u8 0).cells (G - (l.length + m.length))) = ((l ++ m ++ List.replicate (G - (l.length + m.length)) 0#8).map bv).toArray := by
      rw [zeroB]; simp
    rw [e]
    refine ⟨l ++ m ++ List.replicate (G - (l.length + m.length)) 0#8, ?_, ?_, ?_, ?_, ?_⟩
    · simp; omega
    · rw [List.take_append_of_le_length (by simp), List.take_of_length_le (by simp)]
    · simp
    · simp; omega
    · show (w.drew.heap.push _)[w.heap.size]? = _
      show (w.heap.push _)[w.heap.size]? = _
      simp
end Go.Proofs.Ytlfcgldbgejfbaa

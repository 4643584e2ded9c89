import Derived.Test.YtdeefemeiggolaaFeCq
import Derived.Lib.AppendZeros
namespace Go.Proofs.Ytdeefemeiggolaa
open Go.RowKit
set_option linter.unusedVariables false
/-! ### Rows of slices -/
def SwV (g : Nat) (xs : List Value) (w : World) : Prop := w.heap[g]? = some (.cells xs.toArray 22)
theorem SwV.lt {g : Nat} {xs : List Value} {w : World} (h : SwV g xs w) : g < w.heap.size := (Array.getElem?_eq_some_iff.1 h).1
theorem SwV.kept {g : Nat} {xs : List Value} {w w' : World} {X : Nat → Prop} (h : SwV g xs w) (f : Fr X w w') (hx : ¬ X g) : SwV g xs w' := (f.block g h.lt hx).trans h
theorem SwV.cell {g : Nat} {xs : List Value} {w : World} (h : SwV g xs w) (i : Nat) (v : Value) (hv : xs[i]? = some v) : w.cell? ⟨g, i, none⟩ = some v ∧ w.frozen? ⟨g, i, none⟩ = false := by
  unfold SwV at h
  constructor <;> simp [World.cell?, World.frozen?, h, hv]
/-- A list of slices of one's own. -/
def OwV (g : Nat) (v : Value) (l : List Value) (w : World) : Prop := ∃ xs, v = .slice (some ⟨g, 0, none⟩) l.length xs.length ∧ xs.take l.length = l ∧ l.length ≤ xs.length ∧ xs.length < 9223372036854775808 ∧ SwV g xs w
theorem OwV.kept {g : Nat} {v : Value} {l : List Value} {w w' : World} {X : Nat → Prop} (h : OwV g v l w) (f : Fr X w w') (hx : ¬ X g) : OwV g v l w' := by
  obtain ⟨xs, h1, h2, h3, h4, h5⟩ := h
  exact ⟨xs, h1, h2, h3, h4, h5.kept f hx⟩
theorem OwV.nw {g : Nat} {v : Value} {l : List Value} {w w' : World} (h : OwV g v l w) (f : Nw w w') : OwV g v l w' := h.kept f (fun h => h)
theorem OwV.lt {g : Nat} {v : Value} {l : List Value} {w : World} (h : OwV g v l w) : g < w.heap.size := by
  obtain ⟨xs, h1, h2, h3, h4, h5⟩ := h
  exact h5.lt
theorem OwV.form {g : Nat} {v : Value} {l : List Value} {w : World} (h : OwV g v l w) : ∃ c, v = .slice (some ⟨g, 0, none⟩) l.length c ∧ l.length ≤ c ∧ c < 9223372036854775808 := by
  obtain ⟨xs, h1, h2, h3, h4, h5⟩ := h
  exact ⟨_, h1, h3, h4⟩
theorem OwV.cell {g : Nat} {v : Value} {l : List Value} {w : World} (h : OwV g v l w) (i : Nat) (u : Value) (hq : l[i]? = some u) : w.cell? ⟨g, i, none⟩ = some u ∧ w.frozen? ⟨g, i, none⟩ = false := by
  obtain ⟨xs, h1, h2, h3, h4, h5⟩ := h
  refine h5.cell i u ?_
  have hi := (List.getElem?_eq_some_iff.1 hq).1
  rw [← h2, List.getElem?_take, if_pos hi] at hq
  exact hq
theorem infoV : ∃ i, Try.prog.info? 22 = some i ∧ i.zero = some (.slice none 0 0) ∧ i.size = 1 ∧ i.bytes = 24 := by
  have h : (Try.prog.info? 22).map (fun i => (i.zero, i.size, i.bytes)) = some (some (.slice none 0 0), 1, 24) := by kernel_rfl
  cases hq : Try.prog.info? 22 with
  | none => simp [hq] at h
  | some i => simp [hq] at h; exact ⟨i, rfl, h.1, h.2.1, h.2.2⟩
theorem zeroV (n : Nat) : (Builtin.zeroCells (Value.slice none 0 0).cells n) = (List.replicate n (Value.slice none 0 0)).toArray := by
  apply Array.ext'
  apply List.ext_getElem?
  intro k
  by_cases hk : k < n
  · simp [Builtin.zeroCells, Value.cells, hk]
    try rw [Nat.mod_one]
    try rfl
  · rw [List.getElem?_eq_none (by simp [Builtin.zeroCells, Value.cells]; omega), List.getElem?_eq_none (by simp; omega)]
theorem srcV (w : World) (gq : Nat) (q : Value) (hq : q.oneCell' = true) (h : SwV gq [q] w) : Src Try.prog 1 52 (.slice (some ⟨gq, 0, none⟩) 1 1) 1 [q] w := by
  refine Src.ofSlice w Try.underlying52 ⟨gq, 0, none⟩ 1 1 _ (by simp) (fun j u hj => ?_) (fun v hv => by simp at hv; rw [hv]; exact hq)
  rw [add_addr, Nat.zero_add]
  exact (h.cell j u hj).1
set_option maxRecDepth 100000 in
theorem appV_any (w : World) (g : Nat) (v : Value) (l : List Value) (hO : OwV g v l w) (gq : Nat) (q : Value) (hq : q.oneCell' = true) (hx : SwV gq [q] w) (hb : l.length ≤ 1000000000) :
    ∃ v' g' W, (∀ ty, (Builtin.append_ #[52, 52] ty #[v, .slice (some ⟨gq, 0, none⟩) 1 1]).run Try.prog w = .ok v' W) ∧ OwV g' v' (l ++ [q]) W ∧ Fr (fun k => k = g) w W ∧ (g' = g ∨ w.heap.size ≤ g') := by
  obtain ⟨xs, rfl, h2, h3, h4, h5⟩ := hO
  obtain ⟨i, hi, hz, hs, hby⟩ := infoV
  have hsrc := srcV w gq q hq hx
  by_cases hroom : l.length + 1 ≤ xs.length
  · have hst := run_storeCells_at (P := Try.prog) g (0 + l.length) 22 [q] 0 xs.toArray w h5 (by simp; omega) (fun v hv => by simp at hv; rw [hv]; exact hq)
    refine ⟨.slice (some ⟨g, 0, none⟩) (l.length + 1) xs.length, g, w.setRow g ((l ++ [q] ++ xs.drop (l.length + 1)).toArray), fun ty => ?_, ?_, ?_, .inl rfl⟩
    · obtain ⟨W0, hW0⟩ : ∃ W0, W0 = w.setRow g ((l ++ [q] ++ xs.drop (l.length + 1)).toArray) := ⟨_, rfl⟩
      have hst' : (storeCells ⟨g, l.length, none⟩ [q]).run Try.prog w = .ok () W0 := by
        rw [← Nat.zero_add l.length, hst, hW0]
        congr 3
        simp only [Nat.add_zero, Nat.zero_add]
        rw [List.length_singleton, h2]
      rw [← hW0]
      clear hst
      rcases hsrc.kind with ⟨e', hk⟩ | hk
      · simp [Builtin.append_, run_underlying Try.underlying52, sizeOf, typeInfo, hi, hs, hsrc.len, hroom, hsrc.cells, Addr.add_lit, hst']
      · rw [Try.underlying52] at hk; cases hk
    · refine ⟨l ++ [q] ++ xs.drop (l.length + 1), ?_, ?_, ?_, ?_, ?_⟩
      · simp; omega
      · rw [List.take_append_of_le_length (by simp), List.take_of_length_le (by simp)]
      · simp
      · simp; omega
      · exact setRow_heap w g _ _ 22 _ h5
    · exact (Fr.refl _ _).setRow _ _ (.inl rfl)
  · have hold : (Builtin.firstCells i.size l.length (.slice (some ⟨g, 0, none⟩) l.length xs.length)).run Try.prog w.drew = .ok l.toArray w.drew := by
      rw [hs]
      refine run_firstCells_some w.drew 1 l.length ⟨g, 0, none⟩ l.length xs.length l (by simp) (fun j u hj => ?_)
      rw [add_addr, Nat.zero_add]
      have hjl : j < l.length := (List.getElem?_eq_some_iff.1 hj).1
      have : xs[j]? = some u := by
        rw [← h2, List.getElem?_take, if_pos hjl] at hj
        exact hj
      unfold SwV at h5
      show w.cell? _ = _
      simp [World.cell?, h5, this]
    have hrun := fun ty => run_append_grow_src w 52 52 ty 22 i _ Try.underlying52 hi hz (some ⟨g, 0, none⟩) l.length xs.length _ hold _ 1 _ (by rw [hs]; exact hsrc) (by omega) (by omega) (by rw [hby]; exact growslice_fits_wide (by omega) (by omega))
    have hge := grownCap_ge w (l.length + 1) xs.length 22
    have hle := grownCap_le_maxLen w (l.length + 1) xs.length 22 (by unfold maxLen; omega)
    unfold maxLen at hle
    generalize grownCap w (l.length + 1) xs.length 22 = G at *
    refine ⟨_, w.heap.size, _, hrun, ?_, (Fr.refl _ _).drew.alloc _, .inr (Nat.le_refl _)⟩
    have e : ((l ++ [q]).toArray ++ Builtin.zeroCells (Value.slice none 0 0).cells (G - (l.length + 1))) = (l ++ [q] ++ List.replicate (G - (l.length + 1)) (Value.slice none 0 0)).toArray := by
      rw [zeroV]; simp
    rw [e]
    refine ⟨l ++ [q] ++ List.replicate (G - (l.length + 1)) (Value.slice none 0 0), ?_, ?_, ?_, ?_, ?_⟩
    · simp; omega
    · rw [List.take_append_of_le_length (by simp), List.take_of_length_le (by simp)]
    · simp
    · simp; omega
    · show (w.heap.push _)[w.heap.size]? = _
      simp
theorem appV_nil (w : World) (gq : Nat) (q : Value) (hq : q.oneCell' = true) (hx : SwV gq [q] w) :
    ∃ v' W, (∀ ty, (Builtin.append_ #[52, 52] ty #[.slice none 0 0, .slice (some ⟨gq, 0, none⟩) 1 1]).run Try.prog w = .ok v' W) ∧ OwV w.heap.size v' [q] W ∧ Nw w W := by
  obtain ⟨i, hi, hz, hs, hby⟩ := infoV
  have hsrc := srcV w gq q hq hx
  have hrun := fun ty => run_append_grow_src w 52 52 ty 22 i _ Try.underlying52 hi hz none 0 0 [] (by simp [Builtin.firstCells]) _ 1 _ (by rw [hs]; exact hsrc) (by omega) (by omega) (by rw [hby]; exact growslice_fits_wide (by omega) (by omega))
  have hge := grownCap_ge w (0 + 1) 0 22
  have hle := grownCap_le_maxLen w (0 + 1) 0 22 (by unfold maxLen; omega)
  unfold maxLen at hle
  generalize grownCap w (0 + 1) 0 22 = G at *
  refine ⟨_, _, hrun, ?_, (Fr.refl _ _).drew.alloc _⟩
  have e : (([] ++ [q]).toArray ++ Builtin.zeroCells (Value.slice none 0 0).cells (G - (0 + 1))) = ([q] ++ List.replicate (G - (0 + 1)) (Value.slice none 0 0)).toArray := by
    rw [zeroV]; simp
  rw [e]
  refine ⟨[q] ++ List.replicate (G - (0 + 1)) (Value.slice none 0 0), ?_, ?_, ?_, ?_, ?_⟩
  · simp; omega
  · simp
  · simp
  · simp; omega
  · show (w.heap.push _)[w.heap.size]? = _
    simp
/-- A list of slices: nil, or one's own outside of K. -/
def MineV (K : Nat → Prop) (v : Value) (l : List Value) (w : World) : Prop := (v = .slice none 0 0 ∧ l = []) ∨ ∃ g, ¬ K g ∧ OwV g v l w
theorem MineV.nw {K : Nat → Prop} {v : Value} {l : List Value} {w w' : World} (h : MineV K v l w) (f : Nw w w') : MineV K v l w' := by
  rcases h with h | ⟨g, h1, h2⟩
  · exact .inl h
  · exact .inr ⟨g, h1, h2.nw f⟩
theorem MineV.form {K : Nat → Prop} {v : Value} {l : List Value} {w : World} (h : MineV K v l w) : ∃ a c, v = .slice a l.length c ∧ l.length ≤ c ∧ c < 9223372036854775808 := by
  rcases h with ⟨rfl, rfl⟩ | ⟨g, _, h2⟩
  · exact ⟨_, _, rfl, by simp, by simp⟩
  · obtain ⟨c, h3⟩ := h2.form
    exact ⟨_, c, h3⟩
/-- One slice more. -/
theorem mineV_step (K : Nat → Prop) (wr : World) (hK : ∀ k, K k → k < wr.heap.size) (v : Value) (l : List Value) (h : MineV K v l wr) (hb : l.length ≤ 1000000000) (q : Value) (hq : q.oneCell' = true) :
    ∃ v' W, Hid (∀ ty, (Builtin.append_ #[52, 52] ty #[v, .slice (some ⟨wr.heap.size, 0, none⟩) 1 1]).run Try.prog (wr.alloc (.cells #[q] 22)) = .ok v' W) ∧ MineV K v' (l ++ [q]) W ∧ Fr (fun k => ¬ K k) wr W := by
  have hN : Nw wr (wr.alloc (.cells #[q] 22)) := (Fr.refl _ _).alloc _
  have hx : SwV wr.heap.size [q] (wr.alloc (.cells #[q] 22)) := by
    show (wr.heap.push _)[wr.heap.size]? = _
    rw [Array.getElem?_push_size]
  have hsz : (wr.alloc (.cells #[q] 22)).heap.size = wr.heap.size + 1 := by simp
  rcases h with ⟨rfl, rfl⟩ | ⟨g, h1, h2⟩
  · obtain ⟨v', W, k1, k2, k3⟩ := appV_nil _ _ q hq hx
    refine ⟨v', W, k1, .inr ⟨_, fun hk => ?_, k2⟩, (hN.trans k3).any⟩
    have := hK _ hk
    omega
  · obtain ⟨v', g', W, k1, k2, k3, k4⟩ := appV_any _ g v l (h2.nw hN) _ q hq hx hb
    refine ⟨v', W, k1, .inr ⟨g', fun hk => ?_, k2⟩, hN.any.trans (k3.mono (fun k hk => .inl (by rw [hk]; exact h1)))⟩
    have := hK _ hk
    rcases k4 with k4 | k4
    · rw [k4] at hk; exact h1 hk
    · omega
end Go.Proofs.Ytdeefemeiggolaa

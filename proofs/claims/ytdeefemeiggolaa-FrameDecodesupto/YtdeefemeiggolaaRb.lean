import Derived.Test.YtdeefemeiggolaaQv
import Derived.Lib.AppendZeros
import Derived.Test.YtdeefemeiggolaaQa
namespace Go.Proofs.Ytdeefemeiggolaa
open Go.RowKit
set_option linter.unusedVariables false
/-! ### Rows of frames -/
def Fm.cs (f : Fm) : List Value := (frow f).toList
def flatF : List Fm → List Value
  | [] => []
  | q :: r => q.cs ++ flatF r
theorem flatF_length (qs : List Fm) : (flatF qs).length = 12 * qs.length := by
  induction qs with
  | nil => rfl
  | cons q r ih => simp [flatF, Fm.cs, frow, ih]; omega
theorem flatF_append (xs ys : List Fm) : flatF (xs ++ ys) = flatF xs ++ flatF ys := by
  induction xs with
  | nil => rfl
  | cons q r ih => simp [flatF, ih]
theorem flatF_take (qs : List Fm) (n : Nat) (h : n ≤ qs.length) : (flatF qs).take (12 * n) = flatF (qs.take n) := by
  conv => lhs; rw [← List.take_append_drop n qs, flatF_append]
  exact List.take_left' (by rw [flatF_length, List.length_take]; omega)
theorem flatF_drop (qs : List Fm) (n : Nat) (h : n ≤ qs.length) : (flatF qs).drop (12 * n) = flatF (qs.drop n) := by
  conv => lhs; rw [← List.take_append_drop n qs, flatF_append]
  exact List.drop_left' (by rw [flatF_length, List.length_take]; omega)
theorem flatF_at (qs : List Fm) (i j : Nat) (q : Fm) (v : Value) (hq : qs[i]? = some q) (hv : q.cs[j]? = some v) : (flatF qs)[12 * i + j]? = some v := by
  induction qs generalizing i with
  | nil => simp at hq
  | cons x r ih =>
    have hl : x.cs.length = 12 := rfl
    cases i with
    | zero =>
      simp at hq; subst hq
      have hj : j < 12 := by
        have := (List.getElem?_eq_some_iff.1 hv).1; rw [hl] at this; exact this
      rw [flatF, Nat.mul_zero, Nat.zero_add, List.getElem?_append_left (by omega)]
      exact hv
    | succ i =>
      rw [flatF, List.getElem?_append_right (by omega), hl, show 12 * (i + 1) + j - 12 = 12 * i + j by omega]
      exact ih i (by simpa using hq)
theorem flatF_one (qs : List Fm) : ∀ v ∈ flatF qs, v.oneCell' = true := by
  induction qs with
  | nil => simp [flatF]
  | cons q r ih =>
    intro v hv
    rw [flatF, List.mem_append] at hv
    rcases hv with hv | hv
    · simp only [Fm.cs, frow, List.mem_cons, List.mem_nil_iff, or_false] at hv
      rcases hv with rfl | rfl | rfl | rfl | rfl | rfl | rfl | rfl | rfl | rfl | rfl | rfl <;> rfl
    · exact ih v hv
def SwF (g : Nat) (xs : List Fm) (w : World) : Prop := w.heap[g]? = some (.cells (flatF xs).toArray 49)
theorem SwF.lt {g : Nat} {xs : List Fm} {w : World} (h : SwF g xs w) : g < w.heap.size := (Array.getElem?_eq_some_iff.1 h).1
theorem SwF.kept {g : Nat} {xs : List Fm} {w w' : World} {X : Nat → Prop} (h : SwF g xs w) (f : Fr X w w') (hx : ¬ X g) : SwF g xs w' := (f.block g h.lt hx).trans h
theorem SwF.cell {g : Nat} {xs : List Fm} {w : World} (h : SwF g xs w) (i j : Nat) (q : Fm) (v : Value) (hq : xs[i]? = some q) (hv : q.cs[j]? = some v) : w.cell? ⟨g, 12 * i + j, none⟩ = some v ∧ w.frozen? ⟨g, 12 * i + j, none⟩ = false := by
  have := flatF_at xs i j q v hq hv
  unfold SwF at h
  constructor <;> simp [World.cell?, World.frozen?, h, this]
/-- A slice of sequences of one's own. -/
def OwF (g : Nat) (v : Value) (l : List Fm) (w : World) : Prop := ∃ xs, v = .slice (some ⟨g, 0, none⟩) l.length xs.length ∧ xs.take l.length = l ∧ l.length ≤ xs.length ∧ xs.length < 9223372036854775808 ∧ SwF g xs w
theorem OwF.kept {g : Nat} {v : Value} {l : List Fm} {w w' : World} {X : Nat → Prop} (h : OwF g v l w) (f : Fr X w w') (hx : ¬ X g) : OwF g v l w' := by
  obtain ⟨xs, h1, h2, h3, h4, h5⟩ := h
  exact ⟨xs, h1, h2, h3, h4, h5.kept f hx⟩
theorem OwF.nw {g : Nat} {v : Value} {l : List Fm} {w w' : World} (h : OwF g v l w) (f : Nw w w') : OwF g v l w' := h.kept f (fun h => h)
theorem OwF.lt {g : Nat} {v : Value} {l : List Fm} {w : World} (h : OwF g v l w) : g < w.heap.size := by
  obtain ⟨xs, h1, h2, h3, h4, h5⟩ := h
  exact h5.lt
theorem OwF.cell {g : Nat} {v : Value} {l : List Fm} {w : World} (h : OwF g v l w) (i j : Nat) (q : Fm) (u : Value) (hq : l[i]? = some q) (hv : q.cs[j]? = some u) : w.cell? ⟨g, 12 * i + j, none⟩ = some u ∧ w.frozen? ⟨g, 12 * i + j, none⟩ = false := by
  obtain ⟨xs, h1, h2, h3, h4, h5⟩ := h
  refine h5.cell i j q u ?_ hv
  have hi := (List.getElem?_eq_some_iff.1 hq).1
  rw [← h2, List.getElem?_take, if_pos hi] at hq
  exact hq
theorem infoF : ∃ i, Try.prog.info? 49 = some i ∧ i.zero = some (.agg #[.int .i64 0, .int .i64 0, .bool false, .int .i64 0, .int .i64 0, .bool false, .bool false, .bool false, .bool false, .int .i64 0, .int .i64 0, .int .i64 0]) ∧ i.size = 12 ∧ i.bytes = 72 := by
  have h : (Try.prog.info? 49).map (fun i => (i.zero, i.size, i.bytes)) = some (some (.agg #[.int .i64 0, .int .i64 0, .bool false, .int .i64 0, .int .i64 0, .bool false, .bool false, .bool false, .bool false, .int .i64 0, .int .i64 0, .int .i64 0]), 12, 72) := by kernel_rfl
  cases hq : Try.prog.info? 49 with
  | none => simp [hq] at h
  | some i => simp [hq] at h; exact ⟨i, rfl, h.1, h.2.1, h.2.2⟩
theorem zeroF (n : Nat) : (Builtin.zeroCells (Value.agg #[.int .i64 0, .int .i64 0, .bool false, .int .i64 0, .int .i64 0, .bool false, .bool false, .bool false, .bool false, .int .i64 0, .int .i64 0, .int .i64 0]).cells n) = (flatF (List.replicate n (Fm.start 0))).toArray := by
  apply Array.ext'
  apply List.ext_getElem?
  intro k
  by_cases hk : k < 12 * n
  · obtain ⟨i, j, rfl, hj⟩ : ∃ i j, k = 12 * i + j ∧ j < 12 := ⟨k / 12, k % 12, by omega, by omega⟩
    have hi : i < n := by omega
    have hr : (List.replicate n (Fm.start 0))[i]? = some (Fm.start 0) := by simp [hi]
    obtain rfl | rfl | rfl | rfl | rfl | rfl | rfl | rfl | rfl | rfl | rfl | rfl : j = 0 ∨ j = 1 ∨ j = 2 ∨ j = 3 ∨ j = 4 ∨ j = 5 ∨ j = 6 ∨ j = 7 ∨ j = 8 ∨ j = 9 ∨ j = 10 ∨ j = 11 := by omega
    all_goals rw [List.toList_toArray, flatF_at _ i _ (Fm.start 0) _ hr rfl]
    all_goals simp [Builtin.zeroCells, Value.cells]
    · exact ⟨12 * i, List.getElem?_range (by omega), by rw [show 12 * i % 12 = 0 by omega]; rfl⟩
    · exact ⟨12 * i + 1, List.getElem?_range (by omega), by rw [show (12 * i + 1) % 12 = 1 by omega]; rfl⟩
    · exact ⟨12 * i + 2, List.getElem?_range (by omega), by rw [show (12 * i + 2) % 12 = 2 by omega]; rfl⟩
    · exact ⟨12 * i + 3, List.getElem?_range (by omega), by rw [show (12 * i + 3) % 12 = 3 by omega]; rfl⟩
    · exact ⟨12 * i + 4, List.getElem?_range (by omega), by rw [show (12 * i + 4) % 12 = 4 by omega]; rfl⟩
    · exact ⟨12 * i + 5, List.getElem?_range (by omega), by rw [show (12 * i + 5) % 12 = 5 by omega]; rfl⟩
    · exact ⟨12 * i + 6, List.getElem?_range (by omega), by rw [show (12 * i + 6) % 12 = 6 by omega]; rfl⟩
    · exact ⟨12 * i + 7, List.getElem?_range (by omega), by rw [show (12 * i + 7) % 12 = 7 by omega]; rfl⟩
    · exact ⟨12 * i + 8, List.getElem?_range (by omega), by rw [show (12 * i + 8) % 12 = 8 by omega]; rfl⟩
    · exact ⟨12 * i + 9, List.getElem?_range (by omega), by rw [show (12 * i + 9) % 12 = 9 by omega]; rfl⟩
    · exact ⟨12 * i + 10, List.getElem?_range (by omega), by rw [show (12 * i + 10) % 12 = 10 by omega]; rfl⟩
    · exact ⟨12 * i + 11, List.getElem?_range (by omega), by rw [show (12 * i + 11) % 12 = 11 by omega]; rfl⟩
  · rw [List.getElem?_eq_none (by simp [Builtin.zeroCells, Value.cells]; omega), List.getElem?_eq_none (by simp [flatF_length]; omega)]
/-- One sequence, in a block of its own. -/
theorem srcF (w : World) (gq : Nat) (q : Fm) (h : SwF gq [q] w) : Src Try.prog 12 34 (.slice (some ⟨gq, 0, none⟩) 1 1) 1 (flatF [q]) w := by
  refine Src.ofSlice w Try.underlying34 ⟨gq, 0, none⟩ 1 1 _ (by simp [flatF_length]) (fun j u hj => ?_) (flatF_one _)
  rw [add_addr, Nat.zero_add]
  have hl : j < 12 := by have := (List.getElem?_eq_some_iff.1 hj).1; simpa [flatF_length] using this
  have hv : q.cs[j]? = some u := by simpa [flatF] using hj
  have := (h.cell 0 j q u rfl hv).1
  simpa using this
set_option maxRecDepth 100000 in
theorem appF_any (w : World) (g : Nat) (v : Value) (l : List Fm) (hO : OwF g v l w) (gq : Nat) (q : Fm) (hx : SwF gq [q] w) (hb : l.length ≤ 1000000000) :
    ∃ v' g' W, (∀ ty, (Builtin.append_ #[34, 34] ty #[v, .slice (some ⟨gq, 0, none⟩) 1 1]).run Try.prog w = .ok v' W) ∧ OwF g' v' (l ++ [q]) W ∧ Fr (fun k => k = g) w W ∧ (g' = g ∨ w.heap.size ≤ g') := by
  obtain ⟨xs, rfl, h2, h3, h4, h5⟩ := hO
  obtain ⟨i, hi, hz, hs, hby⟩ := infoF
  have hsrc := srcF w gq q hx
  by_cases hroom : l.length + 1 ≤ xs.length
  · have hst := run_storeCells_at (P := Try.prog) g (0 + l.length * 12) 49 (flatF [q]) 0 (flatF xs).toArray w h5 (by simp [flatF_length]; omega) (flatF_one _)
    refine ⟨.slice (some ⟨g, 0, none⟩) (l.length + 1) xs.length, g, w.setRow g ((flatF (l ++ [q] ++ xs.drop (l.length + 1))).toArray), fun ty => ?_, ?_, ?_, .inl rfl⟩
    · obtain ⟨W0, hW0⟩ : ∃ W0, W0 = w.setRow g ((flatF (l ++ [q] ++ xs.drop (l.length + 1))).toArray) := ⟨_, rfl⟩
      have hst' : (storeCells ⟨g, l.length * 12, none⟩ (flatF [q])).run Try.prog w = .ok () W0 := by
        rw [← Nat.zero_add (l.length * 12), hst, hW0]
        congr 3
        simp only [Nat.add_zero, Nat.zero_add]
        rw [flatF_length, List.length_singleton, show l.length * 12 = 12 * l.length by omega, show 12 * l.length + 12 * 1 = 12 * (l.length + 1) by omega, flatF_take _ _ (by omega), flatF_drop _ _ (by omega), h2, flatF_append, flatF_append]
      rw [← hW0]
      clear hst
      rcases hsrc.kind with ⟨e', hk⟩ | hk
      · simp [Builtin.append_, run_underlying Try.underlying34, sizeOf, typeInfo, hi, hs, hsrc.len, hroom, hsrc.cells, Addr.add_lit, hst']
      · rw [Try.underlying34] at hk; cases hk
    · refine ⟨l ++ [q] ++ xs.drop (l.length + 1), ?_, ?_, ?_, ?_, ?_⟩
      · simp; omega
      · rw [List.take_append_of_le_length (by simp), List.take_of_length_le (by simp)]
      · simp
      · simp; omega
      · exact setRow_heap w g _ _ 49 _ h5
    · exact (Fr.refl _ _).setRow _ _ (.inl rfl)
  · have hold : (Builtin.firstCells i.size l.length (.slice (some ⟨g, 0, none⟩) l.length xs.length)).run Try.prog w.drew = .ok (flatF l).toArray w.drew := by
      rw [hs]
      refine run_firstCells_some w.drew 12 l.length ⟨g, 0, none⟩ l.length xs.length (flatF l) (by simp [flatF_length]; omega) (fun j u hj => ?_)
      rw [add_addr, Nat.zero_add]
      have hjl : j < 12 * l.length := by have := (List.getElem?_eq_some_iff.1 hj).1; rw [flatF_length] at this; exact this
      have : (flatF xs)[j]? = some u := by
        rw [← h2, ← flatF_take _ _ h3, List.getElem?_take, if_pos hjl] at hj
        exact hj
      unfold SwF at h5
      show w.cell? _ = _
      simp [World.cell?, h5, this]
    have hrun := fun ty => run_append_grow_src w 34 34 ty 49 i _ Try.underlying34 hi hz (some ⟨g, 0, none⟩) l.length xs.length _ hold _ 1 _ (by rw [hs]; exact hsrc) (by omega) (by omega) (by rw [hby]; exact growslice_fits_wide (by omega) (by omega))
    have hge := grownCap_ge w (l.length + 1) xs.length 49
    have hle := grownCap_le_maxLen w (l.length + 1) xs.length 49 (by unfold maxLen; omega)
    unfold maxLen at hle
    generalize grownCap w (l.length + 1) xs.length 49 = G at *
    refine ⟨_, w.heap.size, _, hrun, ?_, (Fr.refl _ _).drew.alloc _, .inr (Nat.le_refl _)⟩
    have e : ((flatF l ++ flatF [q]).toArray ++ Builtin.zeroCells (Value.agg #[.int .i64 0, .int .i64 0, .bool false, .int .i64 0, .int .i64 0, .bool false, .bool false, .bool false, .bool false, .int .i64 0, .int .i64 0, .int .i64 0]).cells (G - (l.length + 1))) = (flatF (l ++ [q] ++ List.replicate (G - (l.length + 1)) (Fm.start 0))).toArray := by
      rw [zeroF, flatF_append, flatF_append]; simp
    rw [e]
    refine ⟨l ++ [q] ++ List.replicate (G - (l.length + 1)) (Fm.start 0), ?_, ?_, ?_, ?_, ?_⟩
    · simp; omega
    · rw [List.take_append_of_le_length (by simp), List.take_of_length_le (by simp)]
    · simp
    · simp; omega
    · show (w.heap.push _)[w.heap.size]? = _
      simp
theorem appF_nil (w : World) (gq : Nat) (q : Fm) (hx : SwF gq [q] w) :
    ∃ v' W, (∀ ty, (Builtin.append_ #[34, 34] ty #[.slice none 0 0, .slice (some ⟨gq, 0, none⟩) 1 1]).run Try.prog w = .ok v' W) ∧ OwF w.heap.size v' [q] W ∧ Nw w W := by
  obtain ⟨i, hi, hz, hs, hby⟩ := infoF
  have hsrc := srcF w gq q hx
  have hrun := fun ty => run_append_grow_src w 34 34 ty 49 i _ Try.underlying34 hi hz none 0 0 [] (by simp [Builtin.firstCells]) _ 1 _ (by rw [hs]; exact hsrc) (by omega) (by omega) (by rw [hby]; exact growslice_fits_wide (by omega) (by omega))
  have hge := grownCap_ge w (0 + 1) 0 49
  have hle := grownCap_le_maxLen w (0 + 1) 0 49 (by unfold maxLen; omega)
  unfold maxLen at hle
  generalize grownCap w (0 + 1) 0 49 = G at *
  refine ⟨_, _, hrun, ?_, (Fr.refl _ _).drew.alloc _⟩
  have e : (([] ++ flatF [q]).toArray ++ Builtin.zeroCells (Value.agg #[.int .i64 0, .int .i64 0, .bool false, .int .i64 0, .int .i64 0, .bool false, .bool false, .bool false, .bool false, .int .i64 0, .int .i64 0, .int .i64 0]).cells (G - (0 + 1))) = (flatF ([q] ++ List.replicate (G - (0 + 1)) (Fm.start 0))).toArray := by
    rw [zeroF, flatF_append]; simp
  rw [e]
  refine ⟨[q] ++ List.replicate (G - (0 + 1)) (Fm.start 0), ?_, ?_, ?_, ?_, ?_⟩
  · simp; omega
  · simp
  · simp
  · simp; omega
  · show (w.heap.push _)[w.heap.size]? = _
    simp
/-- The list of frames in its variable. -/
def TIF (lb : Nat) (K : Nat → Prop) (V : World) (fs : List Fm) : Prop := K lb ∧ ∃ vl, V.heap[lb]? = some (.cells #[vl] 34) ∧ ((vl = .slice none 0 0 ∧ fs = []) ∨ ∃ lg, K lg ∧ lb + 4 < lg ∧ OwF lg vl fs V)
theorem OwF.form {g : Nat} {v : Value} {l : List Fm} {w : World} (h : OwF g v l w) : ∃ c, v = .slice (some ⟨g, 0, none⟩) l.length c ∧ l.length ≤ c ∧ c < 9223372036854775808 := by
  obtain ⟨xs, h1, h2, h3, h4, h5⟩ := h
  exact ⟨_, h1, h3, h4⟩
set_option maxHeartbeats 8000000 in
set_option maxRecDepth 100000 in
theorem tell_list (b : List By) (lb : Nat) (w : World) (hs : w.heap.size = lb + 1) (hrow : w.heap[lb]? = some (.cells #[.slice none 0 0] 34)) (hbl : b.length ≤ 8000000000) : Tells lb b 31 #[.pointer (some ⟨lb, 0, none⟩)] (fun k => k = lb) (TIF lb) w where
  eg := enters_of Try.func31 (by kernel_rfl) rfl
  xt := fun k h => by subst h; omega
  t0 := fun V K hV hK => ⟨hK lb (by omega), _, hV.heap hrow, .inl ⟨rfl, rfl⟩⟩
  t1 := by
    rintro K V V' fs Y ⟨h0, vl, h1, h2⟩ hF hY
    have hlb : ¬ Y lb := fun hx => by
      rcases hY lb hx with e | e
      · exact e h0
      · omega
    refine ⟨h0, vl, row_kept h1 hF hlb, ?_⟩
    rcases h2 with h2 | ⟨lg, h3, h4, h5⟩
    · exact .inl h2
    · refine .inr ⟨lg, h3, h4, h5.kept hF (fun hx => ?_)⟩
      rcases hY lg hx with e | e
      · exact e h3
      · omega
  t2 := by
    rintro K V fs f ⟨h0, vl, h1, h2⟩ hK3 hKlt hlen
    show Calls Try.prog 31 #[.agg (frow f), .pointer (some ⟨lb, 0, none⟩)] V _
    obtain ⟨P, hP⟩ : ∃ P : Ending → World → Prop, P = fun e V' => (∃ r, e = .returned r) ∧ TIF lb (fun k => K k ∨ (V.heap.size ≤ k ∧ k < V'.heap.size)) V' (fs ++ [f]) ∧ Fr (fun k => k = lb ∨ (K k ∧ w.heap.size + 3 < k)) V V' := ⟨_, rfl⟩
    show Calls _ _ _ _ (fun e V' => (∃ r, e = .returned r) ∧ TIF lb (fun k => K k ∨ (V.heap.size ≤ k ∧ k < V'.heap.size)) V' (fs ++ [f]) ∧ Fr (fun k => k = lb ∨ (K k ∧ w.heap.size + 3 < k)) V V')
    rw [← hP]
    have hlbV := hKlt lb h0
    obtain ⟨C, hC⟩ : ∃ C, frow f = C := ⟨_, rfl⟩
    have hC12 : C.size = 12 := by rw [← hC]; rfl
    obtain ⟨V1, hV1⟩ : ∃ V1, V.alloc (.cells C 49) = V1 := ⟨_, rfl⟩
    obtain ⟨V2, hV2⟩ : ∃ V2, V1.alloc (.cells C 49) = V2 := ⟨_, rfl⟩
    have n1 : Nw V V1 := by rw [← hV1]; exact (Fr.refl _ _).alloc _
    have n2 : Nw V1 V2 := by rw [← hV2]; exact (Fr.refl _ _).alloc _
    have s1 : V1.heap.size = V.heap.size + 1 := by rw [← hV1]; simp only [World.alloc, Array.size_push]
    have s2 : V2.heap.size = V.heap.size + 1 + 1 := by rw [← hV2]; simp only [World.alloc, Array.size_push]; omega
    have hbox : V1.heap[V.heap.size]? = some (.cells C 49 (0, 0)) := by rw [← hV1]; exact new_row _ _ _ rfl
    have hq : SwF V1.heap.size [f] V2 := by
      show V2.heap[V1.heap.size]? = _
      rw [← hV2, new_row _ _ _ rfl, ← hC]
      rfl
    have h1' := n2.heap (n1.heap h1)
    -- the append
    have APP : ∃ a1 l1 c1 a2 l2 c2 W, vl = .slice a1 l1 c1 ∧ Hid (∀ ty, (Builtin.append_ #[34, 34] ty #[.slice a1 l1 c1, .slice (some ⟨V1.heap.size, 0, none⟩) 1 1]).run Try.prog V2 = .ok (.slice a2 l2 c2) W) ∧ W.cell? ⟨lb, 0, none⟩ = some vl ∧ W.frozen? ⟨lb, 0, none⟩ = false ∧ Hid (∀ r, P (.returned r) (W.setCell ⟨lb, 0, none⟩ (.slice a2 l2 c2))) := by
      rcases h2 with ⟨rfl, rfl⟩ | ⟨lg, h3, h4, h5⟩
      · obtain ⟨v', W, hap, hO, hN⟩ := appF_nil V2 V1.heap.size f hq
        obtain ⟨c2, rfl, _, _⟩ := hO.form
        have hr := hN.heap h1'
        refine ⟨_, _, _, _, _, _, W, rfl, hap, (row_cell hr 0 _ rfl).1, (row_cell hr 0 _ rfl).2, fun r => ?_⟩
        rw [hP]
        have hf : Fr (fun k => k = lb) W (W.setCell ⟨lb, 0, none⟩ (.slice (some ⟨V2.heap.size, 0, none⟩) [f].length c2)) := (Fr.refl _ _).setCell _ _ (.inl rfl)
        have hlt := hO.lt
        have hsz := hf.size
        refine ⟨⟨_, rfl⟩, ⟨.inl h0, _, row_set hr 0 _, .inr ⟨V2.heap.size, .inr ⟨by omega, by omega⟩, ?_, hO.kept hf (by omega)⟩⟩, ((n1.trans n2).trans hN).any.trans (hf.mono (fun k hk => .inl (.inl hk)))⟩
        have := hK3 (w.heap.size + 3) (by omega)
        have := hKlt _ this
        omega
      · obtain ⟨v', g', W, hap, hO, hF, hg'⟩ := appF_any V2 lg vl fs (h5.nw (n1.trans n2)) V1.heap.size f hq (by omega)
        obtain ⟨c1, e1, _, _⟩ := h5.form
        obtain ⟨c2, rfl, _, _⟩ := hO.form
        have hr := row_kept h1' hF (fun hx => by omega)
        refine ⟨_, _, _, some ⟨g', 0, none⟩, (fs ++ [f]).length, c2, W, e1, ?_, (row_cell hr 0 _ rfl).1, (row_cell hr 0 _ rfl).2, fun r => ?_⟩
        · rw [e1] at hap; exact hap
        rw [hP]
        have hf : Fr (fun k => k = lb) W (W.setCell ⟨lb, 0, none⟩ (.slice (some ⟨g', 0, none⟩) (fs ++ [f]).length c2)) := (Fr.refl _ _).setCell _ _ (.inl rfl)
        have hlt := hO.lt
        have hsz := hf.size
        have hglt := hKlt lg h3
        refine ⟨⟨_, rfl⟩, ⟨.inl h0, _, row_set hr 0 _, .inr ⟨g', ?_, ?_, hO.kept hf (by omega)⟩⟩, ((n1.trans n2).any.trans (hF.mono (fun k hk => .inl (.inr ⟨by subst hk; exact h3, by omega⟩)))).trans (hf.mono (fun k hk => .inl (.inl hk)))⟩
        · rcases hg' with e | e
          · subst e; exact .inl h3
          · exact .inr ⟨by omega, by omega⟩
        · rcases hg' with e | e
          · omega
          · have := hK3 (w.heap.size + 3) (by omega)
            have := hKlt _ this
            omega
    obtain ⟨a1, l1, c1, a2, l2, c2, W, rfl, HAP, k1, k2, HF⟩ := APP
    have hl1 : V1.cell? ⟨lb, 0, none⟩ = some (.slice a1 l1 c1) := (row_cell (n1.heap h1) 0 _ rfl).1
    subst hC
    unfold frow at hV1 hV2 hbox ⊢
    clear hP h1 h2 hq h1' hK3 hKlt hlen hrow n1 n2 s1 s2 hlbV hC12
    go_enter Try.func31, Try.ntmps31
    go_wp2_with (first | (refine wpList_load_row rfl 49 _ rfl V.heap.size (by simp [Act.eval]) 49 _ (0, 0) _ hbox Try.underlying49 rfl (by rw [sizeF]; rfl) ?_) | (at_builtin; refine Lib.wpList_append_run _ rfl _ _ 34 34 rfl (.slice a1 l1 c1) (.slice (some ⟨V1.heap.size, 0, none⟩) 1 1) (by simp [Act.eval]) (by simp [Act.eval]) _ _ (HAP.out _) ?_))
    go_end0
    exact HF.out _
end Go.Proofs.Ytdeefemeiggolaa

namespace Go.Proofs.Ytdeefemeiggolaa
open Go.RowKit
set_option linter.unusedVariables false
/-- Frames, as the document has it. -/
def ffr (b : List By) (most : Int) : List Fm × Nat × Nat :=
  if most < 0 ∨ 4194304 < most then ([], 0, 1) else
    match readF b most.toNat 0 [] [] with
    | .bad a y => ([], a, y)
    | .ok (_, fs) => (fs, b.length, 0)
/-- A list of frames that the call made. -/
def Frs (fs : List Fm) (v : Value) (w w' : World) : Prop := (v = .slice none 0 0 ∧ fs = []) ∨ ∃ g, w.heap.size ≤ g ∧ OwF g v fs w'
theorem fs_len {b : List By} {most p : Nat} {out : List By} {fs : List Fm} {out' : List By} {fs' : List Fm} (h : readF b most p out fs = .ok (out', fs')) (hf : fs.length * 8 ≤ p) (hp : p ≤ b.length) : fs'.length * 8 ≤ b.length := by
  induction hn : b.length - p using Nat.strongRecOn generalizing p out fs with
  | ind n ih =>
    rw [readF_eq] at h
    split at h
    · cases hb : nextF b most p out with
      | bad a y => rw [hb] at h; cases h
      | ok r =>
        obtain ⟨f, o⟩ := r
        rw [hb] at h
        obtain ⟨_, h2, h3, _⟩ := nextF_ok hb
        exact ih (b.length - f.till) (by omega) h (by rw [List.length_append, List.length_singleton]; omega) h3 rfl
    · injection h with h
      injection h with _ h
      rw [← h]; omega
set_option maxHeartbeats 8000000 in
set_option maxRecDepth 100000 in
theorem fframes_any (w : World) (vb : Value) (b : List By) (most : Int) (hb : Old w vb b) (hbl : b.length ≤ 8000000000) :
    Calls Try.prog 16 #[vb, .int .i64 most] w fun e w' => ∃ a n k, e = .returned (.tuple #[.slice a n k, .int .i64 (ffr b most).2.1, .int .i64 (ffr b most).2.2]) ∧ n = (ffr b most).1.length ∧ Frs (ffr b most).1 (.slice a n k) w w' ∧ Nw w w' := by
  obtain ⟨P, hP⟩ : ∃ P : Ending → World → Prop, P = fun e w' => ∃ a n k, e = .returned (.tuple #[.slice a n k, .int .i64 (ffr b most).2.1, .int .i64 (ffr b most).2.2]) ∧ n = (ffr b most).1.length ∧ Frs (ffr b most).1 (.slice a n k) w w' ∧ Nw w w' := ⟨_, rfl⟩
  rw [← hP]
  obtain ⟨a, c, rfl, hc, hc2, hbo⟩ := hb.open
  obtain ⟨lb, hlb⟩ : ∃ lb, w.heap.size = lb := ⟨_, rfl⟩
  obtain ⟨W1, hW1⟩ : ∃ W1, w.alloc (.cells #[.slice none 0 0] 34) = W1 := ⟨_, rfl⟩
  have hN1 : Nw w W1 := by rw [← hW1]; exact (Fr.refl _ _).alloc _
  have hs1 : W1.heap.size = lb + 1 := by rw [← hW1, ← hlb]; simp only [World.alloc, Array.size_push]
  have hrow : W1.heap[lb]? = some (.cells #[.slice none 0 0] 34) := by rw [← hW1]; exact new_row _ _ _ hlb
  have HT := tell_list b lb W1 hs1 hrow hbl
  have HC : Hid (Calls Try.prog 29 #[.slice a b.length c, .int .i64 most, .func (.func 31) #[] #[.pointer (some ⟨lb, 0, none⟩)]] W1 fun e w' => ∃ a2 n2 k2 y z, e = .returned (.tuple #[.slice a2 n2 k2, .int .i64 y, .int .i64 z]) ∧ ((¬ z = 0 ∧ Hid (P (.returned (.tuple #[.slice none 0 0, .int .i64 y, .int .i64 z])) w')) ∨ (z = 0 ∧ ∃ a3 n3 k3, w'.cell? ⟨lb, 0, none⟩ = some (.slice a3 n3 k3) ∧ Hid (P (.returned (.tuple #[.slice a3 n3 k3, .int .i64 y, .int .i64 0])) w')))) := by
    show Calls _ _ _ _ _
    by_cases hm : most < 0 ∨ 4194304 < most
    · refine (fread_arg W1 a b.length c most _ hm).mono ?_
      rintro e w' ⟨rfl, h1⟩
      refine ⟨_, _, _, _, _, rfl, .inl ⟨by decide, ?_⟩⟩
      show P _ _
      have hf : ffr b most = ([], 0, 1) := by unfold ffr; rw [if_pos hm]
      rw [hP, hf]
      exact ⟨_, _, _, rfl, rfl, .inl ⟨rfl, rfl⟩, hN1.trans h1⟩
    · obtain ⟨m, rfl⟩ : ∃ m : Nat, most = m := ⟨most.toNat, by omega⟩
      have hml : m ≤ 4194304 := by omega
      have key : Calls Try.prog 29 #[.slice a b.length c, .int .i64 m, .func (.func 31) #[] #[.pointer (some ⟨lb, 0, none⟩)]] W1 (Rdd b (fun k => k = lb) (TIF lb) W1 (readF b m 0 [] [])) := by
        by_cases hbn : b = []
        · subst hbn
          exact fread_none (D := lb) HT hml hc2
        · obtain ⟨g, o, rfl, hg, hrd⟩ := hbo hbn
          exact fread_some HT (by omega) (by omega) (hrd.nw hN1) hc hc2 (by omega) hml
      refine key.mono ?_
      rintro e w' ⟨hF, hr⟩
      have hNw : Nw w w' := hN1.then hF (fun k hk => .inr (by omega))
      have hd : ffr b m = match readF b m 0 [] [] with | .bad a y => ([], a, y) | .ok (_, fs) => (fs, b.length, 0) := by
        rw [ffr, if_neg hm]; rfl
      cases hrd : readF b m 0 [] [] with
      | bad x y =>
        rw [hrd] at hr hd
        simp only at hr hd
        subst hr
        refine ⟨_, _, _, _, _, rfl, .inl ⟨by have := readF_bad hrd; omega, ?_⟩⟩
        show P _ _
        rw [hP, hd]
        exact ⟨_, _, _, rfl, rfl, .inl ⟨rfl, rfl⟩, hNw⟩
      | ok r =>
        obtain ⟨out, fs⟩ := r
        rw [hrd] at hr hd
        simp only at hd
        obtain ⟨a2, k2, rfl, hM, K, h0, vl, h1, h2⟩ := hr
        have hfm : ∃ a3 n3 k3, vl = .slice a3 n3 k3 ∧ n3 = fs.length ∧ Frs fs vl w w' := by
          rcases h2 with ⟨rfl, rfl⟩ | ⟨lg, _, hg, hO⟩
          · exact ⟨_, _, _, rfl, rfl, .inl ⟨rfl, rfl⟩⟩
          · obtain ⟨c3, e3, _, _⟩ := hO.form
            exact ⟨_, _, _, e3, rfl, .inr ⟨lg, by omega, hO⟩⟩
        obtain ⟨a3, n3, k3, rfl, hn3, hfr⟩ := hfm
        refine ⟨_, _, _, _, _, rfl, .inr ⟨rfl, a3, n3, k3, (row_cell h1 0 _ rfl).1, ?_⟩⟩
        show P _ _
        rw [hP, hd]
        exact ⟨a3, n3, k3, rfl, hn3, hfr, hNw⟩
  have hmf : ∀ (fn : Fn) (first cap : Array Value) (w : World), (Instr.makeFunc fn first cap).run Try.prog w = .ok (.func fn first cap) w := fun _ _ _ _ => rfl
  clear hb hbo hP HT hrow hs1 hN1
  generalize b.length = L at *
  go_enter Try.func16, Try.ntmps16
  go_wp2_with fail
  go_at_call 29
  with_reducible refine HC.out.mono ?_
  rintro e w1 ⟨a2, n2, k2, y, z, rfl, HZ⟩
  rcases HZ with ⟨hz, HF⟩ | ⟨rfl, a3, n3, k3, hcl, HF⟩
  · go_wp2_with fail
    exact HF.out
  · go_wp2_with fail
    exact HF.out
end Go.Proofs.Ytdeefemeiggolaa

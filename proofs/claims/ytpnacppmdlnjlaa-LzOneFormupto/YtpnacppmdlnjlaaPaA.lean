import Derived.Test.YtpnacppmdlnjlaaLzE
import Derived.Lib.AppendZeros
namespace Go.Proofs.Ytpnacppmdlnjlaa
open Go.RowKit
set_option linter.unusedVariables false
/-! ### Rows of sequences -/
/-- A sequence as it lies in memory: Plain's slice, Back, Length. -/
structure Q where
  a : Option Addr
  n : Nat
  c : Nat
  b : Int
  l : Int
abbrev Q.v (q : Q) : Value := .slice q.a q.n q.c
def Q.cs (q : Q) : List Value := [q.v, .int .i64 q.b, .int .i64 q.l]
def flat : List Q → List Value
  | [] => []
  | q :: r => q.cs ++ flat r
theorem flat_length (qs : List Q) : (flat qs).length = 3 * qs.length := by
  induction qs with
  | nil => rfl
  | cons q r ih => simp [flat, Q.cs, ih]; omega
theorem flat_append (xs ys : List Q) : flat (xs ++ ys) = flat xs ++ flat ys := by
  induction xs with
  | nil => rfl
  | cons q r ih => simp [flat, ih]
theorem flat_take (qs : List Q) (n : Nat) (h : n ≤ qs.length) : (flat qs).take (3 * n) = flat (qs.take n) := by
  conv => lhs; rw [← List.take_append_drop n qs, flat_append]
  exact List.take_left' (by rw [flat_length, List.length_take]; omega)
theorem flat_drop (qs : List Q) (n : Nat) (h : n ≤ qs.length) : (flat qs).drop (3 * n) = flat (qs.drop n) := by
  conv => lhs; rw [← List.take_append_drop n qs, flat_append]
  exact List.drop_left' (by rw [flat_length, List.length_take]; omega)
theorem flat_at (qs : List Q) (i j : Nat) (q : Q) (v : Value) (hq : qs[i]? = some q) (hv : q.cs[j]? = some v) : (flat qs)[3 * i + j]? = some v := by
  induction qs generalizing i with
  | nil => simp at hq
  | cons x r ih =>
    have hl : x.cs.length = 3 := rfl
    cases i with
    | zero =>
      simp at hq; subst hq
      have hj : j < 3 := by
        have := (List.getElem?_eq_some_iff.1 hv).1; rw [hl] at this; exact this
      rw [flat, Nat.mul_zero, Nat.zero_add, List.getElem?_append_left (by omega)]
      exact hv
    | succ i =>
      rw [flat, List.getElem?_append_right (by omega), hl, show 3 * (i + 1) + j - 3 = 3 * i + j by omega]
      exact ih i (by simpa using hq)
theorem flat_one (qs : List Q) : ∀ v ∈ flat qs, v.oneCell' = true := by
  induction qs with
  | nil => simp [flat]
  | cons q r ih =>
    intro v hv
    rw [flat, List.mem_append] at hv
    rcases hv with hv | hv
    · simp only [Q.cs, List.mem_cons, List.mem_nil_iff, or_false] at hv
      rcases hv with rfl | rfl | rfl <;> rfl
    · exact ih v hv
def Sw (g : Nat) (xs : List Q) (w : World) : Prop := w.heap[g]? = some (.cells (flat xs).toArray 36)
theorem Sw.lt {g : Nat} {xs : List Q} {w : World} (h : Sw g xs w) : g < w.heap.size := (Array.getElem?_eq_some_iff.1 h).1
theorem Sw.kept {g : Nat} {xs : List Q} {w w' : World} {X : Nat → Prop} (h : Sw g xs w) (f : Fr X w w') (hx : ¬ X g) : Sw g xs w' := (f.block g h.lt hx).trans h
theorem Sw.cell {g : Nat} {xs : List Q} {w : World} (h : Sw g xs w) (i j : Nat) (q : Q) (v : Value) (hq : xs[i]? = some q) (hv : q.cs[j]? = some v) : w.cell? ⟨g, 3 * i + j, none⟩ = some v ∧ w.frozen? ⟨g, 3 * i + j, none⟩ = false := by
  have := flat_at xs i j q v hq hv
  unfold Sw at h
  constructor <;> simp [World.cell?, World.frozen?, h, this]
/-- A slice of sequences of one's own. -/
def OwS (g : Nat) (v : Value) (l : List Q) (w : World) : Prop := ∃ xs, v = .slice (some ⟨g, 0, none⟩) l.length xs.length ∧ xs.take l.length = l ∧ l.length ≤ xs.length ∧ xs.length < 9223372036854775808 ∧ Sw g xs w
theorem OwS.kept {g : Nat} {v : Value} {l : List Q} {w w' : World} {X : Nat → Prop} (h : OwS g v l w) (f : Fr X w w') (hx : ¬ X g) : OwS g v l w' := by
  obtain ⟨xs, h1, h2, h3, h4, h5⟩ := h
  exact ⟨xs, h1, h2, h3, h4, h5.kept f hx⟩
theorem OwS.nw {g : Nat} {v : Value} {l : List Q} {w w' : World} (h : OwS g v l w) (f : Nw w w') : OwS g v l w' := h.kept f (fun h => h)
theorem OwS.lt {g : Nat} {v : Value} {l : List Q} {w : World} (h : OwS g v l w) : g < w.heap.size := by
  obtain ⟨xs, h1, h2, h3, h4, h5⟩ := h
  exact h5.lt
theorem OwS.cell {g : Nat} {v : Value} {l : List Q} {w : World} (h : OwS g v l w) (i j : Nat) (q : Q) (u : Value) (hq : l[i]? = some q) (hv : q.cs[j]? = some u) : w.cell? ⟨g, 3 * i + j, none⟩ = some u ∧ w.frozen? ⟨g, 3 * i + j, none⟩ = false := by
  obtain ⟨xs, h1, h2, h3, h4, h5⟩ := h
  refine h5.cell i j q u ?_ hv
  have hi := (List.getElem?_eq_some_iff.1 hq).1
  rw [← h2, List.getElem?_take, if_pos hi] at hq
  exact hq
theorem infoS : ∃ i, Try.prog.info? 36 = some i ∧ i.zero = some (.agg #[.slice none 0 0, .int .i64 0, .int .i64 0]) ∧ i.size = 3 ∧ i.bytes = 40 := by
  have h : (Try.prog.info? 36).map (fun i => (i.zero, i.size, i.bytes)) = some (some (.agg #[.slice none 0 0, .int .i64 0, .int .i64 0]), 3, 40) := by kernel_rfl
  cases hq : Try.prog.info? 36 with
  | none => simp [hq] at h
  | some i => simp [hq] at h; exact ⟨i, rfl, h.1, h.2.1, h.2.2⟩
def q0 : Q := ⟨none, 0, 0, 0, 0⟩
theorem zeroS (n : Nat) : (Builtin.zeroCells (Value.agg #[.slice none 0 0, .int .i64 0, .int .i64 0]).cells n) = (flat (List.replicate n q0)).toArray := by
  apply Array.ext'
  apply List.ext_getElem?
  intro k
  by_cases hk : k < 3 * n
  · obtain ⟨i, j, rfl, hj⟩ : ∃ i j, k = 3 * i + j ∧ j < 3 := ⟨k / 3, k % 3, by omega, by omega⟩
    have hi : i < n := by omega
    have hr : (List.replicate n q0)[i]? = some q0 := by simp [hi]
    obtain rfl | rfl | rfl : j = 0 ∨ j = 1 ∨ j = 2 := by omega
    all_goals rw [List.toList_toArray, flat_at _ i _ q0 _ hr rfl]
    all_goals simp [Builtin.zeroCells, Value.cells]
    · exact ⟨3 * i, List.getElem?_range (by omega), by rw [show 3 * i % 3 = 0 by omega]; rfl⟩
    · exact ⟨3 * i + 1, List.getElem?_range (by omega), by rw [show (3 * i + 1) % 3 = 1 by omega]; rfl⟩
    · exact ⟨3 * i + 2, List.getElem?_range (by omega), by rw [show (3 * i + 2) % 3 = 2 by omega]; rfl⟩
  · rw [List.getElem?_eq_none (by simp [Builtin.zeroCells, Value.cells]; omega), List.getElem?_eq_none (by simp [flat_length]; omega)]
/-- One sequence, in a block of its own. -/
theorem srcS (w : World) (gq : Nat) (q : Q) (h : Sw gq [q] w) : Src Try.prog 3 31 (.slice (some ⟨gq, 0, none⟩) 1 1) 1 (flat [q]) w := by
  refine Src.ofSlice w Try.underlying31 ⟨gq, 0, none⟩ 1 1 _ (by simp [flat_length]) (fun j u hj => ?_) (flat_one _)
  rw [add_addr, Nat.zero_add]
  have hl : j < 3 := by have := (List.getElem?_eq_some_iff.1 hj).1; simpa [flat_length] using this
  have hv : q.cs[j]? = some u := by simpa [flat] using hj
  have := (h.cell 0 j q u rfl hv).1
  simpa using this
theorem appS_any (w : World) (g : Nat) (v : Value) (l : List Q) (hO : OwS g v l w) (gq : Nat) (q : Q) (hx : Sw gq [q] w) (hb : l.length ≤ 1000000000) :
    ∃ v' g' W, (∀ ty, (Builtin.append_ #[31, 31] ty #[v, .slice (some ⟨gq, 0, none⟩) 1 1]).run Try.prog w = .ok v' W) ∧ OwS g' v' (l ++ [q]) W ∧ Fr (fun k => k = g) w W ∧ (g' = g ∨ w.heap.size ≤ g') := by
  obtain ⟨xs, rfl, h2, h3, h4, h5⟩ := hO
  obtain ⟨i, hi, hz, hs, hby⟩ := infoS
  have hsrc := srcS w gq q hx
  by_cases hroom : l.length + 1 ≤ xs.length
  · have hst := run_storeCells_at (P := Try.prog) g (0 + l.length * 3) 36 (flat [q]) 0 (flat xs).toArray w h5 (by simp [flat_length]; omega) (flat_one _)
    refine ⟨.slice (some ⟨g, 0, none⟩) (l.length + 1) xs.length, g, w.setRow g ((flat (l ++ [q] ++ xs.drop (l.length + 1))).toArray), fun ty => ?_, ?_, ?_, .inl rfl⟩
    · obtain ⟨W0, hW0⟩ : ∃ W0, W0 = w.setRow g ((flat (l ++ [q] ++ xs.drop (l.length + 1))).toArray) := ⟨_, rfl⟩
      have hst' : (storeCells ⟨g, l.length * 3, none⟩ (flat [q])).run Try.prog w = .ok () W0 := by
        rw [← Nat.zero_add (l.length * 3), hst, hW0]
        congr 3
        simp only [Nat.add_zero, Nat.zero_add]
        rw [flat_length, List.length_singleton, show l.length * 3 = 3 * l.length by omega, show 3 * l.length + 3 * 1 = 3 * (l.length + 1) by omega, flat_take _ _ (by omega), flat_drop _ _ (by omega), h2, flat_append, flat_append]
      rw [← hW0]
      clear hst
      rcases hsrc.kind with ⟨e', hk⟩ | hk
      · simp [Builtin.append_, run_underlying Try.underlying31, sizeOf, typeInfo, hi, hs, hsrc.len, hroom, hsrc.cells, Addr.add_lit, hst']
      · rw [Try.underlying31] at hk; cases hk
    · refine ⟨l ++ [q] ++ xs.drop (l.length + 1), ?_, ?_, ?_, ?_, ?_⟩
      · simp; omega
      · rw [List.take_append_of_le_length (by simp), List.take_of_length_le (by simp)]
      · simp
      · simp; omega
      · exact setRow_heap w g _ _ 36 _ h5
    · exact (Fr.refl _ _).setRow _ _ (.inl rfl)
  · have hold : (Builtin.firstCells i.size l.length (.slice (some ⟨g, 0, none⟩) l.length xs.length)).run Try.prog w.drew = .ok (flat l).toArray w.drew := by
      rw [hs]
      refine run_firstCells_some w.drew 3 l.length ⟨g, 0, none⟩ l.length xs.length (flat l) (by simp [flat_length]; omega) (fun j u hj => ?_)
      rw [add_addr, Nat.zero_add]
      have hjl : j < 3 * l.length := by have := (List.getElem?_eq_some_iff.1 hj).1; rw [flat_length] at this; exact this
      have : (flat xs)[j]? = some u := by
        rw [← h2, ← flat_take _ _ h3, List.getElem?_take, if_pos hjl] at hj
        exact hj
      unfold Sw at h5
      show w.cell? _ = _
      simp [World.cell?, h5, this]
    have hrun := fun ty => run_append_grow_src w 31 31 ty 36 i _ Try.underlying31 hi hz (some ⟨g, 0, none⟩) l.length xs.length _ hold _ 1 _ (by rw [hs]; exact hsrc) (by omega) (by omega) (by rw [hby]; exact growslice_fits_wide (by omega) (by omega))
    have hge := grownCap_ge w (l.length + 1) xs.length 36
    have hle := grownCap_le_maxLen w (l.length + 1) xs.length 36 (by unfold maxLen; omega)
    unfold maxLen at hle
    generalize grownCap w (l.length + 1) xs.length 36 = G at *
    refine ⟨_, w.heap.size, _, hrun, ?_, (Fr.refl _ _).drew.alloc _, .inr (Nat.le_refl _)⟩
    have e : ((flat l ++ flat [q]).toArray ++ Builtin.zeroCells (Value.agg #[.slice none 0 0, .int .i64 0, .int .i64 0]).cells (G - (l.length + 1))) = (flat (l ++ [q] ++ List.replicate (G - (l.length + 1)) q0)).toArray := by
      rw [zeroS, flat_append, flat_append]; simp
    rw [e]
    refine ⟨l ++ [q] ++ List.replicate (G - (l.length + 1)) q0, ?_, ?_, ?_, ?_, ?_⟩
    · simp; omega
    · rw [List.take_append_of_le_length (by simp), List.take_of_length_le (by simp)]
    · simp
    · simp; omega
    · show (w.heap.push _)[w.heap.size]? = _
      simp
end Go.Proofs.Ytpnacppmdlnjlaa

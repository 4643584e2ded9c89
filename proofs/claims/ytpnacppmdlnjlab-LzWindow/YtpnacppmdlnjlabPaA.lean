import Derived.Test.YtpnacppmdlnjlabLzE
import Derived.Lib.AppendZeros
namespace Go.Proofs.Ytpnacppmdlnjlab
open Go.RowKit
set_option linter.unusedVariables false
/-! ### Rows of sequences -/
/-- A sequence as it lies in memory: Plain's slice, Back, Length. -/
structure Q where
  a : Option Addr
  n : Nat
  c : Nat
  b : Int
  l : Int
abbrev Q.v (q : Q) : Value := .slice q.a q.n q.c
def Q.cs (q : Q) : List Value := [q.v, .int .i64 q.b, .int .i64 q.l]
def flat : List Q → List Value
  | [] => []
  | q :: r => q.cs ++ flat r
theorem flat_length (qs : List Q) : (flat qs).length = 3 * qs.length := by
  induction qs with
  | nil => rfl
  | cons q r ih => simp [flat, Q.cs, ih]; omega
theorem flat_append (xs ys : List Q) : flat (xs ++ ys) = flat xs ++ flat ys := by
  induction xs with
  | nil => rfl
  | cons q r ih => simp [flat, ih]
theorem flat_take (qs : List Q) (n : Nat) (h : n ≤ qs.length) : (flat qs).take (3 * n) = flat (qs.take n) := by
  conv => lhs; rw [← List.take_append_drop n qs, flat_append]
  exact List.take_left' (by rw [flat_length, List.length_take]; omega)
theorem flat_drop (qs : List Q) (n : Nat) (h : n ≤ qs.length) : (flat qs).drop (3 * n) = flat (qs.drop n) := by
  conv => lhs; rw [← List.take_append_drop n qs, flat_append]
  exact List.drop_left' (by rw [flat_length, List.length_take]; omega)
theorem flat_at (qs : List Q) (i j : Nat) (q : Q) (v : Value) (hq : qs[i]? = some q) (hv : q.cs[j]? = some v) : (flat qs)[3 * i + j]? = some v := by
  induction qs generalizing i with
  | nil => simp at hq
  | cons x r ih =>
    have hl : x.cs.length = 3 := rfl
    cases i with
    | zero =>
      simp at hq; subst hq
      have hj : j < 3 := by
        have := (List.getElem?_eq_some_iff.1 hv).1; rw [hl] at this; exact this
      rw [flat, Nat.mul_zero, Nat.zero_add, List.getElem?_append_left (by omega)]
      exact hv
    | succ i =>
      rw [flat, List.getElem?_append_right (by omega), hl, show 3 * (i + 1) + j - 3 = 3 * i + j by omega]
      exact ih i (by simpa using hq)
theorem flat_one (qs : List Q) : ∀ v ∈ flat qs, v.oneCell' = true := by
  induction qs with
  | nil => simp [flat]
  | cons q r ih =>
    intro v hv
    rw [flat, List.mem_append] at hv
    rcases hv with hv | hv
    · simp only [Q.cs, List.mem_cons, List.mem_nil_iff, or_false] at hv
      rcases hv with rfl | rfl | rfl <;> rfl
    · exact ih v hv
def Sw (g : Nat) (xs : List Q) (w : World) : Prop := w.heap[g]? = some (.cells (flat xs).toArray 60)
theorem Sw.lt {g : Nat} {xs : List Q} {w : World} (h : Sw g xs w) : g < w.heap.size := (Array.getElem?_eq_some_iff.1 h).1
theorem Sw.kept {g : Nat} {xs : List Q} {w w' : World} {X : Nat → Prop} (h : Sw g xs w) (f : Fr X w w') (hx : ¬ X g) : Sw g xs w' := (f.block g h.lt hx).trans h
theorem Sw.cell {g : Nat} {xs : List Q} {w : World} (h : Sw g xs w) (i j : Nat) (q : Q) (v : Value) (hq : xs[i]? = some q) (hv : q.cs[j]? = some v) : w.cell? ⟨g, 3 * i + j, none⟩ = some v ∧ w.frozen? ⟨g, 3 * i + j, none⟩ = false := by
  have := flat_at xs i j q v hq hv
  unfold Sw at h
  constructor <;> simp [World.cell?, World.frozen?, h, this]
/-- A slice of sequences of one's own. -/
def OwS (g : Nat) (v : Value) (l : List Q) (w : World) : Prop := ∃ xs, v = .slice (some ⟨g, 0, none⟩) l.length xs.length ∧ xs.take l.length = l ∧ l.length ≤ xs.length ∧ xs.length < 9223372036854775808 ∧ Sw g xs w
theorem OwS.kept {g : Nat} {v : Value} {l : List Q} {w w' : World} {X : Nat → Prop} (h : OwS g v l w) (f : Fr X w w') (hx : ¬ X g) : OwS g v l w' := by
  obtain ⟨xs, h1, h2, h3, h4, h5⟩ := h
  exact ⟨xs, h1, h2, h3, h4, h5.kept f hx⟩
theorem OwS.nw {g : Nat} {v : Value} {l : List Q} {w w' : World} (h : OwS g v l w) (f : Nw w w') : OwS g v l w' := h.kept f (fun h => h)
theorem OwS.lt {g : Nat} {v : Value} {l : List Q} {w : World} (h : OwS g v l w) : g < w.heap.size := by
  obtain ⟨xs, h1, h2, h3, h4, h5⟩ := h
  exact h5.lt
theorem OwS.cell {g : Nat} {v : Value} {l : List Q} {w : World} (h : OwS g v l w) (i j : Nat) (q : Q) (u : Value) (hq : l[i]? = some q) (hv : q.cs[j]? = some u) : w.cell? ⟨g, 3 * i + j, none⟩ = some u ∧ w.frozen? ⟨g, 3 * i + j, none⟩ = false := by
  obtain ⟨xs, h1, h2, h3, h4, h5⟩ := h
  refine h5.cell i j q u ?_ hv
  have hi := (List.getElem?_eq_some_iff.1 hq).1
  rw [← h2, List.getElem?_take, if_pos hi] at hq
  exact hq
theorem infoS : ∃ i, Try.prog.info? 60 = some i ∧ i.zero = some (.agg #[.slice none 0 0, .int .i64 0, .int .i64 0]) ∧ i.size = 3 ∧ i.bytes = 40 := by
  have h : (Try.prog.info? 60).map (fun i => (i.zero, i.size, i.bytes)) = some (some (.agg #[.slice none 0 0, .int .i64 0, .int .i64 0]), 3, 40) := by kernel_rfl
  cases hq : Try.prog.info? 60 with
  | none => simp [hq] at h
  | some i => simp [hq] at h; exact ⟨i, rfl, h.1, h.2.1, h.2.2⟩
def q0 : Q := ⟨none, 0, 0, 0, 0⟩
theorem zeroS (n : Nat) : (Builtin.zeroCells (Value.agg #[.slice none 0 0, .int .i64 0, .int .i64 0]).cells n) = (flat (List.replicate n q0)).toArray := by
  apply Array.ext'
  apply List.ext_getElem?
  intro k
  by_cases hk : k < 3 * n
  · obtain ⟨i, j, rfl, hj⟩ : ∃ i j, k = 3 * i + j ∧ j < 3 := ⟨k / 3, k % 3, by omega, by omega⟩
    have hi : i < n := by omega
    have hr : (List.replicate n q0)[i]? = some q0 := by simp [hi]
    obtain rfl | rfl | rfl : j = 0 ∨ j = 1 ∨ j = 2 := by omega
    all_goals rw [List.toList_toArray, flat_at _ i _ q0 _ hr rfl]
    all_goals simp [Builtin.zeroCells, Value.cells]
    · exact ⟨3 * i, List.getElem?_range (by omega), by rw [show 3 * i % 3 = 0 by omega]; rfl⟩
    · exact ⟨3 * i + 1, List.getElem?_range (by omega), by rw [show (3 * i + 1) % 3 = 1 by omega]; rfl⟩
    · exact ⟨3 * i + 2, List.getElem?_range (by omega), by rw [show (3 * i + 2) % 3 = 2 by omega]; rfl⟩
  · rw [List.getElem?_eq_none (by simp [Builtin.zeroCells, Value.cells]; omega), List.getElem?_eq_none (by simp [flat_length]; omega)]
end Go.Proofs.Ytpnacppmdlnjlab

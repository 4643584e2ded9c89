import Derived.Test.YtffhpoilifgcdaaDoorNlC
namespace Go.Proofs.YtffhpoilifgcdaaDoor
open Go.RowKit
set_option linter.unusedVariables false
def tellL (n : Nat) (l : List (Nat × Nat)) (d f t : Nat) : List (Nat × Nat) := if n ≤ t - f then cutS l d f t else l
def tellD (n d f t : Nat) : Nat := if n ≤ t - f then t else d
theorem FI.tell {b : List By} {n i : Nat} {l : List (Nat × Nat)} {d f : Nat} (h : FI b n i l d f) (h1 : 1 ≤ n) (he : i = b.length ∨ ∃ x, b[i]? = some x ∧ x ≠ 0#8) : TI b n i (tellL n l d f i) (tellD n d f i) := by
  unfold tellL tellD
  by_cases hn : n ≤ i - f
  · rw [if_pos hn, if_pos hn]; exact h.long h1 hn
  · rw [if_neg hn, if_neg hn]; exact h.short he hn
theorem gap_far (c : Nat) (q : List (Nat × Nat)) (e : Nat) (hg : Gaps q) (he : ∀ y ∈ q, e < y.1 ∧ y.1 < y.2 ∧ y.2 < c) : q = [] ∨ q.length + e ≤ c := by
  induction q generalizing e with
  | nil => exact .inl rfl
  | cons r q ih =>
    have gl := List.pairwise_cons.1 hg
    have hr := he r List.mem_cons_self
    right
    rcases ih r.2 gl.2 (fun y hy => ⟨gl.1 y hy, (he y (List.mem_cons_of_mem _ hy)).2⟩) with e1 | e1
    · subst e1; simp; omega
    · rw [List.length_cons]; omega
theorem gap_len {l : List (Nat × Nat)} {d : Nat} (hg : Gaps l) (he : ∀ x ∈ l, x.1 < x.2 ∧ x.2 < d) : l.length ≤ d := by
  cases l with
  | nil => simp
  | cons x l =>
    have gl := List.pairwise_cons.1 hg
    have hx := he x List.mem_cons_self
    rcases gap_far d l x.2 gl.2 (fun y hy => ⟨gl.1 y hy, he y (List.mem_cons_of_mem _ hy)⟩) with e1 | e1
    · subst e1; simp; omega
    · rw [List.length_cons]; omega
theorem TI.len {b : List By} {n t : Nat} {l : List (Nat × Nat)} {d : Nat} (h : TI b n t l d) : l.length ≤ b.length := by
  have := gap_len h.rise h.each
  have := h.dt
  have := h.tb
  omega
theorem Fnd.len {b : List By} {n : Nat} {l : List (Nat × Nat)} (h : Fnd b n l) : l.length ≤ b.length + 1 := gap_len h.rise (fun x hx => by have := h.each x hx; omega)
end Go.Proofs.YtffhpoilifgcdaaDoor

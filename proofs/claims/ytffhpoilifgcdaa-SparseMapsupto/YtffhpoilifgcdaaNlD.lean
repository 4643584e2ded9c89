import Derived.Test.YtffhpoilifgcdaaNlC
namespace Go.Proofs.Ytffhpoilifgcdaa
open Go.RowKit
set_option linter.unusedVariables false
def tellL (n : Nat) (l : List (Nat × Nat)) (d f t : Nat) : List (Nat × Nat) := if n ≤ t - f then cutS l d f t else l
def tellD (n d f t : Nat) : Nat := if n ≤ t - f then t else d
theorem FI.tell {b : List By} {n i : Nat} {l : List (Nat × Nat)} {d f : Nat} (h : FI b n i l d f) (h1 : 1 ≤ n) (he : i = b.length ∨ ∃ x, b[i]? = some x ∧ x ≠ 0#8) : TI b n i (tellL n l d f i) (tellD n d f i) := by
  unfold tellL tellD
  by_cases hn : n ≤ i - f
  · rw [if_pos hn, if_pos hn]; exact h.long h1 hn
  · rw [if_neg hn, if_neg hn]; exact h.short he hn
theorem gap_far (c : Nat) (q : List (Nat × Nat)) (e : Nat) (hg : Gaps q) (he : ∀ y ∈ q, e < y.1 ∧ y.1 < y.2 ∧ y.2 < c) : q = [] ∨ q.length + e ≤ c := by
  induction q generalizing e with
  | nil => exact .inl rfl
  | cons r q ih =>
    have gl := List.pairwise_cons.1 hg
    have hr := he r List.mem_cons_self
    right
    rcases ih r.2 gl.2 (fun y hy => ⟨gl.1 y hy, (he y (List.mem_cons_of_mem _ hy)).2⟩) with e1 | e1
    · subst e1; simp; omega
    · rw [List.length_cons]; omega
theorem gap_len {l : List (Nat × Nat)} {d : Nat} (hg : Gaps l) (he : ∀ x ∈ l, x.1 < x.2 ∧ x.2 < d) : l.length ≤ d := by
  cases l with
  | nil => simp
  | cons x l =>
    have gl := List.pairwise_cons.1 hg
    have hx := he x List.mem_cons_self
    rcases gap_far d l x.2 gl.2 (fun y hy => ⟨gl.1 y hy, he y (List.mem_cons_of_mem _ hy)⟩) with e1 | e1
    · subst e1; simp; omega
    · rw [List.length_cons]; omega
theorem TI.len {b : List By} {n t : Nat} {l : List (Nat × Nat)} {d : Nat} (h : TI b n t l d) : l.length ≤ b.length := by
  have := gap_len h.rise h.each
  have := h.dt
  have := h.tb
  omega
theorem Fnd.len {b : List By} {n : Nat} {l : List (Nat × Nat)} (h : Fnd b n l) : l.length ≤ b.length + 1 := gap_len h.rise (fun x hx => by have := h.each x hx; omega)
set_option maxHeartbeats 4000000 in
set_option maxRecDepth 100000 in
theorem tell_any (w : World) (B0 B1 B2 B3 : Nat) (z : Int) (hz : -9223372036854775808 ≤ z ∧ z ≤ 9223372036854775807) (l : List (Nat × Nat)) (d : Nat) (V : World) (h : FM w B0 B1 B2 B3 z l d V) (hl : l.length ≤ 1000000000) (f t : Nat) (hft : f ≤ t) (ht : t ≤ 1000000000000) :
    Calls Try.prog 22 #[.int .i64 f, .int .i64 t, .pointer (some ⟨B0, 0, none⟩), .pointer (some ⟨B3, 0, none⟩)] V fun e V' => (∃ r, e = .returned r) ∧ FM w B0 B1 B2 B3 z (tellL (max z 1).toNat l d f t) (tellD (max z 1).toNat d f t) V' := by
  obtain ⟨P, hP⟩ : ∃ P : Ending → World → Prop, P = fun e V' => (∃ r, e = .returned r) ∧ FM w B0 B1 B2 B3 z (tellL (max z 1).toNat l d f t) (tellD (max z 1).toNat d f t) V' := ⟨_, rfl⟩
  rw [← hP]
  obtain ⟨x0, _⟩ := one_cell h.c0
  obtain ⟨y0, _⟩ := one_cell h.c3
  unfold tellL tellD at hP
  obtain ⟨N, hN⟩ : ∃ N, max z 1 = N := ⟨_, rfl⟩
  have hN1 : 1 ≤ N ∧ N ≤ 9223372036854775807 := by omega
  rw [hN] at hP
  by_cases hd : N.toNat ≤ t - f
  · rw [if_pos hd, if_pos hd] at hP
    have HC := tHid (cut_any w B0 B1 B2 B3 z l d V h hl f t)
    have HF : Hid (∀ r V', FM w B0 B1 B2 B3 z (cutS l d f t) t V' → P (.returned r) V') := fun r V' k => by rw [hP]; exact ⟨⟨_, rfl⟩, k⟩
    have hdi : N ≤ (t : Int) - (f : Int) := by omega
    clear hP h hl hd
    go_enter Try.func22, Try.ntmps22
    go_wp2_with fail
    refine HC.out.mono ?_
    rintro e w1 ⟨⟨r, rfl⟩, H1⟩
    have H1 := tHid H1
    go_wp2_with fail
    go_end0
    exact HF.out _ _ H1.out
  · rw [if_neg hd, if_neg hd] at hP
    have HF : Hid (∀ r, P (.returned r) V) := fun r => by rw [hP]; exact ⟨⟨_, rfl⟩, h⟩
    have hdi : ¬ N ≤ (t : Int) - (f : Int) := by omega
    clear hP h hl hd
    go_enter Try.func22, Try.ntmps22
    go_wp2_with fail
    go_end0
    exact HF.out _
end Go.Proofs.Ytffhpoilifgcdaa

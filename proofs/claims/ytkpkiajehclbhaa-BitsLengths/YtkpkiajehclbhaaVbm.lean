import Derived.Test.YtkpkiajehclbhaaVbl
namespace Go.Proofs.Ytkpkiajehclbhaa
open Go.RowKit
set_option linter.unusedVariables false
theorem pu_bound (cs : List Nat) (B : Nat) (h : ∀ c ∈ cs, c ≤ B) : ∀ i, ∀ x ∈ cost (pu cs i), x ≤ B * 2 ^ i
  | 0, x, hx => by
    have := (mg_perm cs []).mem_iff.1 hx
    have := h x (by simpa using this)
    simpa using this
  | i + 1, x, hx => by
    have := (mg_perm cs _).mem_iff.1 hx
    rw [List.mem_append] at this
    have h2 : B * 1 ≤ B * 2 ^ (i + 1) := Nat.mul_le_mul_left _ (Nat.two_pow_pos _)
    rcases this with hc | hc
    · have := h x hc; omega
    · have hp : ∀ (l : List Nat) (M y : Nat), (∀ z ∈ l, z ≤ M) → y ∈ pr l → y ≤ 2 * M := by
        intro l
        induction l using pr.induct with
        | case1 a b r ih =>
          intro M y hl hy
          simp only [pr, List.mem_cons] at hy
          rcases hy with rfl | hy
          · have := hl a (by simp); have := hl b (by simp); omega
          · exact ih M y (fun z hz => hl z (by simp [hz])) hy
        | case2 l hl =>
          intro M y _ hy
          have : pr l = [] := by
            cases l with
            | nil => rfl
            | cons a r => cases r with
              | nil => rfl
              | cons b r => exact absurd rfl (hl a b r)
          rw [this] at hy; cases hy
      have := hp _ (B * 2 ^ i) x (pu_bound cs B h i) hc
      rw [Nat.pow_succ, ← Nat.mul_assoc]; omega
theorem prc_eq (P0 : List Coin) : prc P0 = prs (pr (cost P0)) := rfl
/-- The purses that are made. -/
structure PuI (w : World) (pb : Nat) (cs : List Nat) (I : Nat) (wr : World) : Prop where
  row : ∃ A : Array Value, wr.heap[pb]? = some (.cells A 114) ∧ A.size = 15 ∧ ∀ j, j < I → ∃ g c, A[j]? = some (.slice (some ⟨g, 0, none⟩) (pu cs j).length c) ∧ OwR RC g (.slice (some ⟨g, 0, none⟩) (pu cs j).length c) (pu cs j) wr ∧ w.heap.size ≤ g ∧ g ≠ pb
  lo : w.heap.size ≤ pb
variable {w : World} {pb : Nat} {cs : List Nat} {I : Nat} {wr : World}
theorem PuI.kept {X : Nat → Prop} {V : World} (h : PuI w pb cs I wr) (k : Fr X wr V) (hX : ∀ g, X g → g < w.heap.size) : PuI w pb cs I V := by
  obtain ⟨A, h1, h2, h3⟩ := h.row
  have hlo := h.lo
  refine ⟨⟨A, row_kept h1 k (fun e => by have := hX _ e; omega), h2, fun j hj => ?_⟩, hlo⟩
  obtain ⟨g, c, q1, q2, q3, q4⟩ := h3 j hj
  exact ⟨g, c, q1, q2.kept k (fun e => by have := hX _ e; omega), q3, q4⟩
theorem PuI.nw {V : World} (h : PuI w pb cs I wr) (k : Nw wr V) : PuI w pb cs I V := h.kept k (fun _ h => h.elim)
theorem PuI.at (h : PuI w pb cs I wr) (j : Nat) (hj : j < I) : ∃ g c, wr.cell? ⟨pb, j, none⟩ = some (.slice (some ⟨g, 0, none⟩) (pu cs j).length c) ∧ OwR RC g (.slice (some ⟨g, 0, none⟩) (pu cs j).length c) (pu cs j) wr ∧ (pu cs j).length ≤ c ∧ c < 9223372036854775808 := by
  obtain ⟨A, h1, h2, h3⟩ := h.row
  obtain ⟨g, c, q1, q2, q3, q4⟩ := h3 j hj
  obtain ⟨c', e, r1, r2⟩ := q2.form
  have : c' = c := by
    generalize (pu cs j).length = n at e
    cases e; rfl
  subst this
  exact ⟨g, c', (row_cell h1 j _ q1).1, q2, r1, r2⟩
theorem PuI.free (h : PuI w pb cs I wr) (hI : I < 15) : ∃ u, wr.cell? ⟨pb, I, none⟩ = some u ∧ wr.frozen? ⟨pb, I, none⟩ = false := by
  obtain ⟨A, h1, h2, h3⟩ := h.row
  have := row_cell h1 I _ (Array.getElem?_eq_getElem (by omega))
  exact ⟨_, this.1, this.2⟩
theorem PuI.put (h : PuI w pb cs I wr) (hI : I < 15) (g c : Nat) (hO : OwR RC g (.slice (some ⟨g, 0, none⟩) (pu cs I).length c) (pu cs I) wr) (hg : w.heap.size ≤ g) (hne : g ≠ pb) : PuI w pb cs (I + 1) (wr.setCell ⟨pb, I, none⟩ (.slice (some ⟨g, 0, none⟩) (pu cs I).length c)) ∧ Fr (fun k => k = pb) wr (wr.setCell ⟨pb, I, none⟩ (.slice (some ⟨g, 0, none⟩) (pu cs I).length c)) := by
  obtain ⟨A, h1, h2, h3⟩ := h.row
  have hf : Fr (fun k => k = pb) wr (wr.setCell ⟨pb, I, none⟩ (.slice (some ⟨g, 0, none⟩) (pu cs I).length c)) := (Fr.refl _ _).setCell _ _ (.inl rfl)
  refine ⟨⟨⟨_, row_set h1 I _, by rw [Array.size_setIfInBounds]; exact h2, fun j hj => ?_⟩, h.lo⟩, hf⟩
  by_cases e : j = I
  · subst e
    exact ⟨g, c, by rw [Array.getElem?_setIfInBounds_self_of_lt (by omega)], hO.kept hf hne, hg, hne⟩
  · obtain ⟨g', c', q1, q2, q3, q4⟩ := h3 j (by omega)
    exact ⟨g', c', by rw [Array.getElem?_setIfInBounds_ne (by omega)]; exact q1, q2.kept hf q4, q3, q4⟩
theorem PuI.start (w : World) (cs : List Nat) (A : Array Value) (hA : A.size = 15) : PuI w w.heap.size cs 0 (w.alloc (.cells A 114)) := ⟨⟨A, new_heap _ _, hA, fun j hj => by omega⟩, Nat.le_refl _⟩
/-- The lengths, as they are told. -/
structure LnI (lb gl n : Nat) (vals : List Nat) (w : World) : Prop where
  b : w.heap[lb]? = some (.cells #[.slice (some ⟨gl, 0, none⟩) n n] 54)
  v : SwR RI gl (toI vals) w
  len : vals.length = n
  nl : n ≤ 1000000
  bd : ∀ x ∈ vals, x ≤ 1000000
  ne : lb ≠ gl
variable {lb gl n : Nat} {vals : List Nat}
theorem LnI.kept {X : Nat → Prop} {w' : World} (h : LnI lb gl n vals w) (k : Fr X w w') (h1 : ¬ X lb) (h2 : ¬ X gl) : LnI lb gl n vals w' := ⟨row_kept h.b k h1, h.v.kept k h2, h.len, h.nl, h.bd, h.ne⟩
theorem LnI.nw {w' : World} (h : LnI lb gl n vals w) (k : Nw w w') : LnI lb gl n vals w' := h.kept k (fun h => h) (fun h => h)
theorem LnI.set (h : LnI lb gl n vals w) (s x : Nat) (hx : x ≤ 1000000) (z : Int) (hz : z = x) : LnI lb gl n (vals.set s x) (w.setCell ⟨gl, s, none⟩ (.int .i64 z)) ∧ Fr (fun k => k = gl) w (w.setCell ⟨gl, s, none⟩ (.int .i64 z)) := by
  subst hz
  have hf : Fr (fun k => k = gl) w (w.setCell ⟨gl, s, none⟩ (.int .i64 (x : Nat))) := (Fr.refl _ _).setCell _ _ (.inl rfl)
  refine ⟨⟨row_kept h.b hf h.ne, by rw [toI_set]; exact h.v.set1 s _, by rw [List.length_set]; exact h.len, h.nl, fun y hy => ?_, h.ne⟩, hf⟩
  rcases List.mem_or_eq_of_mem_set hy with hy | rfl
  · exact h.bd y hy
  · exact hx
set_option maxHeartbeats 8000000 in
theorem tell2_any (h : LnI lb gl n vals w) (s : Nat) (hs : s < n) (hv : vals.getD s 0 ≤ 999999) : Calls Try.prog 59 #[.int .i64 s, .pointer (some ⟨lb, 0, none⟩)] w fun e w' => (∃ r, e = .returned r) ∧ LnI lb gl n (vals.set s (vals.getD s 0 + 1)) w' ∧ Fr (fun k => k = gl) w w' := by
  obtain ⟨P, hP⟩ : ∃ P : Ending → World → Prop, P = fun e w' => (∃ r, e = .returned r) ∧ LnI lb gl n (vals.set s (vals.getD s 0 + 1)) w' ∧ Fr (fun k => k = gl) w w' := ⟨_, rfl⟩
  rw [← hP]
  have hnl := h.nl
  have k0 := (row_cell h.b 0 _ rfl).1
  have kk := h.v.cell riOk s 0 _ _ (toI_at vals s (by rw [h.len]; exact hs)) rfl
  rw [show RI.k = 1 from rfl, Nat.mul_one, Nat.add_zero] at kk
  obtain ⟨k1, k2⟩ := kk
  obtain ⟨y, hy⟩ : ∃ y, vals.getD s 0 + 1 = y := ⟨_, rfl⟩
  have hyi : ((vals.getD s 0 : Nat) : Int) + 1 = (y : Int) := by omega
  have hsi : (s : Int) < (n : Int) := by omega
  have HF : Hid (∀ r, P (.returned r) (w.setCell ⟨gl, s, none⟩ (.int .i64 y))) := fun r => by
    rw [hP, hy]
    have := h.set s y (by omega) (y : Int) rfl
    exact ⟨⟨r, rfl⟩, this.1, this.2⟩
  clear hP h hy
  generalize vals.getD s 0 = x at *
  go_enter Try.func59, Try.ntmps59
  go_wp2
  first | exact HF.out _ | (go_end0; exact HF.out _)
/-- What the lengths hold: T levels are told, and of the next one I symbols. -/
def VlI (ys : List Nat) (T : List Nat) (I : Nat) (vals : List Nat) : Prop := (∀ j, j < ys.length → vals.getD (ys.getD j 0) 0 = lnt T j + (if j < I then 1 else 0)) ∧ ∀ x, x ∉ ys → vals.getD x 0 = 0
theorem lnt_snoc (T : List Nat) (s j : Nat) : lnt (T ++ [s]) j = lnt T j + (if j < s then 1 else 0) := by
  unfold lnt
  rw [List.countP_append]
  by_cases h : j < s <;> simp [h]
theorem VlI.next {ys T vals : List Nat} {s : Nat} (h : VlI ys T s vals) : VlI ys (T ++ [s]) 0 vals := ⟨fun j hj => by rw [h.1 j hj, lnt_snoc]; simp, h.2⟩
theorem VlI.step {ys T vals : List Nat} {I : Nat} (h : VlI ys T I vals) (hnd : ys.Nodup) (hI : I < ys.length) (hl : ys.getD I 0 < vals.length) : VlI ys T (I + 1) (vals.set (ys.getD I 0) (vals.getD (ys.getD I 0) 0 + 1)) := by
  refine ⟨fun j hj => ?_, fun x hx => ?_⟩
  · rw [getD_set _ _ _ _ hl]
    by_cases e : j = I
    · subst e
      rw [if_pos rfl, h.1 j hj, if_neg (by omega), if_pos (by omega)]
    · have hne : ys.getD j 0 ≠ ys.getD I 0 := fun he => by
        rw [getD_eq _ _ hj, getD_eq _ _ hI] at he
        exact e ((List.getElem_inj hnd).1 he)
      rw [if_neg hne, h.1 j hj]
      by_cases e2 : j < I
      · rw [if_pos e2, if_pos (by omega)]
      · rw [if_neg e2, if_neg (by omega)]
  · rw [getD_set _ _ _ _ hl]
    rw [if_neg (fun he => hx (by rw [he]; exact mem_getD hI))]
    exact h.2 x hx
end Go.Proofs.Ytkpkiajehclbhaa

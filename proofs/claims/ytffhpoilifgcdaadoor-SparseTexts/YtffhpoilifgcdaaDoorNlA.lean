import Derived.Test.YtffhpoilifgcdaaDoorLzA
namespace Go.Proofs.YtffhpoilifgcdaaDoor
set_option linter.unusedVariables false
/-! ### Holes and the ranges of what is none, pure -/
abbrev Rg := Int × Int
/-- A place lies in a hole of n zeros or more. -/
def InH (b : List By) (n i : Nat) : Prop := ∃ p q, p ≤ i ∧ i < q ∧ q ≤ b.length ∧ n ≤ q - p ∧ ∀ j, p ≤ j → j < q → b[j]? = some 0#8
def Cov (l : List (Nat × Nat)) (i : Nat) : Prop := ∃ x ∈ l, x.1 ≤ i ∧ i < x.2
def Gaps (l : List (Nat × Nat)) : Prop := l.Pairwise (fun x y => x.2 < y.1)
structure Fnd (b : List By) (n : Nat) (l : List (Nat × Nat)) : Prop where
  rise : Gaps l
  each : ∀ x ∈ l, x.1 < x.2 ∧ x.2 ≤ b.length
  mem : ∀ i, i < b.length → (Cov l i ↔ ¬ InH b n i)
theorem cov_nil (i : Nat) : ¬ Cov [] i := by rintro ⟨x, hx, _⟩; simp at hx
theorem cov_cons (x : Nat × Nat) (l : List (Nat × Nat)) (i : Nat) : Cov (x :: l) i ↔ (x.1 ≤ i ∧ i < x.2) ∨ Cov l i := by
  unfold Cov
  constructor
  · rintro ⟨y, hy, h⟩
    rcases List.mem_cons.1 hy with rfl | hy
    · exact .inl h
    · exact .inr ⟨y, hy, h⟩
  · rintro (h | ⟨y, hy, h⟩)
    · exact ⟨x, List.mem_cons_self, h⟩
    · exact ⟨y, List.mem_cons_of_mem _ hy, h⟩
theorem cov_snoc (l : List (Nat × Nat)) (x : Nat × Nat) (i : Nat) : Cov (l ++ [x]) i ↔ Cov l i ∨ (x.1 ≤ i ∧ i < x.2) := by
  unfold Cov
  constructor
  · rintro ⟨y, hy, h⟩
    rcases List.mem_append.1 hy with hy | hy
    · exact .inl ⟨y, hy, h⟩
    · rw [List.mem_singleton] at hy; subst hy; exact .inr h
  · rintro (⟨y, hy, h⟩ | h)
    · exact ⟨y, List.mem_append_left _ hy, h⟩
    · exact ⟨x, List.mem_append_right _ (List.mem_singleton_self _), h⟩
theorem gaps_snoc {l : List (Nat × Nat)} {x : Nat × Nat} (h : Gaps l) (hx : ∀ y ∈ l, y.2 < x.1) : Gaps (l ++ [x]) := by
  unfold Gaps
  rw [List.pairwise_append]
  exact ⟨h, by simp, fun a ha c hc => by rw [List.mem_singleton] at hc; subst hc; exact hx a ha⟩
/-- Places alone tell such ranges. -/
theorem gaps_uniq {l m : List (Nat × Nat)} (hl : Gaps l) (hm : Gaps m) (el : ∀ x ∈ l, x.1 < x.2) (em : ∀ x ∈ m, x.1 < x.2) (h : ∀ i, Cov l i ↔ Cov m i) : l = m := by
  induction l generalizing m with
  | nil =>
    cases m with
    | nil => rfl
    | cons y m => exact absurd ((h y.1).2 ((cov_cons y m y.1).2 (.inl ⟨Nat.le_refl _, em y List.mem_cons_self⟩))) (cov_nil _)
  | cons x l ih =>
    cases m with
    | nil => exact absurd ((h x.1).1 ((cov_cons x l x.1).2 (.inl ⟨Nat.le_refl _, el x List.mem_cons_self⟩))) (cov_nil _)
    | cons y m =>
      have hx := el x List.mem_cons_self
      have hy := em y List.mem_cons_self
      have gl := List.pairwise_cons.1 hl
      have gm := List.pairwise_cons.1 hm
      have bl : ∀ i, Cov l i → x.2 < i := fun i ⟨z, hz, h1, _⟩ => by have := gl.1 z hz; omega
      have bm : ∀ i, Cov m i → y.2 < i := fun i ⟨z, hz, h1, _⟩ => by have := gm.1 z hz; omega
      have f1 : y.1 ≤ x.1 := by
        rcases (cov_cons y m x.1).1 ((h x.1).1 ((cov_cons x l x.1).2 (.inl ⟨Nat.le_refl _, hx⟩))) with e | e
        · exact e.1
        · have := bm _ e; omega
      have f2 : x.1 ≤ y.1 := by
        rcases (cov_cons x l y.1).1 ((h y.1).2 ((cov_cons y m y.1).2 (.inl ⟨Nat.le_refl _, hy⟩))) with e | e
        · exact e.1
        · have := bl _ e; omega
      have t1 : ¬ x.2 < y.2 := fun hlt => by
        rcases (cov_cons x l x.2).1 ((h x.2).2 ((cov_cons y m x.2).2 (.inl ⟨by omega, hlt⟩))) with e | e
        · omega
        · have := bl _ e; omega
      have t2 : ¬ y.2 < x.2 := fun hlt => by
        rcases (cov_cons y m y.2).1 ((h y.2).1 ((cov_cons x l y.2).2 (.inl ⟨by omega, hlt⟩))) with e | e
        · omega
        · have := bm _ e; omega
      have exy : x = y := Prod.ext (by omega) (by omega)
      subst exy
      rw [ih gl.2 gm.2 (fun z hz => el z (List.mem_cons_of_mem _ hz)) (fun z hz => em z (List.mem_cons_of_mem _ hz)) (fun i => ?_)]
      constructor
      · intro hc
        rcases (cov_cons x m i).1 ((h i).1 ((cov_cons x l i).2 (.inr hc))) with e | e
        · have := bl _ hc; omega
        · exact e
      · intro hc
        rcases (cov_cons x l i).1 ((h i).2 ((cov_cons x m i).2 (.inr hc))) with e | e
        · have := bm _ hc; omega
        · exact e
theorem fnd_uniq {b : List By} {n : Nat} {l m : List (Nat × Nat)} (h : Fnd b n l) (k : Fnd b n m) : l = m :=
  gaps_uniq h.rise k.rise (fun x hx => (h.each x hx).1) (fun x hx => (k.each x hx).1) (fun i => by
    by_cases hi : i < b.length
    · exact (h.mem i hi).trans (k.mem i hi).symm
    · constructor
      · rintro ⟨x, hx, h1, h2⟩; have := (h.each x hx).2; omega
      · rintro ⟨x, hx, h1, h2⟩; have := (k.each x hx).2; omega)
/-! ### How Find goes -/
def cutS (l : List (Nat × Nat)) (d f t : Nat) : List (Nat × Nat) := if d < f then l ++ [(d, f)] else l
/-- Behind a run of zeros that was told. -/
structure TI (b : List By) (n t : Nat) (l : List (Nat × Nat)) (d : Nat) : Prop where
  tb : t ≤ b.length
  dt : d ≤ t
  rise : Gaps l
  each : ∀ x ∈ l, x.1 < x.2 ∧ x.2 < d
  mem : ∀ j, j < d → (Cov l j ↔ ¬ InH b n j)
  data : ∀ j, d ≤ j → j < t → ¬ InH b n j
/-- Ahead of the byte at i; the zeros began at f. -/
structure FI (b : List By) (n i : Nat) (l : List (Nat × Nat)) (d f : Nat) : Prop where
  ib : i ≤ b.length
  fi : f ≤ i
  ti : TI b n f l d
  z : ∀ j, f ≤ j → j < i → b[j]? = some 0#8
  bnd : f = 0 ∨ ∃ x, b[f - 1]? = some x ∧ x ≠ 0#8
theorem FI.start (b : List By) (n : Nat) : FI b n 0 [] 0 0 := ⟨Nat.zero_le _, Nat.le_refl _, ⟨Nat.zero_le _, Nat.le_refl _, List.Pairwise.nil, by simp, fun j hj => by omega, fun j h1 h2 => by omega⟩, fun j h1 h2 => by omega, .inl rfl⟩
theorem FI.zero {b : List By} {n i : Nat} {l : List (Nat × Nat)} {d f : Nat} (h : FI b n i l d f) (hi : i < b.length) (hz : b[i] = 0#8) : FI b n (i + 1) l d f :=
  ⟨by omega, by have := h.fi; omega, h.ti, fun j h1 h2 => by
    by_cases e : j = i
    · subst e; rw [List.getElem?_eq_getElem hi, hz]
    · exact h.z j h1 (by omega), h.bnd⟩
theorem nz_not {b : List By} {n j : Nat} {x : By} (hx : b[j]? = some x) (h0 : x ≠ 0#8) : ¬ InH b n j := by
  rintro ⟨p, q, h1, h2, _, _, hz⟩
  have := hz j h1 h2
  rw [hx] at this
  injection this with e
  exact h0 e
theorem TI.next {b : List By} {n i : Nat} {l : List (Nat × Nat)} {d : Nat} (h : TI b n i l d) (hi : i < b.length) (hz : b[i] ≠ 0#8) : FI b n (i + 1) l d (i + 1) :=
  ⟨by omega, Nat.le_refl _, ⟨by omega, by have := h.dt; omega, h.rise, h.each, h.mem, fun j h1 h2 => by
    by_cases e : j = i
    · subst e; exact nz_not (List.getElem?_eq_getElem hi) hz
    · exact h.data j h1 (by omega)⟩, fun j h1 h2 => by omega, .inr ⟨b[i], by simp [List.getElem?_eq_getElem hi], hz⟩⟩
/-- A short run of zeros. -/
theorem FI.short {b : List By} {n i : Nat} {l : List (Nat × Nat)} {d f : Nat} (h : FI b n i l d f) (he : i = b.length ∨ ∃ x, b[i]? = some x ∧ x ≠ 0#8) (hn : ¬ n ≤ i - f) : TI b n i l d := by
  refine ⟨h.ib, by have := h.fi; have := h.ti.dt; omega, h.ti.rise, h.ti.each, h.ti.mem, fun j h1 h2 => ?_⟩
  by_cases hj : j < f
  · exact h.ti.data j h1 hj
  · rintro ⟨p, q, a1, a2, a3, a4, a5⟩
    have hp : f ≤ p := by
      rcases Nat.lt_or_ge p f with e | e
      · rcases h.bnd with e2 | ⟨x, e2, e3⟩
        · omega
        · have := a5 (f - 1) (by omega) (by omega)
          rw [e2] at this
          injection this with e4
          exact absurd e4 e3
      · exact e
    have hq : q ≤ i := by
      rcases Nat.lt_or_ge i q with e | e
      · rcases he with e2 | ⟨x, e2, e3⟩
        · omega
        · have := a5 i (by omega) e
          rw [e2] at this
          injection this with e4
          exact absurd e4 e3
      · exact e
    omega
/-- A hole. -/
theorem FI.long {b : List By} {n i : Nat} {l : List (Nat × Nat)} {d f : Nat} (h : FI b n i l d f) (h1 : 1 ≤ n) (hn : n ≤ i - f) : TI b n i (cutS l d f i) i := by
  have hfi := h.fi
  have hdt := h.ti.dt
  have hin : ∀ j, f ≤ j → j < i → InH b n j := fun j a1 a2 => ⟨f, i, a1, a2, h.ib, hn, h.z⟩
  unfold cutS
  by_cases hd : d < f
  · rw [if_pos hd]
    refine ⟨h.ib, Nat.le_refl _, gaps_snoc h.ti.rise (fun y hy => (h.ti.each y hy).2), fun x hx => ?_, fun j hj => ?_, fun j a1 a2 => by omega⟩
    · rcases List.mem_append.1 hx with e | e
      · have := h.ti.each x e; omega
      · rw [List.mem_singleton] at e; subst e; exact ⟨hd, by show f < i; omega⟩
    · rw [cov_snoc]
      by_cases j1 : j < d
      · rw [← h.ti.mem j j1]
        constructor
        · rintro (e | e)
          · exact e
          · have : d ≤ j := e.1; omega
        · exact .inl
      · by_cases j2 : j < f
        · exact ⟨fun _ => h.ti.data j (by omega) j2, fun _ => .inr ⟨by show d ≤ j; omega, j2⟩⟩
        · constructor
          · rintro (⟨x, hx, e1, e2⟩ | e)
            · have := h.ti.each x hx; omega
            · have : j < f := e.2; omega
          · intro e; exact absurd (hin j (by omega) hj) e
  · rw [if_neg hd]
    have : d = f := by omega
    subst this
    refine ⟨h.ib, Nat.le_refl _, h.ti.rise, fun x hx => ?_, fun j hj => ?_, fun j a1 a2 => by omega⟩
    · have := h.ti.each x hx; omega
    · by_cases j1 : j < d
      · exact h.ti.mem j j1
      · constructor
        · rintro ⟨x, hx, e1, e2⟩
          have := h.ti.each x hx; omega
        · intro e; exact absurd (hin j (by omega) hj) e
theorem TI.fin {b : List By} {n : Nat} {l : List (Nat × Nat)} {d : Nat} (h : TI b n b.length l d) : Fnd b n (cutS l d b.length b.length) := by
  unfold cutS
  by_cases hd : d < b.length
  · rw [if_pos hd]
    refine ⟨gaps_snoc h.rise (fun y hy => (h.each y hy).2), fun x hx => ?_, fun i hi => ?_⟩
    · rcases List.mem_append.1 hx with e | e
      · have := h.each x e; omega
      · rw [List.mem_singleton] at e; subst e; exact ⟨hd, Nat.le_refl _⟩
    · rw [cov_snoc]
      by_cases j1 : i < d
      · rw [← h.mem i j1]
        constructor
        · rintro (e | e)
          · exact e
          · have : d ≤ i := e.1; omega
        · exact .inl
      · exact ⟨fun _ => h.data i (by omega) hi, fun _ => .inr ⟨by show d ≤ i; omega, hi⟩⟩
  · rw [if_neg hd]
    have := h.dt
    obtain rfl : d = b.length := by omega
    exact ⟨h.rise, fun x hx => by have := h.each x hx; omega, h.mem⟩
/-! ### What it comes to -/
theorem InH.zero {b : List By} {n i : Nat} (h : InH b n i) : b[i]? = some 0#8 := by
  obtain ⟨p, q, h1, h2, _, _, hz⟩ := h
  exact hz i h1 h2
theorem InH.less {b : List By} {n m i : Nat} (h : InH b n i) (hm : m ≤ n) : InH b m i := by
  obtain ⟨p, q, h1, h2, h3, h4, h5⟩ := h
  exact ⟨p, q, h1, h2, h3, by omega, h5⟩
/-- Ahead of a range, and at its end, stands none. -/
theorem Fnd.ahead {b : List By} {n : Nat} {l : List (Nat × Nat)} (h : Fnd b n l) (x : Nat × Nat) (hx : x ∈ l) (hp : 0 < x.1) : InH b n (x.1 - 1) := by
  have hx2 := h.each x hx
  refine Classical.byContradiction fun hn => ?_
  obtain ⟨y, hy, h1, h2⟩ := (h.mem (x.1 - 1) (by omega)).2 hn
  have hyx : y ≠ x := fun e => by subst e; omega
  obtain ⟨s, t, rfl⟩ := List.append_of_mem hx
  have hg := h.rise
  unfold Gaps at hg
  rw [List.pairwise_append] at hg
  rcases List.mem_append.1 hy with e | e
  · have := hg.2.2 y e x List.mem_cons_self; omega
  · rcases List.mem_cons.1 e with e | e
    · exact hyx e
    · have := (List.pairwise_cons.1 hg.2.1).1 y e; omega
theorem Fnd.behind {b : List By} {n : Nat} {l : List (Nat × Nat)} (h : Fnd b n l) (x : Nat × Nat) (hx : x ∈ l) (hp : x.2 < b.length) : InH b n x.2 := by
  have hx2 := h.each x hx
  refine Classical.byContradiction fun hn => ?_
  obtain ⟨y, hy, h1, h2⟩ := (h.mem x.2 hp).2 hn
  have hyx : y ≠ x := fun e => by subst e; omega
  obtain ⟨s, t, rfl⟩ := List.append_of_mem hx
  have hg := h.rise
  unfold Gaps at hg
  rw [List.pairwise_append] at hg
  rcases List.mem_append.1 hy with e | e
  · have := hg.2.2 y e x List.mem_cons_self; omega
  · rcases List.mem_cons.1 e with e | e
    · exact hyx e
    · have := (List.pairwise_cons.1 hg.2.1).1 y e; omega
theorem Fnd.inn {b : List By} {n : Nat} {l : List (Nat × Nat)} (h : Fnd b n l) (x : Nat × Nat) (hx : x ∈ l) (i : Nat) (h1 : x.1 ≤ i) (h2 : i < x.2) : ¬ InH b n i :=
  (h.mem i (by have := h.each x hx; omega)).1 ⟨x, hx, h1, h2⟩
theorem Fnd.first {b : List By} {n : Nat} {l : List (Nat × Nat)} (h : Fnd b n l) (x : Nat × Nat) (hx : x ∈ l) (hp : 0 < x.1) : b[x.1]? ≠ some 0#8 := by
  intro hz
  have hx2 := h.each x hx
  obtain ⟨p, q, a1, a2, a3, a4, a5⟩ := h.ahead x hx hp
  have hq : q ≤ x.1 := by
    rcases Nat.lt_or_ge x.1 q with e | e
    · exact absurd ⟨p, q, by omega, e, a3, a4, a5⟩ (h.inn x hx x.1 (Nat.le_refl _) hx2.1)
    · exact e
  exact h.inn x hx x.1 (Nat.le_refl _) hx2.1 ⟨p, x.1 + 1, by omega, by omega, by omega, by omega, fun j b1 b2 => by
    by_cases e : j = x.1
    · subst e; exact hz
    · exact a5 j b1 (by omega)⟩
theorem Fnd.last {b : List By} {n : Nat} {l : List (Nat × Nat)} (h : Fnd b n l) (x : Nat × Nat) (hx : x ∈ l) (hp : x.2 < b.length) : b[x.2 - 1]? ≠ some 0#8 := by
  intro hz
  have hx2 := h.each x hx
  obtain ⟨p, q, a1, a2, a3, a4, a5⟩ := h.behind x hx hp
  have hq : x.2 ≤ p := by
    rcases Nat.lt_or_ge p x.2 with e | e
    · exact absurd ⟨p, q, by omega, by omega, a3, a4, a5⟩ (h.inn x hx (x.2 - 1) (by omega) (by omega))
    · exact e
  exact h.inn x hx (x.2 - 1) (by omega) (by omega) ⟨x.2 - 1, q, Nat.le_refl _, by omega, a3, by omega, fun j b1 b2 => by
    by_cases e : j = x.2 - 1
    · subst e; exact hz
    · exact a5 j (by omega) b2⟩
/-- More zeros, fewer holes. -/
theorem Fnd.within {b : List By} {n m : Nat} {l k : List (Nat × Nat)} (h : Fnd b n l) (h2 : Fnd b m k) (hnm : n ≤ m) (x : Nat × Nat) (hx : x ∈ l) : ∃ y ∈ k, y.1 ≤ x.1 ∧ x.2 ≤ y.2 := by
  have hx2 := h.each x hx
  have hc : ∀ i, x.1 ≤ i → i < x.2 → Cov k i := fun i a1 a2 => (h2.mem i (by omega)).2 (fun hi => h.inn x hx i a1 a2 (hi.less hnm))
  obtain ⟨y, hy, e1, e2⟩ := hc x.1 (Nat.le_refl _) hx2.1
  refine ⟨y, hy, e1, ?_⟩
  rcases Nat.lt_or_ge y.2 x.2 with e | e
  · have hyb := h2.each y hy
    exact absurd (h2.behind y hy (by omega)) ((h2.mem y.2 (by omega)).1 (hc y.2 (by omega) e))
  · exact e
theorem Fnd.whole {b : List By} {n : Nat} {l : List (Nat × Nat)} (h : Fnd b n l) (hn : b.length < n) (hb : 0 < b.length) : l = [(0, b.length)] := by
  refine fnd_uniq h ⟨by simp [Gaps], fun x hx => ?_, fun i hi => ?_⟩
  · rw [List.mem_singleton] at hx; subst hx; exact ⟨hb, Nat.le_refl _⟩
  · constructor
    · rintro _ ⟨p, q, a1, a2, a3, a4, a5⟩; omega
    · intro _; exact ⟨(0, b.length), by simp, Nat.zero_le _, hi⟩
theorem Fnd.none {n : Nat} {l : List (Nat × Nat)} (h : Fnd [] n l) : l = [] := by
  cases l with
  | nil => rfl
  | cons x l => have := h.each x List.mem_cons_self; simp at this; omega
theorem Fnd.one {n : Nat} {l : List (Nat × Nat)} (h : Fnd [1#8] n l) : l = [(0, 1)] := by
  refine fnd_uniq h ⟨by simp [Gaps], fun x hx => ?_, fun i hi => ?_⟩
  · rw [List.mem_singleton] at hx; subst hx; exact ⟨Nat.zero_lt_one, Nat.le_refl _⟩
  · obtain rfl : i = 0 := by simp at hi; exact hi
    exact ⟨fun _ => nz_not (x := 1#8) rfl (by decide), fun _ => ⟨(0, 1), by simp, Nat.zero_le _, Nat.zero_lt_one⟩⟩
end Go.Proofs.YtffhpoilifgcdaaDoor

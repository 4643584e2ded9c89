import Derived.Test.YtffhpoilifgcdaaDoorVaa
namespace Go.Proofs.YtffhpoilifgcdaaDoor
set_option linter.unusedVariables false
/-! ### Holes and the ranges of what is none, pure -/
abbrev Rg := Int × Int
/-- A place lies in a hole of n zeros or more. -/
def InH (b : List By) (n i : Nat) : Prop := ∃ p q, p ≤ i ∧ i < q ∧ q ≤ b.length ∧ n ≤ q - p ∧ ∀ j, p ≤ j → j < q → b[j]? = some 0#8
def Cov (l : List (Nat × Nat)) (i : Nat) : Prop := ∃ x ∈ l, x.1 ≤ i ∧ i < x.2
def Gaps (l : List (Nat × Nat)) : Prop := l.Pairwise (fun x y => x.2 < y.1)
structure Fnd (b : List By) (n : Nat) (l : List (Nat × Nat)) : Prop where
  rise : Gaps l
  each : ∀ x ∈ l, x.1 < x.2 ∧ x.2 ≤ b.length
  mem : ∀ i, i < b.length → (Cov l i ↔ ¬ InH b n i)
theorem cov_nil (i : Nat) : ¬ Cov [] i := by rintro ⟨x, hx, _⟩; simp at hx
theorem cov_cons (x : Nat × Nat) (l : List (Nat × Nat)) (i : Nat) : Cov (x :: l) i ↔ (x.1 ≤ i ∧ i < x.2) ∨ Cov l i := by
  unfold Cov
  constructor
  · rintro ⟨y, hy, h⟩
    rcases List.mem_cons.1 hy with rfl | hy
    · exact .inl h
    · exact .inr ⟨y, hy, h⟩
  · rintro (h | ⟨y, hy, h⟩)
    · exact ⟨x, List.mem_cons_self, h⟩
    · exact ⟨y, List.mem_cons_of_mem _ hy, h⟩
theorem cov_snoc (l : List (Nat × Nat)) (x : Nat × Nat) (i : Nat) : Cov (l ++ [x]) i ↔ Cov l i ∨ (x.1 ≤ i ∧ i < x.2) := by
  unfold Cov
  constructor
  · rintro ⟨y, hy, h⟩
    rcases List.mem_append.1 hy with hy | hy
    · exact .inl ⟨y, hy, h⟩
    · rw [List.mem_singleton] at hy; subst hy; exact .inr h
  · rintro (⟨y, hy, h⟩ | h)
    · exact ⟨y, List.mem_append_left _ hy, h⟩
    · exact ⟨x, List.mem_append_right _ (List.mem_singleton_self _), h⟩
theorem gaps_snoc {l : List (Nat × Nat)} {x : Nat × Nat} (h : Gaps l) (hx : ∀ y ∈ l, y.2 < x.1) : Gaps (l ++ [x]) := by
  unfold Gaps
  rw [List.pairwise_append]
  exact ⟨h, by simp, fun a ha c hc => by rw [List.mem_singleton] at hc; subst hc; exact hx a ha⟩
/-- Places alone tell such ranges. -/
theorem gaps_uniq {l m : List (Nat × Nat)} (hl : Gaps l) (hm : Gaps m) (el : ∀ x ∈ l, x.1 < x.2) (em : ∀ x ∈ m, x.1 < x.2) (h : ∀ i, Cov l i ↔ Cov m i) : l = m := by
  induction l generalizing m with
  | nil =>
    cases m with
    | nil => rfl
    | cons y m => exact absurd ((h y.1).2 ((cov_cons y m y.1).2 (.inl ⟨Nat.le_refl _, em y List.mem_cons_self⟩))) (cov_nil _)
  | cons x l ih =>
    cases m with
    | nil => exact absurd ((h x.1).1 ((cov_cons x l x.1).2 (.inl ⟨Nat.le_refl _, el x List.mem_cons_self⟩))) (cov_nil _)
    | cons y m =>
      have hx := el x List.mem_cons_self
      have hy := em y List.mem_cons_self
      have gl := List.pairwise_cons.1 hl
      have gm := List.pairwise_cons.1 hm
      have bl : ∀ i, Cov l i → x.2 < i := fun i ⟨z, hz, h1, _⟩ => by have := gl.1 z hz; omega
      have bm : ∀ i, Cov m i → y.2 < i := fun i ⟨z, hz, h1, _⟩ => by have := gm.1 z hz; omega
      have f1 : y.1 ≤ x.1 := by
        rcases (cov_cons y m x.1).1 ((h x.1).1 ((cov_cons x l x.1).2 (.inl ⟨Nat.le_refl _, hx⟩))) with e | e
        · exact e.1
        · have := bm _ e; omega
      have f2 : x.1 ≤ y.1 := by
        rcases (cov_cons x l y.1).1 ((h y.1).2 ((cov_cons y m y.1).2 (.inl ⟨Nat.le_refl _, hy⟩))) with e | e
        · exact e.1
        · have := bl _ e; omega
      have t1 : ¬ x.2 < y.2 := fun hlt => by
        rcases (cov_cons x l x.2).1 ((h x.2).2 ((cov_cons y m x.2).2 (.inl ⟨by omega, hlt⟩))) with e | e
        · omega
        · have := bl _ e; omega
      have t2 : ¬ y.2 < x.2 := fun hlt => by
        rcases (cov_cons y m y.2).1 ((h y.2).1 ((cov_cons x l y.2).2 (.inl ⟨by omega, hlt⟩))) with e | e
        · omega
        · have := bm _ e; omega
      have exy : x = y := Prod.ext (by omega) (by omega)
      subst exy
      rw [ih gl.2 gm.2 (fun z hz => el z (List.mem_cons_of_mem _ hz)) (fun z hz => em z (List.mem_cons_of_mem _ hz)) (fun i => ?_)]
      constructor
      · intro hc
        rcases (cov_cons x m i).1 ((h i).1 ((cov_cons x l i).2 (.inr hc))) with e | e
        · have := bl _ hc; omega
        · exact e
      · intro hc
        rcases (cov_cons x l i).1 ((h i).2 ((cov_cons x m i).2 (.inr hc))) with e | e
        · have := bm _ hc; omega
        · exact e
theorem fnd_uniq {b : List By} {n : Nat} {l m : List (Nat × Nat)} (h : Fnd b n l) (k : Fnd b n m) : l = m :=
  gaps_uniq h.rise k.rise (fun x hx => (h.each x hx).1) (fun x hx => (k.each x hx).1) (fun i => by
    by_cases hi : i < b.length
    · exact (h.mem i hi).trans (k.mem i hi).symm
    · constructor
      · rintro ⟨x, hx, h1, h2⟩; have := (h.each x hx).2; omega
      · rintro ⟨x, hx, h1, h2⟩; have := (k.each x hx).2; omega)
/-! ### How Find goes -/
def cutS (l : List (Nat × Nat)) (d f t : Nat) : List (Nat × Nat) := if d < f then l ++ [(d, f)] else l
/-- Behind a run of zeros that was told. -/
structure TI (b : List By) (n t : Nat) (l : List (Nat × Nat)) (d : Nat) : Prop where
  tb : t ≤ b.length
  dt : d ≤ t
  rise : Gaps l
  each : ∀ x ∈ l, x.1 < x.2 ∧ x.2 < d
  mem : ∀ j, j < d → (Cov l j ↔ ¬ InH b n j)
  data : ∀ j, d ≤ j → j < t → ¬ InH b n j
/-- Ahead of the byte at i; the zeros began at f. -/
structure FI (b : List By) (n i : Nat) (l : List (Nat × Nat)) (d f : Nat) : Prop where
  ib : i ≤ b.length
  fi : f ≤ i
  ti : TI b n f l d
  z : ∀ j, f ≤ j → j < i → b[j]? = some 0#8
  bnd : f = 0 ∨ ∃ x, b[f - 1]? = some x ∧ x ≠ 0#8
theorem FI.start (b : List By) (n : Nat) : FI b n 0 [] 0 0 := ⟨Nat.zero_le _, Nat.le_refl _, ⟨Nat.zero_le _, Nat.le_refl _, List.Pairwise.nil, by simp, fun j hj => by omega, fun j h1 h2 => by omega⟩, fun j h1 h2 => by omega, .inl rfl⟩
theorem FI.zero {b : List By} {n i : Nat} {l : List (Nat × Nat)} {d f : Nat} (h : FI b n i l d f) (hi : i < b.length) (hz : b[i] = 0#8) : FI b n (i + 1) l d f :=
  ⟨by omega, by have := h.fi; omega, h.ti, fun j h1 h2 => by
    by_cases e : j = i
    · subst e; rw [List.getElem?_eq_getElem hi, hz]
    · exact h.z j h1 (by omega), h.bnd⟩
theorem nz_not {b : List By} {n j : Nat} {x : By} (hx : b[j]? = some x) (h0 : x ≠ 0#8) : ¬ InH b n j := by
  rintro ⟨p, q, h1, h2, _, _, hz⟩
  have := hz j h1 h2
  rw [hx] at this
  injection this with e
  exact h0 e
theorem TI.next {b : List By} {n i : Nat} {l : List (Nat × Nat)} {d : Nat} (h : TI b n i l d) (hi : i < b.length) (hz : b[i] ≠ 0#8) : FI b n (i + 1) l d (i + 1) :=
  ⟨by omega, Nat.le_refl _, ⟨by omega, by have := h.dt; omega, h.rise, h.each, h.mem, fun j h1 h2 => by
    by_cases e : j = i
    · subst e; exact nz_not (List.getElem?_eq_getElem hi) hz
    · exact h.data j h1 (by omega)⟩, fun j h1 h2 => by omega, .inr ⟨b[i], by simp [List.getElem?_eq_getElem hi], hz⟩⟩
/-- A short run of zeros. -/
theorem FI.short {b : List By} {n i : Nat} {l : List (Nat × Nat)} {d f : Nat} (h : FI b n i l d f) (he : i = b.length ∨ ∃ x, b[i]? = some x ∧ x ≠ 0#8) (hn : ¬ n ≤ i - f) : TI b n i l d := by
  refine ⟨h.ib, by have := h.fi; have := h.ti.dt; omega, h.ti.rise, h.ti.each, h.ti.mem, fun j h1 h2 => ?_⟩
  by_cases hj : j < f
  · exact h.ti.data j h1 hj
  · rintro ⟨p, q, a1, a2, a3, a4, a5⟩
    have hp : f ≤ p := by
      rcases Nat.lt_or_ge p f with e | e
      · rcases h.bnd with e2 | ⟨x, e2, e3⟩
        · omega
        · have := a5 (f - 1) (by omega) (by omega)
          rw [e2] at this
          injection this with e4
          exact absurd e4 e3
      · exact e
    have hq : q ≤ i := by
      rcases Nat.lt_or_ge i q with e | e
      · rcases he with e2 | ⟨x, e2, e3⟩
        · omega
        · have := a5 i (by omega) e
          rw [e2] at this
          injection this with e4
          exact absurd e4 e3
      · exact e
    omega
/-- A hole. -/
theorem FI.long {b : List By} {n i : Nat} {l : List (Nat × Nat)} {d f : Nat} (h : FI b n i l d f) (h1 : 1 ≤ n) (hn : n ≤ i - f) : TI b n i (cutS l d f i) i := by
  have hfi := h.fi
  have hdt := h.ti.dt
  have hin : ∀ j, f ≤ j → j < i → InH b n j := fun j a1 a2 => ⟨f, i, a1, a2, h.ib, hn, h.z⟩
  unfold cutS
  by_cases hd : d < f
  · rw [if_pos hd]
    refine ⟨h.ib, Nat.le_refl _, gaps_snoc h.ti.rise (fun y hy => (h.ti.each y hy).2), fun x hx => ?_, fun j hj => ?_, fun j a1 a2 => by omega⟩
    · rcases List.mem_append.1 hx with e | e
      · have := h.ti.each x e; omega
      · rw [List.mem_singleton] at e; subst e; exact ⟨hd, by show f < i; omega⟩
    · rw [cov_snoc]
      by_cases j1 : j < d
      · rw [← h.ti.mem j j1]
        constructor
        · rintro (e | e)
          · exact e
          · have : d ≤ j := e.1; omega
        · exact .inl
      · by_cases j2 : j < f
        · exact ⟨fun _ => h.ti.data j (by omega) j2, fun _ => .inr ⟨by show d ≤ j; omega, j2⟩⟩
        · constructor
          · rintro (⟨x, hx, e1, e2⟩ | e)
            · have := h.ti.each x hx; omega
            · have : j < f := e.2; omega
          · intro e; exact absurd (hin j (by omega) hj) e
  · rw [if_neg hd]
    have : d = f := by omega
    subst this
    refine ⟨h.ib, Nat.le_refl _, h.ti.rise, fun x hx => ?_, fun j hj => ?_, fun j a1 a2 => by omega⟩
    · have := h.ti.each x hx; omega
    · by_cases j1 : j < d
      · exact h.ti.mem j j1
      · constructor
        · rintro ⟨x, hx, e1, e2⟩
          have := h.ti.each x hx; omega
        · intro e; exact absurd (hin j (by omega) hj) e
theorem TI.fin {b : List By} {n : Nat} {l : List (Nat × Nat)} {d : Nat} (h : TI b n b.length l d) : Fnd b n (cutS l d b.length b.length) := by
  unfold cutS
  by_cases hd : d < b.length
  · rw [if_pos hd]
    refine ⟨gaps_snoc h.rise (fun y hy => (h.each y hy).2), fun x hx => ?_, fun i hi => ?_⟩
    · rcases List.mem_append.1 hx with e | e
      · have := h.each x e; omega
      · rw [List.mem_singleton] at e; subst e; exact ⟨hd, Nat.le_refl _⟩
    · rw [cov_snoc]
      by_cases j1 : i < d
      · rw [← h.mem i j1]
        constructor
        · rintro (e | e)
          · exact e
          · have : d ≤ i := e.1; omega
        · exact .inl
      · exact ⟨fun _ => h.data i (by omega) hi, fun _ => .inr ⟨by show d ≤ i; omega, hi⟩⟩
  · rw [if_neg hd]
    have := h.dt
    obtain rfl : d = b.length := by omega
    exact ⟨h.rise, fun x hx => by have := h.each x hx; omega, h.mem⟩
/-! ### What it comes to -/
theorem InH.zero {b : List By} {n i : Nat} (h : InH b n i) : b[i]? = some 0#8 := by
  obtain ⟨p, q, h1, h2, _, _, hz⟩ := h
  exact hz i h1 h2
theorem InH.less {b : List By} {n m i : Nat} (h : InH b n i) (hm : m ≤ n) : InH b m i := by
  obtain ⟨p, q, h1, h2, h3, h4, h5⟩ := h
  exact ⟨p, q, h1, h2, h3, by omega, h5⟩
/-- Ahead of a range, and at its end, stands none. -/
theorem Fnd.ahead {b : List By} {n : Nat} {l : List (Nat × Nat)} (h : Fnd b n l) (x : Nat × Nat) (hx : x ∈ l) (hp : 0 < x.1) : InH b n (x.1 - 1) := by
  have hx2 := h.each x hx
  refine Classical.byContradiction fun hn => ?_
  obtain ⟨y, hy, h1, h2⟩ := (h.mem (x.1 - 1) (by omega)).2 hn
  have hyx : y ≠ x := fun e => by subst e; omega
  obtain ⟨s, t, rfl⟩ := List.append_of_mem hx
  have hg := h.rise
  unfold Gaps at hg
  rw [List.pairwise_append] at hg
  rcases List.mem_append.1 hy with e | e
  · have := hg.2.2 y e x List.mem_cons_self; omega
  · rcases List.mem_cons.1 e with e | e
    · exact hyx e
    · have := (List.pairwise_cons.1 hg.2.1).1 y e; omega
theorem Fnd.behind {b : List By} {n : Nat} {l : List (Nat × Nat)} (h : Fnd b n l) (x : Nat × Nat) (hx : x ∈ l) (hp : x.2 < b.length) : InH b n x.2 := by
  have hx2 := h.each x hx
  refine Classical.byContradiction fun hn => ?_
  obtain ⟨y, hy, h1, h2⟩ := (h.mem x.2 hp).2 hn
  have hyx : y ≠ x := fun e => by subst e; omega
  obtain ⟨s, t, rfl⟩ := List.append_of_mem hx
  have hg := h.rise
  unfold Gaps at hg
  rw [List.pairwise_append] at hg
  rcases List.mem_append.1 hy with e | e
  · have := hg.2.2 y e x List.mem_cons_self; omega
  · rcases List.mem_cons.1 e with e | e
    · exact hyx e
    · have := (List.pairwise_cons.1 hg.2.1).1 y e; omega
theorem Fnd.inn {b : List By} {n : Nat} {l : List (Nat × Nat)} (h : Fnd b n l) (x : Nat × Nat) (hx : x ∈ l) (i : Nat) (h1 : x.1 ≤ i) (h2 : i < x.2) : ¬ InH b n i :=
  (h.mem i (by have := h.each x hx; omega)).1 ⟨x, hx, h1, h2⟩
theorem Fnd.first {b : List By} {n : Nat} {l : List (Nat × Nat)} (h : Fnd b n l) (x : Nat × Nat) (hx : x ∈ l) (hp : 0 < x.1) : b[x.1]? ≠ some 0#8 := by
  intro hz
  have hx2 := h.each x hx
  obtain ⟨p, q, a1, a2, a3, a4, a5⟩ := h.ahead x hx hp
  have hq : q ≤ x.1 := by
    rcases Nat.lt_or_ge x.1 q with e | e
    · exact absurd ⟨p, q, by omega, e, a3, a4, a5⟩ (h.inn x hx x.1 (Nat.le_refl _) hx2.1)
    · exact e
  exact h.inn x hx x.1 (Nat.le_refl _) hx2.1 ⟨p, x.1 + 1, by omega, by omega, by omega, by omega, fun j b1 b2 => by
    by_cases e : j = x.1
    · subst e; exact hz
    · exact a5 j b1 (by omega)⟩
theorem Fnd.last {b : List By} {n : Nat} {l : List (Nat × Nat)} (h : Fnd b n l) (x : Nat × Nat) (hx : x ∈ l) (hp : x.2 < b.length) : b[x.2 - 1]? ≠ some 0#8 := by
  intro hz
  have hx2 := h.each x hx
  obtain ⟨p, q, a1, a2, a3, a4, a5⟩ := h.behind x hx hp
  have hq : x.2 ≤ p := by
    rcases Nat.lt_or_ge p x.2 with e | e
    · exact absurd ⟨p, q, by omega, by omega, a3, a4, a5⟩ (h.inn x hx (x.2 - 1) (by omega) (by omega))
    · exact e
  exact h.inn x hx (x.2 - 1) (by omega) (by omega) ⟨x.2 - 1, q, Nat.le_refl _, by omega, a3, by omega, fun j b1 b2 => by
    by_cases e : j = x.2 - 1
    · subst e; exact hz
    · exact a5 j (by omega) b2⟩
/-- More zeros, fewer holes. -/
theorem Fnd.within {b : List By} {n m : Nat} {l k : List (Nat × Nat)} (h : Fnd b n l) (h2 : Fnd b m k) (hnm : n ≤ m) (x : Nat × Nat) (hx : x ∈ l) : ∃ y ∈ k, y.1 ≤ x.1 ∧ x.2 ≤ y.2 := by
  have hx2 := h.each x hx
  have hc : ∀ i, x.1 ≤ i → i < x.2 → Cov k i := fun i a1 a2 => (h2.mem i (by omega)).2 (fun hi => h.inn x hx i a1 a2 (hi.less hnm))
  obtain ⟨y, hy, e1, e2⟩ := hc x.1 (Nat.le_refl _) hx2.1
  refine ⟨y, hy, e1, ?_⟩
  rcases Nat.lt_or_ge y.2 x.2 with e | e
  · have hyb := h2.each y hy
    exact absurd (h2.behind y hy (by omega)) ((h2.mem y.2 (by omega)).1 (hc y.2 (by omega) e))
  · exact e
theorem Fnd.whole {b : List By} {n : Nat} {l : List (Nat × Nat)} (h : Fnd b n l) (hn : b.length < n) (hb : 0 < b.length) : l = [(0, b.length)] := by
  refine fnd_uniq h ⟨by simp [Gaps], fun x hx => ?_, fun i hi => ?_⟩
  · rw [List.mem_singleton] at hx; subst hx; exact ⟨hb, Nat.le_refl _⟩
  · constructor
    · rintro _ ⟨p, q, a1, a2, a3, a4, a5⟩; omega
    · intro _; exact ⟨(0, b.length), by simp, Nat.zero_le _, hi⟩
theorem Fnd.none {n : Nat} {l : List (Nat × Nat)} (h : Fnd [] n l) : l = [] := by
  cases l with
  | nil => rfl
  | cons x l => have := h.each x List.mem_cons_self; simp at this; omega
theorem Fnd.one {n : Nat} {l : List (Nat × Nat)} (h : Fnd [1#8] n l) : l = [(0, 1)] := by
  refine fnd_uniq h ⟨by simp [Gaps], fun x hx => ?_, fun i hi => ?_⟩
  · rw [List.mem_singleton] at hx; subst hx; exact ⟨Nat.zero_lt_one, Nat.le_refl _⟩
  · obtain rfl : i = 0 := by simp at hi; exact hi
    exact ⟨fun _ => nz_not (x := 1#8) rfl (by decide), fun _ => ⟨(0, 1), by simp, Nat.zero_le _, Nat.zero_lt_one⟩⟩
end Go.Proofs.YtffhpoilifgcdaaDoor

namespace Go.Proofs.YtffhpoilifgcdaaDoor
set_option linter.unusedVariables false
/-! ### Valid, Join, Spread, pure -/
def vlE (s : Int) : Int → List Rg → Bool
  | _, [] => true
  | e, x :: l => decide (e ≤ x.1) && (decide (x.1 ≤ x.2) && (decide (x.2 ≤ s) && vlE s x.2 l))
def vld (l : List Rg) (s : Int) : Bool := decide (0 ≤ s) && (decide (l.length ≤ 65536) && vlE s 0 l)
theorem vlE_cons {s e : Int} {x : Rg} {l : List Rg} : vlE s e (x :: l) = true ↔ e ≤ x.1 ∧ x.1 ≤ x.2 ∧ x.2 ≤ s ∧ vlE s x.2 l = true := by
  rw [vlE, Bool.and_eq_true, Bool.and_eq_true, Bool.and_eq_true, decide_eq_true_iff, decide_eq_true_iff, decide_eq_true_iff]
theorem vlE_bad {s e : Int} {x : Rg} {l : List Rg} (h : ¬ (e ≤ x.1 ∧ x.1 ≤ x.2 ∧ x.2 ≤ s)) : vlE s e (x :: l) = false := by
  cases hv : vlE s e (x :: l) with
  | false => rfl
  | true => have := vlE_cons.1 hv; exact absurd ⟨this.1, this.2.1, this.2.2.1⟩ h
theorem vlE_step {s e : Int} {x : Rg} {l : List Rg} (h1 : e ≤ x.1) (h2 : x.1 ≤ x.2) (h3 : x.2 ≤ s) : vlE s e (x :: l) = vlE s x.2 l := by
  rw [vlE, decide_eq_true h1, decide_eq_true h2, decide_eq_true h3, Bool.true_and, Bool.true_and, Bool.true_and]
theorem vld_iff {l : List Rg} {s : Int} : vld l s = true ↔ 0 ≤ s ∧ l.length ≤ 65536 ∧ vlE s 0 l = true := by
  rw [vld, Bool.and_eq_true, Bool.and_eq_true, decide_eq_true_iff, decide_eq_true_iff]
theorem vld_neg {l : List Rg} {s : Int} (h : ¬ 0 ≤ s) : vld l s = false := by rw [vld, decide_eq_false h]; rfl
theorem vld_long {l : List Rg} {s : Int} (h : ¬ l.length ≤ 65536) : vld l s = false := by rw [vld, decide_eq_false h, Bool.false_and, Bool.and_false]
theorem vld_else {l : List Rg} {s : Int} (h1 : 0 ≤ s) (h2 : l.length ≤ 65536) : vld l s = vlE s 0 l := by rw [vld, decide_eq_true h1, decide_eq_true h2]; rfl
/-- Every range of such a map lies within. -/
theorem vlE_all {s e : Int} {l : List Rg} (h : vlE s e l = true) (he : 0 ≤ e) : ∀ x ∈ l, 0 ≤ x.1 ∧ e ≤ x.1 ∧ x.1 ≤ x.2 ∧ x.2 ≤ s := by
  induction l generalizing e with
  | nil => simp
  | cons y l ih =>
    obtain ⟨h1, h2, h3, h4⟩ := vlE_cons.1 h
    intro x hx
    rcases List.mem_cons.1 hx with rfl | hx
    · exact ⟨by omega, h1, h2, h3⟩
    · have := ih h4 (by omega) x hx
      exact ⟨this.1, by omega, this.2.2⟩
theorem vlE_drop {s e : Int} {l : List Rg} (h : vlE s e l = true) (he : 0 ≤ e) (i : Nat) : ∃ e', 0 ≤ e' ∧ vlE s e' (l.drop i) = true := by
  induction i generalizing l e with
  | zero => exact ⟨e, he, h⟩
  | succ i ih =>
    cases l with
    | nil => exact ⟨0, by omega, rfl⟩
    | cons y l =>
      obtain ⟨h1, h2, h3, h4⟩ := vlE_cons.1 h
      exact ih h4 (by omega)
def hld (l : List Rg) : Int := (l.map (fun x => x.2 - x.1)).sum
theorem hld_nil : hld [] = 0 := rfl
theorem hld_cons (x : Rg) (l : List Rg) : hld (x :: l) = (x.2 - x.1) + hld l := by simp [hld]
theorem hld_snoc (l : List Rg) (x : Rg) : hld (l ++ [x]) = hld l + (x.2 - x.1) := by simp [hld]
theorem hld_app (l m : List Rg) : hld (l ++ m) = hld l + hld m := by simp [hld]
theorem hld_le {s e : Int} {l : List Rg} (h : vlE s e l = true) (he : e ≤ s) : 0 ≤ hld l ∧ hld l ≤ s - e := by
  induction l generalizing e with
  | nil => rw [hld_nil]; omega
  | cons x l ih =>
    obtain ⟨h1, h2, h3, h4⟩ := vlE_cons.1 h
    have := ih h4 h3
    rw [hld_cons]; omega
theorem hld_part {s : Int} {l : List Rg} (h : vlE s 0 l = true) (hs : 0 ≤ s) (i : Nat) : 0 ≤ hld (l.take i) ∧ hld (l.take i) ≤ hld l ∧ hld l ≤ s := by
  obtain ⟨e', h1, h2⟩ := vlE_drop h (Int.le_refl _) i
  have a := hld_le h hs
  have b : hld l = hld (l.take i) + hld (l.drop i) := by rw [← hld_app, List.take_append_drop]
  have hnn : ∀ m : List Rg, (∀ x ∈ m, x.1 ≤ x.2) → 0 ≤ hld m := fun m => by
    induction m with
    | nil => intro _; rw [hld_nil]; omega
    | cons x m ih =>
      intro hm
      have := ih (fun y hy => hm y (List.mem_cons_of_mem _ hy))
      have := hm x List.mem_cons_self
      rw [hld_cons]; omega
  have hall := vlE_all h (Int.le_refl _)
  have c := hnn (l.take i) (fun x hx => (hall x (List.mem_of_mem_take hx)).2.2.1)
  have d := hnn (l.drop i) (fun x hx => (hall x (List.mem_of_mem_drop hx)).2.2.1)
  omega
/-- A range's bytes. -/
def pc (b : List By) (x : Rg) : List By := (b.drop x.1.toNat).take (x.2.toNat - x.1.toNat)
theorem pc_len (b : List By) (x : Rg) (h0 : 0 ≤ x.1) (h1 : x.1 ≤ x.2) (h2 : x.2 ≤ b.length) : ((pc b x).length : Int) = x.2 - x.1 := by
  unfold pc
  rw [List.length_take, List.length_drop]
  omega
def jn (b : List By) (l : List Rg) : List By := (l.map (pc b)).flatten
theorem jn_nil (b : List By) : jn b [] = [] := rfl
theorem jn_cons (b : List By) (x : Rg) (l : List Rg) : jn b (x :: l) = pc b x ++ jn b l := by simp [jn]
theorem jn_snoc (b : List By) (l : List Rg) (x : Rg) : jn b (l ++ [x]) = jn b l ++ pc b x := by simp [jn]
theorem jn_len (b : List By) (l : List Rg) (h : ∀ x ∈ l, 0 ≤ x.1 ∧ x.1 ≤ x.2 ∧ x.2 ≤ b.length) : ((jn b l).length : Int) = hld l := by
  induction l with
  | nil => rfl
  | cons x l ih =>
    have hx := h x List.mem_cons_self
    have := pc_len b x hx.1 hx.2.1 hx.2.2
    rw [jn_cons, hld_cons, List.length_append, Int.natCast_add, ih (fun y hy => h y (List.mem_cons_of_mem _ hy))]
    omega
/-- Bytes laid over others from f on. -/
def lay (o : List By) (f : Nat) (d : List By) : List By := o.take f ++ d ++ o.drop (f + d.length)
theorem lay_len (o : List By) (f : Nat) (d : List By) (h : f + d.length ≤ o.length) : (lay o f d).length = o.length := by
  unfold lay
  simp only [List.length_append, List.length_take, List.length_drop]
  omega
theorem lay_at (o : List By) (f : Nat) (d : List By) (h : f + d.length ≤ o.length) (j : Nat) : (lay o f d)[j]? = if f ≤ j ∧ j < f + d.length then d[j - f]? else o[j]? := by
  unfold lay
  by_cases h1 : j < f
  · rw [if_neg (by omega), List.append_assoc, List.getElem?_append_left (by rw [List.length_take]; omega), List.getElem?_take, if_pos h1]
  · by_cases h2 : j < f + d.length
    · rw [if_pos ⟨by omega, h2⟩, List.getElem?_append_left (by rw [List.length_append, List.length_take]; omega), List.getElem?_append_right (by rw [List.length_take]; omega), List.length_take, Nat.min_eq_left (by omega)]
    · rw [if_neg (by omega), List.getElem?_append_right (by rw [List.length_append, List.length_take]; omega), List.getElem?_drop, List.length_append, List.length_take, Nat.min_eq_left (by omega)]
      congr 1
      omega
def spr : List By → List By → List Rg → List By
  | o, _, [] => o
  | o, d, x :: l => spr (lay o x.1.toNat (d.take (x.2 - x.1).toNat)) (d.drop (x.2 - x.1).toNat) l
/-- What Spread answers, of a map that can be and as many bytes as it has. -/
def sprd (d : List By) (l : List Rg) (s : Int) : List By := spr (List.replicate s.toNat 0#8) d l
def okS (d : List By) (l : List Rg) (s : Int) : Bool := decide (s ≤ 4194304) && (vld l s && decide (hld l = d.length))
theorem spr_snoc (o d : List By) (l : List Rg) (x : Rg) : spr o d (l ++ [x]) = lay (spr o d l) x.1.toNat ((d.drop (l.map (fun y => (y.2 - y.1).toNat)).sum).take (x.2 - x.1).toNat) := by
  induction l generalizing o d with
  | nil => simp [spr]
  | cons y l ih =>
    rw [List.cons_append, spr, ih, spr]
    simp [List.drop_drop]
theorem sumN_hld (l : List Rg) (h : ∀ x ∈ l, x.1 ≤ x.2) : (((l.map (fun y => (y.2 - y.1).toNat)).sum : Nat) : Int) = hld l := by
  induction l with
  | nil => rfl
  | cons x l ih =>
    have hx := h x List.mem_cons_self
    rw [List.map_cons, List.sum_cons, hld_cons, Int.natCast_add, ih (fun y hy => h y (List.mem_cons_of_mem _ hy))]
    omega
theorem spr_len (o d : List By) (l : List Rg) (h : ∀ x ∈ l, 0 ≤ x.1 ∧ x.1 ≤ x.2 ∧ x.2 ≤ o.length) : (spr o d l).length = o.length := by
  induction l generalizing o d with
  | nil => rfl
  | cons x l ih =>
    have hx := h x List.mem_cons_self
    have hl : (lay o x.1.toNat (d.take (x.2 - x.1).toNat)).length = o.length := lay_len _ _ _ (by rw [List.length_take]; omega)
    rw [spr, ih _ _ (fun y hy => by rw [hl]; exact h y (List.mem_cons_of_mem _ hy)), hl]
/-! ### There and back -/
def rgL (l : List (Nat × Nat)) : List Rg := l.map (fun x => ((x.1 : Int), (x.2 : Int)))
theorem rgL_len (l : List (Nat × Nat)) : (rgL l).length = l.length := by simp [rgL]
theorem rgL_snoc (l : List (Nat × Nat)) (x : Nat × Nat) : rgL (l ++ [x]) = rgL l ++ [((x.1 : Int), (x.2 : Int))] := by simp [rgL]
theorem rgL_at (l : List (Nat × Nat)) (i : Nat) (h : i < l.length) : (rgL l)[i]? = some ((l[i].1 : Int), (l[i].2 : Int)) := by simp [rgL, h]
open Classical in
theorem spr_jn (b : List By) (l : List (Nat × Nat)) (o : List By) (ho : o.length = b.length) (h : ∀ x ∈ l, x.1 ≤ x.2 ∧ x.2 ≤ b.length) (j : Nat) : (spr o (jn b (rgL l)) (rgL l))[j]? = if Cov l j then b[j]? else o[j]? := by
  induction l generalizing o with
  | nil => rw [if_neg (cov_nil j)]; rfl
  | cons x l ih =>
    have hx := h x List.mem_cons_self
    have hp : (pc b ((x.1 : Int), (x.2 : Int))).length = x.2 - x.1 := by
      have := pc_len b ((x.1 : Int), (x.2 : Int)) (by show (0 : Int) ≤ (x.1 : Int); omega) (by show (x.1 : Int) ≤ (x.2 : Int); omega) (by show (x.2 : Int) ≤ _; omega)
      simp only at this
      omega
    have e1 : rgL (x :: l) = ((x.1 : Int), (x.2 : Int)) :: rgL l := rfl
    have e2 : ((x.2 : Int) - (x.1 : Int)).toNat = x.2 - x.1 := by omega
    rw [e1, jn_cons, spr]
    simp only [e2, Int.toNat_natCast]
    rw [List.take_left' hp, List.drop_left' hp]
    have hl : (lay o x.1 (pc b ((x.1 : Int), (x.2 : Int)))).length = b.length := by rw [lay_len _ _ _ (by rw [hp]; omega), ho]
    rw [ih _ hl (fun y hy => h y (List.mem_cons_of_mem _ hy)), lay_at o x.1 (pc b ((x.1 : Int), (x.2 : Int))) (by rw [hp]; omega), hp]
    by_cases hc : Cov l j
    · rw [if_pos hc, if_pos ((cov_cons x l j).2 (.inr hc))]
    · rw [if_neg hc]
      by_cases hj : x.1 ≤ j ∧ j < x.2
      · rw [if_pos (by omega), if_pos ((cov_cons x l j).2 (.inl hj))]
        unfold pc
        rw [List.getElem?_take]
        simp only [Int.toNat_natCast]
        rw [if_pos (by omega), List.getElem?_drop]
        congr 1
        omega
      · rw [if_neg (by omega), if_neg (fun e => by rcases (cov_cons x l j).1 e with e | e; exact hj e; exact hc e)]
theorem Fnd.round {b : List By} {n : Nat} {l : List (Nat × Nat)} (h : Fnd b n l) : sprd (jn b (rgL l)) (rgL l) b.length = b := by
  apply List.ext_getElem?
  intro j
  unfold sprd
  rw [spr_jn b l _ (by rw [List.length_replicate]; omega) (fun x hx => ⟨Nat.le_of_lt (h.each x hx).1, (h.each x hx).2⟩)]
  by_cases hc : Cov l j
  · rw [if_pos hc]
  · rw [if_neg hc]
    by_cases hj : j < b.length
    · have : InH b n j := Classical.byContradiction fun hn => hc ((h.mem j hj).2 hn)
      rw [this.zero, List.getElem?_replicate, if_pos (by omega)]
    · rw [List.getElem?_eq_none (by rw [List.length_replicate]; omega), List.getElem?_eq_none (by omega)]
theorem gaps_vlE (s : Nat) (e : Nat) (l : List (Nat × Nat)) (hg : Gaps l) (h : ∀ x ∈ l, e ≤ x.1 ∧ x.1 ≤ x.2 ∧ x.2 ≤ s) : vlE s e (rgL l) = true := by
  induction l generalizing e with
  | nil => rfl
  | cons x l ih =>
    have hx := h x List.mem_cons_self
    have gl := List.pairwise_cons.1 hg
    have e1 : rgL (x :: l) = ((x.1 : Int), (x.2 : Int)) :: rgL l := rfl
    rw [e1]
    refine vlE_cons.2 ⟨by show (e : Int) ≤ (x.1 : Int); omega, by show (x.1 : Int) ≤ (x.2 : Int); omega, by show (x.2 : Int) ≤ (s : Int); omega, ?_⟩
    exact ih x.2 gl.2 (fun y hy => by have := gl.1 y hy; have := h y (List.mem_cons_of_mem _ hy); omega)
theorem Fnd.vlE {b : List By} {n : Nat} {l : List (Nat × Nat)} (h : Fnd b n l) : _root_.Go.Proofs.YtffhpoilifgcdaaDoor.vlE b.length 0 (rgL l) = true := gaps_vlE b.length 0 l h.rise (fun x hx => by have := h.each x hx; omega)
theorem Fnd.vld {b : List By} {n : Nat} {l : List (Nat × Nat)} (h : Fnd b n l) : _root_.Go.Proofs.YtffhpoilifgcdaaDoor.vld (rgL l) b.length = decide (l.length ≤ 65536) := by
  by_cases hl : l.length ≤ 65536
  · rw [vld_else (by omega) (by rw [rgL_len]; exact hl), decide_eq_true hl]
    exact h.vlE
  · rw [vld_long (by rw [rgL_len]; exact hl), decide_eq_false hl]
theorem Fnd.hldj {b : List By} {n : Nat} {l : List (Nat × Nat)} (h : Fnd b n l) : hld (rgL l) = (jn b (rgL l)).length := by
  rw [jn_len b (rgL l) (fun x hx => by
    have := vlE_all h.vlE (Int.le_refl _) x hx
    exact ⟨this.1, this.2.2.1, this.2.2.2⟩)]
theorem Fnd.okS {b : List By} {n : Nat} {l : List (Nat × Nat)} (h : Fnd b n l) (h1 : l.length ≤ 65536) (h2 : b.length ≤ 4194304) : _root_.Go.Proofs.YtffhpoilifgcdaaDoor.okS (jn b (rgL l)) (rgL l) b.length = true := by
  unfold _root_.Go.Proofs.YtffhpoilifgcdaaDoor.okS
  rw [h.vld, decide_eq_true h1, decide_eq_true (by omega), decide_eq_true h.hldj]
  rfl
end Go.Proofs.YtffhpoilifgcdaaDoor

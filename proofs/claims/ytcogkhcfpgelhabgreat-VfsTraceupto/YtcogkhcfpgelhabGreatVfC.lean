import Derived.Test.YtcogkhcfpgelhabGreatVfB
namespace Go.Proofs.YtcogkhcfpgelhabGreat
open Go.RowKit
set_option linter.unusedVariables false
set_option maxRecDepth 100000
/-! ### Blocks are told apart by what they are -/
def tg (w : World) (k : Nat) : Option Nat := match w.heap[k]? with
  | some (.cells _ T _) => some T
  | _ => none
theorem tg_cells {w : World} {k T : Nat} {cs : Array Value} (h : w.heap[k]? = some (.cells cs T)) : tg w k = some T := by
  unfold tg; rw [h]
theorem Mp.tg {κ ν : Type} {M : MT κ ν} {b : Nat} {m : κ → Option ν} {n : Nat} {w : World} (h : Mp M b m n w) : tg w b = none := by
  obtain ⟨es, c, e⟩ := h.isMap
  unfold Go.Proofs.YtcogkhcfpgelhabGreat.tg; rw [e]
theorem OgB.tg {g : Nat} {v : Value} {l : List By} {w : World} (h : OgB (some g) v l w) : tg w g = some 5 := by
  obtain ⟨cs, e⟩ := Ow.isBytes h
  exact tg_cells e
theorem OgR.tg {α : Type} {R : RT α} {g : Nat} {v : Value} {l : List α} {w : World} (h : OgR R (some g) v l w) : tg w g = some R.T := by
  obtain ⟨xs, h1, h2, h3, h4, h5⟩ := (h : OwR R g v l w)
  exact tg_cells h5
variable {fb mb : Nat} {ot : Option Nat} {L : Int → Lay} {h : Hx} {q : Int → Option Pn} {cnt : Nat} {T : List Ac} {w w' : World} {X : Nat → Prop}
theorem FsH.tfb (H : FsH fb mb ot L h q cnt T w) : tg w fb = some 82 := by
  obtain ⟨tv, h1, h2⟩ := H.blk
  exact tg_cells h1
theorem FsH.tmb (H : FsH fb mb ot L h q cnt T w) : tg w mb = none := H.mp.tg
theorem FsH.tot (H : FsH fb mb ot L h q cnt T w) (g : Nat) (hg : ot = some g) : tg w g = some 51 := by
  obtain ⟨tv, h1, h2⟩ := H.blk
  subst hg
  exact h2.tg
theorem FsH.tib (H : FsH fb mb ot L h q cnt T w) {k : Int} {p : Pn} (hp : q k = some p) : tg w (L k).ib = some 91 := by
  obtain ⟨dv, ev, k1, k2, k3, k4⟩ := (H.nd k p hp).blk
  exact tg_cells k1
theorem FsH.teb (H : FsH fb mb ot L h q cnt T w) {k : Int} {p : Pn} (hp : q k = some p) (hk : p.kind = 1) : tg w (L k).eb = none := by
  obtain ⟨dv, ev, k1, k2, k3, k4⟩ := (H.nd k p hp).blk
  exact (k3 hk).2.tg
theorem FsH.tod (H : FsH fb mb ot L h q cnt T w) {k : Int} {p : Pn} (hp : q k = some p) (g : Nat) (hg : (L k).od = some g) : tg w g = some 5 := by
  obtain ⟨dv, ev, k1, k2, k3, k4⟩ := (H.nd k p hp).blk
  rw [hg] at k2
  exact k2.tg
theorem ntg {w : World} {a b : Nat} {s t : Option Nat} (ha : tg w a = s) (hb : tg w b = t) (hst : s ≠ t) : a ≠ b := fun e => hst (by rw [← ha, ← hb, e])
/-- One inode turned; its data may lie anew. -/
theorem FsH.turn (H : FsH fb mb ot L h q cnt T w) {n : Int} {p p' : Pn} (hp : q n = some p) (hk : p'.kind = p.kind) {od' : Option Nat} (ho : ∀ g, od' = some g → (L n).od = some g ∨ w.heap.size ≤ g) (f : Fr X w w') (hX : ∀ k, X k → k = (L n).ib ∨ p.kind = 1 ∧ k = (L n).eb ∨ (L n).od = some k)
    (hN : NdH ⟨(L n).ib, (L n).eb, od'⟩ p' w') : FsH fb mb ot (fun k => if k = n then ⟨(L n).ib, (L n).eb, od'⟩ else L k) h (fun k => if k = n then some p' else q k) cnt T w' := by
  obtain ⟨tv, h1, h2⟩ := H.blk
  have hXt : ∀ k, X k → tg w k = some 91 ∧ k = (L n).ib ∨ tg w k = none ∧ k = (L n).eb ∧ p.kind = 1 ∨ tg w k = some 5 ∧ (L n).od = some k := fun k hx => by
    rcases hX k hx with rfl | ⟨hk1, rfl⟩ | hk1
    · exact .inl ⟨H.tib hp, rfl⟩
    · exact .inr (.inl ⟨H.teb hp hk1, rfl, hk1⟩)
    · exact .inr (.inr ⟨H.tod hp k hk1, hk1⟩)
  refine ⟨⟨tv, f.heap h1 (fun e => ?_), h2.kept f (fun g hg e => ?_)⟩, (H.mp.kept f (fun e => ?_)).cong (fun k _ => ?_), fun k p2 hp2 => ?_, fun k k' p1 p2 hp1 hp2 hne => ?_, fun k p2 hp2 hk2 => ?_⟩
  · rcases hXt fb e with ⟨t, _⟩ | ⟨t, _, _⟩ | ⟨t, _⟩ <;> rw [H.tfb] at t <;> cases t
  · have ht := H.tot g hg
    rcases hXt g e with ⟨t, _⟩ | ⟨t, _, _⟩ | ⟨t, _⟩ <;> rw [ht] at t <;> cases t
  · rcases hXt mb e with ⟨t, _⟩ | ⟨_, t, hk1⟩ | ⟨t, _⟩
    · rw [H.tmb] at t; cases t
    · exact H.ebm n p hp hk1 t.symm
    · rw [H.tmb] at t; cases t
  · by_cases hkn : k = n
    · subst hkn
      simp only [if_true, hp]
      rfl
    · simp only [if_neg hkn]
  · by_cases hkn : k = n
    · subst hkn
      simp only [if_true, Option.some.injEq] at hp2 ⊢
      subst hp2
      exact hN
    · simp only [if_neg hkn] at hp2 ⊢
      have hi := H.inj k n p2 p hp2 hp hkn
      refine (H.nd k p2 hp2).kept f (fun e => ?_) (fun hk2 e => ?_) (fun g hg e => ?_)
      · rcases hXt _ e with ⟨_, t⟩ | ⟨t, _, _⟩ | ⟨t, _⟩
        · exact hi.1 t
        · rw [H.tib hp2] at t; cases t
        · rw [H.tib hp2] at t; cases t
      · rcases hXt _ e with ⟨t, _⟩ | ⟨_, t, hk1⟩ | ⟨t, _⟩
        · rw [H.teb hp2 hk2] at t; cases t
        · exact hi.2.1 hk2 hk1 t
        · rw [H.teb hp2 hk2] at t; cases t
      · have ht := H.tod hp2 g hg
        rcases hXt _ e with ⟨t, _⟩ | ⟨t, _, _⟩ | ⟨_, t⟩
        · rw [ht] at t; cases t
        · rw [ht] at t; cases t
        · exact hi.2.2 g hg t
  · have hod : ∀ j p3, q j = some p3 → j ≠ n → ∀ g, (L j).od = some g → od' ≠ some g := fun j p3 hj hjn g hg e => by
      rcases ho g e with e2 | hg2
      · exact (H.inj j n p3 p hj hp hjn).2.2 g hg e2
      · have := H.lt g (.inr (.inr (.inr ⟨j, p3, hj, .inr (.inr hg)⟩)))
        omega
    by_cases hkn : k = n
    · subst hkn
      have hk' : k' ≠ k := fun e => hne e.symm
      simp only [if_true, if_neg hk', Option.some.injEq] at hp1 hp2 ⊢
      subst hp1
      have hi := H.inj k k' p p2 hp hp2 hne
      refine ⟨hi.1, fun a b => hi.2.1 (hk ▸ a) b, fun g hg e => hod k' p2 hp2 hk' g e hg⟩
    · by_cases hkn' : k' = n
      · subst hkn'
        simp only [if_true, if_neg hkn, Option.some.injEq] at hp1 hp2 ⊢
        subst hp2
        have hi := H.inj k k' p1 p hp1 hp hne
        exact ⟨hi.1, fun a b => hi.2.1 a (hk ▸ b), fun g hg e => hod k p1 hp1 hkn g hg e⟩
      · simp only [if_neg hkn, if_neg hkn'] at hp1 hp2 ⊢
        exact H.inj k k' p1 p2 hp1 hp2 hne
  · by_cases hkn : k = n
    · subst hkn
      simp only [if_true, Option.some.injEq] at hp2 ⊢
      subst hp2
      exact H.ebm k p hp (hk ▸ hk2)
    · simp only [if_neg hkn] at hp2 ⊢
      exact H.ebm k p2 hp2 hk2
/-- The head turned: its own block alone, and maybe the trace's. -/
theorem FsH.head (H : FsH fb mb ot L h q cnt T w) (f : Fr X w w') (hX : ∀ k, X k → k = fb ∨ ot = some k) {h' : Hx} {T' : List Ac} {ot' : Option Nat} (ho : ot' = ot ∨ ∃ g, ot' = some g ∧ w.heap.size ≤ g) {tv : Value}
    (hb : w'.heap[fb]? = some (.cells #[.map (some mb), .int .i64 h'.nodes, .int .i64 h'.bytes, .int .i64 h'.held, .int .i64 h'.next, tv] 82)) (ht : OgR RAc ot' tv T' w') : FsH fb mb ot' L h' q cnt T' w' := by
  have hXt : ∀ k, X k → tg w k = some 82 ∨ tg w k = some 51 := fun k hx => by
    rcases hX k hx with rfl | hk1
    · exact .inl H.tfb
    · exact .inr (H.tot k hk1)
  refine ⟨⟨tv, hb, ht⟩, H.mp.kept f (fun e => ?_), fun k p2 hp2 => (H.nd k p2 hp2).kept f (fun e => ?_) (fun hk2 e => ?_) (fun g hg e => ?_), H.inj, H.ebm⟩
  · rcases hXt _ e with t | t <;> rw [H.tmb] at t <;> cases t
  · rcases hXt _ e with t | t <;> rw [H.tib hp2] at t <;> cases t
  · rcases hXt _ e with t | t <;> rw [H.teb hp2 hk2] at t <;> cases t
  · rcases hXt _ e with t | t <;> rw [H.tod hp2 g hg] at t <;> cases t
/-- Another inode, made since. -/
theorem FsH.more (H : FsH fb mb ot L h q cnt T w) {n : Int} (hn : q n = none) {p : Pn} {y : Lay} (f : Fr (fun k => k = mb) w w') {w0 : World} (hs : w0.heap.size ≤ w.heap.size) (hlow : ∀ k, Bk fb mb ot L q k → k < w0.heap.size) (hy : w0.heap.size ≤ y.ib ∧ (p.kind = 1 → w0.heap.size ≤ y.eb) ∧ ∀ g, y.od = some g → w0.heap.size ≤ g)
    (hN : NdH y p w') {cnt' : Nat} (hM : ∀ m, (∀ k, m k = if k = n then some y.ib else (q k).map fun _ => (L k).ib) → Mp MI mb m cnt' w') : FsH fb mb ot (fun k => if k = n then y else L k) h (fun k => if k = n then some p else q k) cnt' T w' := by
  obtain ⟨tv, h1, h2⟩ := H.blk
  have hb : ∀ k, k = mb → tg w k = none := fun k e => by rw [e]; exact H.tmb
  refine ⟨⟨tv, f.heap h1 (fun e => ?_), h2.kept f (fun g hg e => ?_)⟩, hM _ (fun k => ?_), fun k p2 hp2 => ?_, fun k k' p1 p2 hp1 hp2 hne => ?_, fun k p2 hp2 hk2 => ?_⟩
  · have := hb _ e; rw [H.tfb] at this; cases this
  · have := hb _ e; rw [H.tot g hg] at this; cases this
  · by_cases hkn : k = n
    · simp only [if_pos hkn]; rfl
    · simp only [if_neg hkn]
  · by_cases hkn : k = n
    · simp only [if_pos hkn, Option.some.injEq] at hp2 ⊢
      subst hp2; exact hN
    · simp only [if_neg hkn] at hp2 ⊢
      refine (H.nd k p2 hp2).kept f (fun e => ?_) (fun hk2 e => ?_) (fun g hg e => ?_)
      · have := hb _ e; rw [H.tib hp2] at this; cases this
      · exact H.ebm k p2 hp2 hk2 e
      · have := hb _ e; rw [H.tod hp2 g hg] at this; cases this
  · have old : ∀ j p3, q j = some p3 → (L j).ib < w0.heap.size ∧ (p3.kind = 1 → (L j).eb < w0.heap.size) ∧ ∀ g, (L j).od = some g → g < w0.heap.size := fun j p3 hj =>
      ⟨hlow _ (.inr (.inr (.inr ⟨j, p3, hj, .inl rfl⟩))), fun hk => hlow _ (.inr (.inr (.inr ⟨j, p3, hj, .inr (.inl ⟨hk, rfl⟩)⟩))), fun g hg => hlow _ (.inr (.inr (.inr ⟨j, p3, hj, .inr (.inr hg)⟩)))⟩
    by_cases hkn : k = n
    · have hk' : k' ≠ n := fun e => hne (hkn.trans e.symm)
      simp only [if_pos hkn, if_neg hk', Option.some.injEq] at hp1 hp2 ⊢
      subst hp1
      have ho := old k' p2 hp2
      refine ⟨by omega, fun a b => ?_, fun g hg e => ?_⟩
      · have := hy.2.1 a; have := ho.2.1 b; omega
      · have := hy.2.2 g hg; have := ho.2.2 g e; omega
    · by_cases hkn' : k' = n
      · simp only [if_pos hkn', if_neg hkn, Option.some.injEq] at hp1 hp2 ⊢
        subst hp2
        have ho := old k p1 hp1
        refine ⟨by omega, fun a b => ?_, fun g hg e => ?_⟩
        · have := hy.2.1 b; have := ho.2.1 a; omega
        · have := hy.2.2 g e; have := ho.2.2 g hg; omega
      · simp only [if_neg hkn, if_neg hkn'] at hp1 hp2 ⊢
        exact H.inj k k' p1 p2 hp1 hp2 hne
  · by_cases hkn : k = n
    · simp only [if_pos hkn, Option.some.injEq] at hp2 ⊢
      subst hp2
      have := hy.2.1 hk2
      have := hlow mb (.inr (.inl rfl))
      omega
    · simp only [if_neg hkn] at hp2 ⊢
      exact H.ebm k p2 hp2 hk2
/-- One inode fewer. -/
theorem FsH.less (H : FsH fb mb ot L h q cnt T w) (n : Int) (f : Fr (fun k => k = mb) w w') {cnt' : Nat} (hM : ∀ m, (∀ k, m k = if k = n then none else (q k).map fun _ => (L k).ib) → Mp MI mb m cnt' w') : FsH fb mb ot L h (fun k => if k = n then none else q k) cnt' T w' := by
  obtain ⟨tv, h1, h2⟩ := H.blk
  have hb : ∀ k, k = mb → tg w k = none := fun k e => by rw [e]; exact H.tmb
  have hq : ∀ k p, (if k = n then none else q k) = some p → q k = some p := fun k p hp => by
    by_cases hkn : k = n
    · rw [if_pos hkn] at hp; cases hp
    · rw [if_neg hkn] at hp; exact hp
  refine ⟨⟨tv, f.heap h1 (fun e => ?_), h2.kept f (fun g hg e => ?_)⟩, hM _ (fun k => ?_), fun k p2 hp2 => ?_, fun k k' p1 p2 hp1 hp2 hne => H.inj k k' p1 p2 (hq k p1 hp1) (hq k' p2 hp2) hne, fun k p2 hp2 hk2 => H.ebm k p2 (hq k p2 hp2) hk2⟩
  · have := hb _ e; rw [H.tfb] at this; cases this
  · have := hb _ e; rw [H.tot g hg] at this; cases this
  · by_cases hkn : k = n
    · simp only [if_pos hkn]; rfl
    · simp only [if_neg hkn]
  · have hp3 := hq k p2 hp2
    refine (H.nd k p2 hp3).kept f (fun e => ?_) (fun hk2 e => ?_) (fun g hg e => ?_)
    · have := hb _ e; rw [H.tib hp3] at this; cases this
    · exact H.ebm k p2 hp3 hk2 e
    · have := hb _ e; rw [H.tod hp3 g hg] at this; cases this
theorem FsH.congr (H : FsH fb mb ot L h q cnt T w) {q' : Int → Option Pn} (e : q' = q) : FsH fb mb ot L h q' cnt T w := by rw [e]; exact H
/-! ### A file system, wherever it lies -/
def FsP (fb mb : Nat) (B : Nat → Prop) (h : Hx) (q : Int → Option Pn) (cnt : Nat) (T : List Ac) (w : World) : Prop := ∃ ot L, FsH fb mb ot L h q cnt T w ∧ ∀ k, Bk fb mb ot L q k → B k
theorem FsP.kept {B : Nat → Prop} (H : FsP fb mb B h q cnt T w) (f : Fr X w w') (hx : ∀ k, X k → ¬ B k) : FsP fb mb B h q cnt T w' := by
  obtain ⟨ot, L, h1, h2⟩ := H
  exact ⟨ot, L, h1.kept f (fun k hk hb => hx k hk (h2 k hb)), h2⟩
theorem FsP.nw {B : Nat → Prop} (H : FsP fb mb B h q cnt T w) (f : Nw w w') : FsP fb mb B h q cnt T w' := H.kept f (fun _ h => h.elim)
theorem FsP.mono {B B' : Nat → Prop} (H : FsP fb mb B h q cnt T w) (hb : ∀ k, B k → B' k) : FsP fb mb B' h q cnt T w := by
  obtain ⟨ot, L, h1, h2⟩ := H
  exact ⟨ot, L, h1, fun k hk => hb k (h2 k hk)⟩
/-- What came since. -/
abbrev Since (B : Nat → Prop) (w w' : World) (k : Nat) : Prop := B k ∨ (w.heap.size ≤ k ∧ k < w'.heap.size)
end Go.Proofs.YtcogkhcfpgelhabGreat

import Derived.Test.YtegabbfdnpjkkaaSetA
import Derived.Test.YtegabbfdnpjkkaaRbP
namespace Go.Proofs.Ytegabbfdnpjkkaa
open Go.RowKit
set_option linter.unusedVariables false
set_option linter.unusedSimpArgs false

theorem RngB.keptX {br : Nat} {og : Option Nat} {L : List Rg} {w w' : World} {X : Nat → Prop} (h : RngB br og L w) (f : Fr X w w') (hb : ¬ X br) (hg : ∀ g, og = some g → ¬ X g) : RngB br og L w' := by
  obtain ⟨v, h1, h2, h3⟩ := h
  exact ⟨v, (f.block br (Array.getElem?_eq_some_iff.1 h1).1 hb).trans h1, h2.kept f hg, h3⟩

/-- Two sets and a slice, all apart, all behind W. -/
def Two (W : World) (bp bq : Nat) (P Q : List Rg) (gv : Value) (G : List Rg) (wr : World) : Prop :=
  ∃ op oq, RngB bp op P wr ∧ RngB bq oq Q wr ∧ bp ≠ bq ∧ op ≠ some bq ∧ oq ≠ some bp ∧ (∀ k, op = some k → oq ≠ some k) ∧ (∀ g, op = some g → W.heap.size ≤ g) ∧ (∀ g, oq = some g → W.heap.size ≤ g) ∧
    W.heap.size ≤ bp ∧ W.heap.size ≤ bq ∧ Nw W wr ∧ Sl gv G wr ∧ ∀ k, blk gv = some k → k ≠ bp ∧ k ≠ bq ∧ op ≠ some k ∧ oq ≠ some k
theorem Two.swap {W : World} {bp bq : Nat} {P Q : List Rg} {gv : Value} {G : List Rg} {wr : World} (h : Two W bp bq P Q gv G wr) : Two W bq bp Q P gv G wr := by
  obtain ⟨op, oq, h1, h2, h3, h4, h5, h6, h7, h8, h9, h10, h11, h12, h13⟩ := h
  exact ⟨oq, op, h2, h1, h3.symm, h5, h4, fun k a b => h6 k b a, h8, h7, h10, h9, h11, h12, fun k hk => ⟨(h13 k hk).2.1, (h13 k hk).1, (h13 k hk).2.2.2, (h13 k hk).2.2.1⟩⟩
theorem Two.out {W : World} {bp bq : Nat} {P Q : List Rg} {gv : Value} {G : List Rg} {wr : World} (h : Two W bp bq P Q gv G wr) : Nw W wr := by
  obtain ⟨op, oq, h1, h2, h3, h4, h5, h6, h7, h8, h9, h10, h11, h12, h13⟩ := h
  exact h11
theorem Two.sl {W : World} {bp bq : Nat} {P Q : List Rg} {gv : Value} {G : List Rg} {wr : World} (h : Two W bp bq P Q gv G wr) : Sl gv G wr := by
  obtain ⟨op, oq, h1, h2, h3, h4, h5, h6, h7, h8, h9, h10, h11, h12, h13⟩ := h
  exact h12
theorem Two.nw {W : World} {bp bq : Nat} {P Q : List Rg} {gv : Value} {G : List Rg} {wr w' : World} (h : Two W bp bq P Q gv G wr) (hN : Nw wr w') : Two W bp bq P Q gv G w' := by
  obtain ⟨op, oq, h1, h2, h3, h4, h5, h6, h7, h8, h9, h10, h11, h12, h13⟩ := h
  exact ⟨op, oq, RngB.nw h1 hN, RngB.nw h2 hN, h3, h4, h5, h6, h7, h8, h9, h10, h11.trans hN, h12.nw hN, h13⟩
theorem Two.newg {W : World} {bp bq : Nat} {P Q : List Rg} {gv : Value} {G : List Rg} {wr w' : World} {gv' : Value} {G' : List Rg} (h : Two W bp bq P Q gv G wr) (hS : NewS wr w' gv' G') : Two W bp bq P Q gv' G' w' := by
  obtain ⟨op, oq, h1, h2, h3, h4, h5, h6, h7, h8, h9, h10, h11, h12, h13⟩ := h
  obtain ⟨s1, s2, s3⟩ := newS_sl hS
  refine ⟨op, oq, RngB.nw h1 s3, RngB.nw h2 s3, h3, h4, h5, h6, h7, h8, h9, h10, h11.trans s3, s1, fun k hk => ?_⟩
  have hk' := s2 k hk
  have e1 := h1.lt
  have e2 := h2.lt
  exact ⟨by omega, by omega, fun e => by have := h1.glt k e; omega, fun e => by have := h2.glt k e; omega⟩
theorem two_set {W : World} {bp bq : Nat} {P Q Q' : List Rg} {gv : Value} {G : List Rg} {wr w' : World} {op oq : Option Nat} (h1 : RngB bp op P wr) (h2 : RngB bq oq Q wr) (h3 : bp ≠ bq) (h4 : op ≠ some bq) (h5 : oq ≠ some bp) (h6 : ∀ k, op = some k → oq ≠ some k)
    (h7 : ∀ g, op = some g → W.heap.size ≤ g) (h8 : ∀ g, oq = some g → W.heap.size ≤ g) (h9 : W.heap.size ≤ bp) (h10 : W.heap.size ≤ bq) (h11 : Nw W wr) (h12 : Sl gv G wr) (h13 : ∀ k, blk gv = some k → k ≠ bp ∧ k ≠ bq ∧ op ≠ some k ∧ oq ≠ some k)
    (hS : Setted bq oq wr w' Q') : Two W bp bq P Q' gv G w' := by
  have hN := hS.frame h11 h10 h8
  obtain ⟨o', s1, s2, s3⟩ := hS
  have e1 := h1.lt
  have e2 := h2.lt
  have hsz := h11.size
  refine ⟨op, o', h1.keptX s2 ?_ ?_, s1, h3, h4, ?_, ?_, h7, ?_, h9, h10, hN, h12.kept s2 ?_, ?_⟩
  · rintro (e | e); exact h3 e; exact h5 e
  · rintro g hg (e | e)
    · subst e; exact h4 hg
    · exact h6 g hg e
  · rcases s3 with rfl | ⟨g', rfl, hg'⟩
    · exact h5
    · intro e; injection e with e; omega
  · intro k hk
    rcases s3 with rfl | ⟨g', rfl, hg'⟩
    · exact h6 k hk
    · intro e; injection e with e; have := h1.glt k hk; omega
  · intro g hg
    rcases s3 with rfl | ⟨g', rfl, hg'⟩
    · exact h8 g hg
    · injection hg with hg; omega
  · rintro k hk (e | e)
    · exact (h13 k hk).2.1 e
    · exact (h13 k hk).2.2.2 e
  · intro k hk
    obtain ⟨d1, d2, d3, d4⟩ := h13 k hk
    refine ⟨d1, d2, d3, ?_⟩
    rcases s3 with rfl | ⟨g', rfl, hg'⟩
    · exact d4
    · intro e; injection e with e; have := SVal.lt h12 k hk; omega

theorem qadd {W : World} {bp bq : Nat} {P Q : List Rg} {gv : Value} {G : List Rg} {wr : World} (x : Rg) (h : Two W bp bq P Q gv G wr) (hG : Good Q) (hL : Q.length < 65536) (hm : x.2 ≤ 9223372036854775807) :
    Calls Try.prog 24 #[.pointer (some ⟨bq, 0, none⟩), rv x] wr fun e w' => ∃ E Q', e = .returned (.int .i64 E) ∧ (cb x = true → E = 0) ∧ Good Q' ∧ Q'.length ≤ Q.length + 1 ∧ (∀ n, In Q' n ↔ In Q n ∨ Cov x n) ∧ Two W bp bq P Q' gv G w' := by
  obtain ⟨op, oq, h1, h2, h3, h4, h5, h6, h7, h8, h9, h10, h11, h12, h13⟩ := h
  obtain ⟨a1, a2, a3, a4⟩ := add_fact Q x hG hL hm
  refine (ladd bq oq Q x wr h2 hG (by omega) hm).mono ?_
  rintro e w' ⟨rfl, hS⟩
  exact ⟨_, _, rfl, a4, a1, a2, a3, two_set h1 h2 h3 h4 h5 h6 h7 h8 h9 h10 h11 h12 h13 hS⟩
theorem padd {W : World} {bp bq : Nat} {P Q : List Rg} {gv : Value} {G : List Rg} {wr : World} (x : Rg) (h : Two W bp bq P Q gv G wr) (hG : Good P) (hL : P.length < 65536) (hm : x.2 ≤ 9223372036854775807) :
    Calls Try.prog 24 #[.pointer (some ⟨bp, 0, none⟩), rv x] wr fun e w' => ∃ E P', e = .returned (.int .i64 E) ∧ (cb x = true → E = 0) ∧ Good P' ∧ P'.length ≤ P.length + 1 ∧ (∀ n, In P' n ↔ In P n ∨ Cov x n) ∧ Two W bp bq P' Q gv G w' := by
  refine (qadd x h.swap hG hL hm).mono ?_
  rintro e w' ⟨E, P', h1, h2, h3, h4, h5, h6⟩
  exact ⟨E, P', h1, h2, h3, h4, h5, h6.swap⟩
theorem qcut {W : World} {bp bq : Nat} {P Q : List Rg} {gv : Value} {G : List Rg} {wr : World} (x : Rg) (h : Two W bp bq P Q gv G wr) (hG : Good Q) (hL : Q.length + 2 ≤ 65536) (hm : x.2 ≤ 9223372036854775807) :
    Calls Try.prog 22 #[.pointer (some ⟨bq, 0, none⟩), rv x] wr fun e w' => ∃ E Q', e = .returned (.int .i64 E) ∧ Good Q' ∧ Q'.length ≤ Q.length + 2 ∧ (∀ n, In Q' n ↔ In Q n ∧ ¬ Cov x n) ∧ Two W bp bq P Q' gv G w' := by
  obtain ⟨op, oq, h1, h2, h3, h4, h5, h6, h7, h8, h9, h10, h11, h12, h13⟩ := h
  obtain ⟨a1, a2, a3⟩ := cut_fact Q x hG hL hm
  refine (lcut bq oq Q x wr h2 hG (by omega) hm).mono ?_
  rintro e w' ⟨rfl, hS⟩
  exact ⟨_, _, rfl, a1, a2, a3, two_set h1 h2 h3 h4 h5 h6 h7 h8 h9 h10 h11 h12 h13 hS⟩
theorem Two.q {W : World} {bp bq : Nat} {P Q : List Rg} {gv : Value} {G : List Rg} {wr : World} (h : Two W bp bq P Q gv G wr) : ∃ oq, RngB bq oq Q wr := by
  obtain ⟨op, oq, h1, h2, h3, h4, h5, h6, h7, h8, h9, h10, h11, h12, h13⟩ := h
  exact ⟨oq, h2⟩
theorem Two.p {W : World} {bp bq : Nat} {P Q : List Rg} {gv : Value} {G : List Rg} {wr : World} (h : Two W bp bq P Q gv G wr) : ∃ op, RngB bp op P wr := h.swap.q
theorem two_start (W : World) : Two W W.heap.size (W.heap.size + 1) [] [] (.slice none 0 0) [] ((W.alloc (.cells #[.slice none 0 0] 47)).alloc (.cells #[.slice none 0 0] 47)) := by
  have hN : Nw W (W.alloc (.cells #[.slice none 0 0] 47)) := (Fr.refl _ _).alloc _
  have hN2 : Nw (W.alloc (.cells #[.slice none 0 0] 47)) ((W.alloc (.cells #[.slice none 0 0] 47)).alloc (.cells #[.slice none 0 0] 47)) := (Fr.refl _ _).alloc _
  have r1 : RngB W.heap.size none [] (W.alloc (.cells #[.slice none 0 0] 47)) := ⟨.slice none 0 0, Array.getElem?_push_size, .inl ⟨rfl, rfl, rfl⟩, (fun h => by cases h)⟩
  have r2 : RngB (W.alloc (.cells #[.slice none 0 0] 47)).heap.size none [] ((W.alloc (.cells #[.slice none 0 0] 47)).alloc (.cells #[.slice none 0 0] 47)) := ⟨.slice none 0 0, Array.getElem?_push_size, .inl ⟨rfl, rfl, rfl⟩, (fun h => by cases h)⟩
  rw [World.size_alloc] at r2
  exact ⟨none, none, RngB.nw r1 hN2, r2, by omega, (fun h => by cases h), (fun h => by cases h), (fun k h => by cases h), (fun k h => by cases h), (fun k h => by cases h), Nat.le_refl _, by omega, hN.trans hN2, .inl ⟨rfl, rfl, rfl⟩, (fun k h => by cases h)⟩
theorem one_start (w : World) : RngB w.heap.size none [] (w.alloc (.cells #[.slice none 0 0] 47)) := ⟨.slice none 0 0, Array.getElem?_push_size, .inl ⟨rfl, rfl, rfl⟩, (fun h => by cases h)⟩

/-! ### The loops' relations -/
def Inv1 (W : World) (bp bq : Nat) (Os : Nat → Rg) (t : Nat) (wr : World) : Prop :=
  ∃ Q, Two W bp bq [] Q (.slice none 0 0) [] wr ∧ Good Q ∧ Q.length ≤ t ∧ ∀ n, In Q n ↔ ∃ s, s < t ∧ Cov (Os s) n
theorem inv1_start {W : World} {bp bq : Nat} {Os : Nat → Rg} {wr : World} (h : Two W bp bq [] [] (.slice none 0 0) [] wr) : Inv1 W bp bq Os 0 wr :=
  ⟨[], h, Good.nil, by simp, fun n => ⟨fun k => (In_nil _ k).elim, fun ⟨s, k, _⟩ => by omega⟩⟩
theorem inv1_step {W : World} {bp bq : Nat} {Os : Nat → Rg} {t : Nat} {wr : World} (h : Inv1 W bp bq Os t wr) (ht : t < 1000) (hm : (Os t).2 ≤ 9223372036854775807) :
    Calls Try.prog 24 #[.pointer (some ⟨bq, 0, none⟩), rv (Os t)] wr fun e w' => (∃ E, e = .returned (.int .i64 E)) ∧ Inv1 W bp bq Os (t + 1) w' := by
  obtain ⟨Q, h1, h2, h3, h4⟩ := h
  refine (qadd (Os t) h1 h2 (by omega) hm).mono ?_
  rintro e w' ⟨E, Q', rfl, _, a1, a2, a3, a4⟩
  refine ⟨⟨E, rfl⟩, Q', a4, a1, by omega, fun n => ?_⟩
  rw [a3, h4]
  constructor
  · rintro (⟨s, k, c⟩ | c)
    · exact ⟨s, by omega, c⟩
    · exact ⟨t, by omega, c⟩
  · rintro ⟨s, k, c⟩
    rcases Nat.lt_or_ge s t with k' | k'
    · exact .inl ⟨s, k', c⟩
    · obtain rfl : s = t := by omega
      exact .inr c
def Inv2 (W : World) (bp bq : Nat) (Os : Nat → Rg) (N t : Nat) (wr : World) : Prop :=
  ∃ Q, Two W bp bq [] Q (.slice none 0 0) [] wr ∧ Good Q ∧ Q.length ≤ 1000 + 2 * t ∧ ∀ n, In Q n ↔ (∃ s, s < N ∧ Cov (Os s) n) ∧ ∀ s, s < t → ¬ Cov (Os s) n
theorem inv2_start {W : World} {bp bq : Nat} {Os : Nat → Rg} {N : Nat} {wr : World} (h : Inv1 W bp bq Os N wr) (hN : N ≤ 1000) : Inv2 W bp bq Os N 0 wr := by
  obtain ⟨Q, h1, h2, h3, h4⟩ := h
  exact ⟨Q, h1, h2, by omega, fun n => (h4 n).trans ⟨fun k => ⟨k, fun s hs => by omega⟩, fun k => k.1⟩⟩
theorem inv2_step {W : World} {bp bq : Nat} {Os : Nat → Rg} {N t : Nat} {wr : World} (h : Inv2 W bp bq Os N t wr) (ht : t < 1000) (hm : (Os t).2 ≤ 9223372036854775807) :
    Calls Try.prog 22 #[.pointer (some ⟨bq, 0, none⟩), rv (Os t)] wr fun e w' => (∃ E, e = .returned (.int .i64 E)) ∧ Inv2 W bp bq Os N (t + 1) w' := by
  obtain ⟨Q, h1, h2, h3, h4⟩ := h
  refine (qcut (Os t) h1 h2 (by omega) hm).mono ?_
  rintro e w' ⟨E, Q', rfl, a1, a2, a3, a4⟩
  refine ⟨⟨E, rfl⟩, Q', a4, a1, by omega, fun n => ?_⟩
  rw [a3, h4, and_assoc]
  refine and_congr Iff.rfl ⟨fun k s hs => ?_, fun k => ⟨fun s hs => k s (by omega), k t (by omega)⟩⟩
  rcases Nat.lt_or_ge s t with k' | k'
  · exact k.1 s k'
  · obtain rfl : s = t := by omega
    exact k.2
theorem inv2_end {W : World} {bp bq : Nat} {Os : Nat → Rg} {N : Nat} {wr : World} (h : Inv2 W bp bq Os N N wr) : Two W bp bq [] [] (.slice none 0 0) [] wr := by
  obtain ⟨Q, h1, h2, h3, h4⟩ := h
  have : Q = [] := good_no Q h2 (fun n k => by obtain ⟨⟨s, k1, k2⟩, k3⟩ := (h4 n).1 k; exact k3 s k1 k2)
  subst this
  exact h1
def Inv3 (W : World) (bp bq : Nat) (Ls : Nat → Rg) (t : Nat) (wr : World) : Prop :=
  ∃ P, Two W bp bq P [] (.slice none 0 0) [] wr ∧ Good P ∧ P.length ≤ t ∧ ∀ n, In P n ↔ ∃ s, s < t ∧ Cov (Ls s) n
theorem inv3_start {W : World} {bp bq : Nat} {Ls : Nat → Rg} {wr : World} (h : Two W bp bq [] [] (.slice none 0 0) [] wr) : Inv3 W bp bq Ls 0 wr :=
  ⟨[], h, Good.nil, by simp, fun n => ⟨fun k => (In_nil _ k).elim, fun ⟨s, k, _⟩ => by omega⟩⟩
theorem inv3_step {W : World} {bp bq : Nat} {Ls : Nat → Rg} {t : Nat} {wr : World} (h : Inv3 W bp bq Ls t wr) (ht : t < 1000) (hm : (Ls t).2 ≤ 9223372036854775807) :
    Calls Try.prog 24 #[.pointer (some ⟨bp, 0, none⟩), rv (Ls t)] wr fun e w' => (∃ E, e = .returned (.int .i64 E)) ∧ Inv3 W bp bq Ls (t + 1) w' := by
  obtain ⟨P, h1, h2, h3, h4⟩ := h
  refine (padd (Ls t) h1 h2 (by omega) hm).mono ?_
  rintro e w' ⟨E, P', rfl, _, a1, a2, a3, a4⟩
  refine ⟨⟨E, rfl⟩, P', a4, a1, by omega, fun n => ?_⟩
  rw [a3, h4]
  constructor
  · rintro (⟨s, k, c⟩ | c)
    · exact ⟨s, by omega, c⟩
    · exact ⟨t, by omega, c⟩
  · rintro ⟨s, k, c⟩
    rcases Nat.lt_or_ge s t with k' | k'
    · exact .inl ⟨s, k', c⟩
    · obtain rfl : s = t := by omega
      exact .inr c
/-- Of the second's adding, from behind: those from t on are in. -/
def Inv4 (W : World) (bp bq : Nat) (Ls : Nat → Rg) (len t : Nat) (wr : World) : Prop :=
  ∃ P Q, Two W bp bq P Q (.slice none 0 0) [] wr ∧ Good P ∧ P.length ≤ 1000 ∧ (∀ n, In P n ↔ ∃ s, s < len ∧ s < 1000 ∧ Cov (Ls s) n) ∧ Good Q ∧ Q.length + min t 1000 ≤ 1000 ∧ ∀ n, In Q n ↔ ∃ s, t ≤ s ∧ s < len ∧ s < 1000 ∧ Cov (Ls s) n
theorem inv4_start {W : World} {bp bq : Nat} {Ls : Nat → Rg} {len N : Nat} {wr : World} (h : Inv3 W bp bq Ls N wr) (hN : N = min len 1000) : Inv4 W bp bq Ls len len wr := by
  obtain ⟨P, h1, h2, h3, h4⟩ := h
  refine ⟨P, [], h1, h2, by omega, fun n => (h4 n).trans ?_, Good.nil, by simp only [List.length_nil]; omega, fun n => ⟨fun k => (In_nil _ k).elim, fun ⟨s, k1, k2, _⟩ => by omega⟩⟩
  constructor
  · rintro ⟨s, k, c⟩; exact ⟨s, by omega, by omega, c⟩
  · rintro ⟨s, k, k', c⟩; exact ⟨s, by omega, c⟩
theorem inv4_skip {W : World} {bp bq : Nat} {Ls : Nat → Rg} {len t : Nat} {wr : World} (h : Inv4 W bp bq Ls len (t + 1) wr) (ht : 1000 ≤ t) : Inv4 W bp bq Ls len t wr := by
  obtain ⟨P, Q, h1, h2, h3, h4, h5, h6, h7⟩ := h
  refine ⟨P, Q, h1, h2, h3, h4, h5, by omega, fun n => (h7 n).trans ?_⟩
  constructor
  · rintro ⟨s, k1, k2, k3, c⟩; exact ⟨s, by omega, k2, k3, c⟩
  · rintro ⟨s, k1, k2, k3, c⟩; exact ⟨s, by omega, k2, k3, c⟩
theorem inv4_step {W : World} {bp bq : Nat} {Ls : Nat → Rg} {len t : Nat} {wr : World} (h : Inv4 W bp bq Ls len (t + 1) wr) (ht : t < 1000) (hl : t < len) (hm : (Ls t).2 ≤ 9223372036854775807) :
    Calls Try.prog 24 #[.pointer (some ⟨bq, 0, none⟩), rv (Ls t)] wr fun e w' => (∃ E, e = .returned (.int .i64 E)) ∧ Inv4 W bp bq Ls len t w' := by
  obtain ⟨P, Q, h1, h2, h3, h4, h5, h6, h7⟩ := h
  refine (qadd (Ls t) h1 h5 (by omega) hm).mono ?_
  rintro e w' ⟨E, Q', rfl, _, a1, a2, a3, a4⟩
  refine ⟨⟨E, rfl⟩, P, Q', a4, h2, h3, h4, a1, by omega, fun n => ?_⟩
  rw [a3, h7]
  constructor
  · rintro (⟨s, k, k2, k3, c⟩ | c)
    · exact ⟨s, by omega, k2, k3, c⟩
    · exact ⟨t, by omega, hl, ht, c⟩
  · rintro ⟨s, k, k2, k3, c⟩
    rcases Nat.lt_or_ge t s with k' | k'
    · exact .inl ⟨s, k', k2, k3, c⟩
    · obtain rfl : s = t := by omega
      exact .inr c
theorem inv4_end {W : World} {bp bq : Nat} {Ls : Nat → Rg} {len : Nat} {wr : World} (h : Inv4 W bp bq Ls len 0 wr) : ∃ L, Two W bp bq L L (.slice none 0 0) [] wr ∧ Good L ∧ L.length ≤ 1000 := by
  obtain ⟨P, Q, h1, h2, h3, h4, h5, h6, h7⟩ := h
  have : P = Q := good_uniq P Q h2 h5 (fun n => (h4 n).trans ((h7 n).trans ⟨fun ⟨s, _, k⟩ => ⟨s, k⟩, fun ⟨s, k⟩ => ⟨s, Nat.zero_le _, k⟩⟩).symm)
  subst this
  exact ⟨P, h1, h2, h3⟩
/-- The gaps are put in, one by one. -/
def Inv6 (W : World) (bp bq : Nat) (L G : List Rg) (gv : Value) (t : Nat) (wr : World) : Prop :=
  ∃ Q, Two W bp bq L Q gv G wr ∧ Good Q ∧ Q.length ≤ 1000 + t ∧ ∀ n, In Q n ↔ In L n ∨ In (G.take t) n
theorem inv6_start {W : World} {bp bq : Nat} {L G : List Rg} {gv : Value} {wr : World} (h : Two W bp bq L L gv G wr) (hG : Good L) (hL : L.length ≤ 1000) : Inv6 W bp bq L G gv 0 wr :=
  ⟨L, h, hG, by omega, fun n => ⟨.inl, fun k => k.elim id (fun k => by rw [List.take_zero] at k; exact (In_nil _ k).elim)⟩⟩
theorem inv6_step {W : World} {bp bq : Nat} {L G : List Rg} {gv : Value} {t : Nat} {wr : World} (h : Inv6 W bp bq L G gv t wr) (hGg : Good G) (hGl : G.length ≤ 1001) (ht : t < G.length) :
    Calls Try.prog 24 #[.pointer (some ⟨bq, 0, none⟩), rv G[t]] wr fun e w' => e = .returned (.int .i64 0) ∧ Inv6 W bp bq L G gv (t + 1) w' := by
  obtain ⟨Q, h1, h2, h3, h4⟩ := h
  have hok := hGg.get t ht
  refine (qadd G[t] h1 h2 (by omega) hok.2.2).mono ?_
  rintro e w' ⟨E, Q', rfl, hE, a1, a2, a3, a4⟩
  rw [hE (cb_of_ok _ hok)]
  refine ⟨rfl, Q', a4, a1, by omega, fun n => ?_⟩
  rw [a3, h4, List.take_succ_eq_append_getElem ht, In_append, In_one, or_assoc]
  exact or_congr Iff.rfl (or_congr Iff.rfl ⟨fun k => k.2, fun k => ⟨cb_of_ok _ hok, k⟩⟩)
theorem inv6_end {W : World} {bp bq : Nat} {L : List Rg} {x : Rg} {gv : Value} {wr : World} (h : Inv6 W bp bq L (refGaps L x) gv (refGaps L x).length wr) (hL : Good L) (hl : L.length ≤ 1000) (hm : x.2 ≤ 9223372036854775807) :
    ∃ Q, Two W bp bq L Q gv (refGaps L x) wr ∧ Good Q ∧ Q.length ≤ 65536 ∧ refGaps Q x = [] ∧ tot Q = tot L + tot (refGaps L x) := by
  obtain ⟨Q, h1, h2, h3, h4⟩ := h
  obtain ⟨g1, g2, g3⟩ := gaps_fact L x hL hm
  rw [List.take_length] at h4
  refine ⟨Q, h1, h2, by omega, ?_, tot_union L _ Q hL g1 h2 h4 (fun n k => ((g3 n).1 k.2).2 k.1)⟩
  obtain ⟨q1, q2, q3⟩ := gaps_fact Q x h2 hm
  refine good_no _ q1 (fun n k => ?_)
  obtain ⟨k1, k2⟩ := (q3 n).1 k
  rw [h4] at k2
  by_cases hi : In L n
  · exact k2 (.inl hi)
  · exact k2 (.inr ((g3 n).2 ⟨k1, hi⟩))
end Go.Proofs.Ytegabbfdnpjkkaa

import Derived.Test.YtpnacppmdlnjlabMaD
namespace Go.Proofs.Ytpnacppmdlnjlab
open Go.RowKit
set_option linter.unusedVariables false
/-- A sequence, whatever its numbers. -/
structure Si where
  p : List By
  b : Int
  n : Int
/-- Sequences that can be read: in no block of X. -/
def SqR (X : Nat → Prop) (v : Value) (l : List Si) (w : World) : Prop := ∃ a c, v = .slice a l.length c ∧ l.length ≤ c ∧ c < 9223372036854775808 ∧ l.length ≤ 4000000000000 ∧ (l ≠ [] → ∃ g o, ¬ X g ∧ a = some ⟨g, o, none⟩ ∧ ∀ i (h : i < l.length), ∃ pa pc, w.cell? ⟨g, o + i * 3, none⟩ = some (.slice pa l[i].p.length pc) ∧ w.cell? ⟨g, o + i * 3 + 1, none⟩ = some (.int .i64 l[i].b) ∧ w.cell? ⟨g, o + i * 3 + 2, none⟩ = some (.int .i64 l[i].n) ∧ Sl X (.slice pa l[i].p.length pc) l[i].p w ∧ l[i].p.length ≤ 140737488351232)
theorem SqR.kept {X Y : Nat → Prop} {v : Value} {l : List Si} {w w' : World} (h : SqR X v l w) (f : Fr Y w w') (hx : ∀ g, Y g → X g) : SqR X v l w' := by
  obtain ⟨a, c, h1, h2, h3, h4, h5⟩ := h
  refine ⟨a, c, h1, h2, h3, h4, fun hl => ?_⟩
  obtain ⟨g, o, k1, k2, k3⟩ := h5 hl
  refine ⟨g, o, k1, k2, fun i hi => ?_⟩
  obtain ⟨pa, pc, x0, x1, x2, x3, x4⟩ := k3 i hi
  have hn : ¬ Y g := fun hy => k1 (hx g hy)
  exact ⟨pa, pc, f.cellv x0 hn, f.cellv x1 hn, f.cellv x2 hn, x3.kept f hx, x4⟩
theorem SqR.nw {X : Nat → Prop} {v : Value} {l : List Si} {w w' : World} (h : SqR X v l w) (f : Nw w w') : SqR X v l w' := h.kept f (fun _ h => h.elim)
theorem SqR.mono {X Y : Nat → Prop} {v : Value} {l : List Si} {w : World} (h : SqR X v l w) (hxy : ∀ g, Y g → X g) : SqR Y v l w := by
  obtain ⟨a, c, h1, h2, h3, h4, h5⟩ := h
  refine ⟨a, c, h1, h2, h3, h4, fun hl => ?_⟩
  obtain ⟨g, o, k1, k2, k3⟩ := h5 hl
  refine ⟨g, o, fun hy => k1 (hxy g hy), k2, fun i hi => ?_⟩
  obtain ⟨pa, pc, x0, x1, x2, x3, x4⟩ := k3 i hi
  exact ⟨pa, pc, x0, x1, x2, x3.mono hxy, x4⟩
theorem SqR.at {X : Nat → Prop} {a : Option Addr} {n c : Nat} {l : List Si} {w : World} (h : SqR X (.slice a n c) l w) (i : Nat) (hi : i < l.length) : ∃ g o pa pc, ¬ X g ∧ a = some ⟨g, o, none⟩ ∧ w.cell? ⟨g, o + i * 3, none⟩ = some (.slice pa l[i].p.length pc) ∧ w.cell? ⟨g, o + i * 3 + 1, none⟩ = some (.int .i64 l[i].b) ∧ w.cell? ⟨g, o + i * 3 + 2, none⟩ = some (.int .i64 l[i].n) ∧ Sl X (.slice pa l[i].p.length pc) l[i].p w ∧ l[i].p.length ≤ 140737488351232 := by
  obtain ⟨a', c', h1, h2, h3, h4, h5⟩ := h
  injection h1 with e1 e2 e3
  obtain ⟨g, o, k1, k2, k3⟩ := h5 (by intro e; rw [e] at hi; simp at hi)
  obtain ⟨pa, pc, x⟩ := k3 i hi
  exact ⟨g, o, pa, pc, k1, e1.trans k2, x⟩
theorem SqR.form {X : Nat → Prop} {v : Value} {l : List Si} {w : World} (h : SqR X v l w) : ∃ a c, v = .slice a l.length c ∧ l.length ≤ c ∧ c < 9223372036854775808 ∧ l.length ≤ 4000000000000 := by
  obtain ⟨a, c, h1, h2, h3, h4, _⟩ := h
  exact ⟨a, c, h1, h2, h3, h4⟩
def canI (s : Si) : Prop := 1 ≤ s.b ∧ s.b ≤ 65535 ∧ 4 ≤ s.n
/-- What a block can be made of, but for its size. -/
def CanB (l : List Si) : Prop := l ≠ [] ∧ (∀ i (h : i + 1 < l.length), canI l[i]) ∧ ∀ (h : l.length - 1 < l.length), l[l.length - 1].b = 0 ∧ l[l.length - 1].n = 0
end Go.Proofs.Ytpnacppmdlnjlab

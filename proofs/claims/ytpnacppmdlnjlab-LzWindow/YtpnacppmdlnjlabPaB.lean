import Derived.Test.YtpnacppmdlnjlabPaA
import Derived.Test.YtpnacppmdlnjlabLzJ
namespace Go.Proofs.Ytpnacppmdlnjlab
open Go.RowKit
set_option linter.unusedVariables false
/-- A sequence. -/
structure Sq where
  p : List By
  b : Nat
  n : Nat
/-- A list of sequences in memory: gs the blocks of their plain bytes, qs how they lie. -/
structure SqL (K : Nat → Prop) (v : Value) (l : List Sq) (gs : List Nat) (qs : List Q) (w : World) : Prop where
  gl : gs.length = l.length
  ql : qs.length = l.length
  el : ∀ (i : Nat) (g : Nat) (q : Q) (s : Sq), gs[i]? = some g → qs[i]? = some q → l[i]? = some s → Ow g q.v s.p w ∧ q.b = s.b ∧ q.l = s.n ∧ ¬ K g
  nd : gs.Nodup
  row : (v = .slice none 0 0 ∧ l = []) ∨ ∃ g, ¬ K g ∧ g ∉ gs ∧ OwS g v qs w
theorem SqL.at {K : Nat → Prop} {v : Value} {l : List Sq} {gs : List Nat} {qs : List Q} {w : World} (h : SqL K v l gs qs w) (g : Nat) (hg : g ∈ gs) : ¬ K g ∧ g < w.heap.size := by
  obtain ⟨i, hi, rfl⟩ := List.mem_iff_getElem.1 hg
  have hil : i < l.length := by rw [← h.gl]; exact hi
  have := h.el i gs[i] (qs[i]'(by rw [h.ql]; exact hil)) l[i] (List.getElem?_eq_getElem _) (List.getElem?_eq_getElem _) (List.getElem?_eq_getElem _)
  exact ⟨this.2.2.2, this.1.lt⟩
theorem SqL.kept {K : Nat → Prop} {v : Value} {l : List Sq} {gs : List Nat} {qs : List Q} {w w' : World} {X : Nat → Prop} (h : SqL K v l gs qs w) (f : Fr X w w') (hx : ∀ g, X g → K g ∨ w.heap.size ≤ g) : SqL K v l gs qs w' := by
  refine ⟨h.gl, h.ql, fun i g q s h1 h2 h3 => ?_, h.nd, ?_⟩
  · obtain ⟨k1, k2, k3, k4⟩ := h.el i g q s h1 h2 h3
    exact ⟨k1.kept f (fun hg => by rcases hx g hg with e | e; exact k4 e; have := k1.lt; omega), k2, k3, k4⟩
  · rcases h.row with h | ⟨g, h1, h2, h3⟩
    · exact .inl h
    · exact .inr ⟨g, h1, h2, h3.kept f (fun hg => by rcases hx g hg with e | e; exact h1 e; have := h3.lt; omega)⟩
theorem SqL.nw {K : Nat → Prop} {v : Value} {l : List Sq} {gs : List Nat} {qs : List Q} {w w' : World} (h : SqL K v l gs qs w) (f : Nw w w') : SqL K v l gs qs w' := h.kept f (fun _ h => h.elim)
theorem SqL.more {K K' : Nat → Prop} {v : Value} {l : List Sq} {gs : List Nat} {qs : List Q} {w : World} (h : SqL K v l gs qs w) (hk : ∀ g, K' g → K g ∨ w.heap.size ≤ g) : SqL K' v l gs qs w := by
  refine ⟨h.gl, h.ql, fun i g q s h1 h2 h3 => ?_, h.nd, ?_⟩
  · obtain ⟨k1, k2, k3, k4⟩ := h.el i g q s h1 h2 h3
    exact ⟨k1, k2, k3, fun hg => by rcases hk g hg with e | e; exact k4 e; have := k1.lt; omega⟩
  · rcases h.row with h | ⟨g, h1, h2, h3⟩
    · exact .inl h
    · exact .inr ⟨g, fun hg => by rcases hk g hg with e | e; exact h1 e; have := h3.lt; omega, h2, h3⟩
theorem SqL.both {K K' : Nat → Prop} {v : Value} {l : List Sq} {gs : List Nat} {qs : List Q} {w w' : World} {X : Nat → Prop} (h : SqL K v l gs qs w) (f : Fr X w w') (hx : ∀ g, X g → K g ∨ w.heap.size ≤ g) (hk : ∀ g, K' g → K g ∨ w.heap.size ≤ g) : SqL K' v l gs qs w' := by
  have h' := h.kept f hx
  refine ⟨h.gl, h.ql, fun i g q s h1 h2 h3 => ?_, h.nd, ?_⟩
  · obtain ⟨k1, k2, k3, k4⟩ := h.el i g q s h1 h2 h3
    exact ⟨(h'.el i g q s h1 h2 h3).1, k2, k3, fun hg => by rcases hk g hg with e | e; exact k4 e; have := k1.lt; omega⟩
  · rcases h.row with h | ⟨g, h1, h2, h3⟩
    · exact .inl h
    · exact .inr ⟨g, fun hg => by rcases hk g hg with e | e; exact h1 e; have := h3.lt; omega, h2, h3.kept f (fun hg => by rcases hx g hg with e | e; exact h1 e; have := h3.lt; omega)⟩
theorem SqL.nil (K : Nat → Prop) (w : World) : SqL K (.slice none 0 0) [] [] [] w := ⟨rfl, rfl, fun i g q s h1 _ _ => by simp at h1, List.nodup_nil, .inl ⟨rfl, rfl⟩⟩
theorem SqL.form {K : Nat → Prop} {v : Value} {l : List Sq} {gs : List Nat} {qs : List Q} {w : World} (h : SqL K v l gs qs w) : ∃ a c, v = .slice a l.length c ∧ l.length ≤ c ∧ c < 9223372036854775808 := by
  rcases h.row with ⟨rfl, rfl⟩ | ⟨g, _, _, xs, rfl, _, h3, h4, _⟩
  · exact ⟨none, 0, rfl, by simp, by simp⟩
  · exact ⟨_, _, by rw [h.ql], by rw [← h.ql]; exact h3, h4⟩
/-! ### The lister -/
structure Ls where
  l : List Sq
  now : Sq
  f : Nat
def ls : Tk Ls where
  room _ _ := true
  plain s p := ⟨s.l, ⟨p, 0, 0⟩, 1⟩
  reaches _ _ := true
  mat s b n := ⟨s.l ++ [⟨s.now.p, b, n⟩], ⟨s.now.p, b, n⟩, 0⟩
  fin s := ⟨s.l ++ [s.now], s.now, 0⟩
/-- Parse, as the document has it. -/
def parse (b : List By) : List Sq × Nat × Nat :=
  match scanS ls b.length b ⟨[], ⟨[], 0, 0⟩, 0⟩ with
  | .bad a y => ([], a, y)
  | .good s => (s.l, 0, 0)
/-- What holds of the lister. -/
structure LI (D pb : Nat) (s : Ls) (K : Nat → Prop) (w : World) : Prop where
  list : ∃ v gs qs, w.cell? ⟨pb, 0, none⟩ = some v ∧ SqL (fun k => K k ∨ k = pb) v s.l gs qs w ∧ (s.f = 1 → ∃ gn a n c, w.cell? ⟨pb, 1, none⟩ = some (.slice a n c) ∧ w.cell? ⟨pb, 2, none⟩ = some (.int .i64 s.now.b) ∧ w.cell? ⟨pb, 3, none⟩ = some (.int .i64 s.now.n) ∧ Ow gn (.slice a n c) s.now.p w ∧ ¬ K gn ∧ gn ≠ pb ∧ gn ∉ gs ∧ ∀ g, OwS g v qs w → g ≠ gn)
  cells : ∀ j, j < 4 → ∃ u, w.cell? ⟨pb, j, none⟩ = some u ∧ w.frozen? ⟨pb, j, none⟩ = false
  npb : ¬ K pb
  dpb : D ≤ pb
theorem LI.lt {D pb : Nat} {s : Ls} {K : Nat → Prop} {w : World} (h : LI D pb s K w) : pb < w.heap.size := by
  obtain ⟨u, h1, _⟩ := h.cells 0 (by decide)
  exact World.block_lt_of_cell? _ _ h1
theorem OwS.uniq {g g' : Nat} {v : Value} {l l' : List Q} {w w' : World} (h : OwS g v l w) (h' : OwS g' v l' w') : g = g' := by
  obtain ⟨xs, h1, _⟩ := h
  obtain ⟨ys, h2, _⟩ := h'
  rw [h1] at h2
  injection h2 with h2
  injection h2 with h2
  injection h2
theorem LI.keep' {D pb : Nat} {s : Ls} {K K' : Nat → Prop} {w w' : World} {X : Nat → Prop} (h : LI D pb s K w) (f : Fr X w w') (hx : ∀ k, X k → K k) (hk : ∀ k, K' k → K k ∨ w.heap.size ≤ k) : LI D pb s K' w' := by
  obtain ⟨v, gs, qs, h1, h2, h3⟩ := h.list
  have hlt := h.lt
  have hxp : ¬ X pb := fun hp => h.npb (hx pb hp)
  have hKl : ∀ g, g < w.heap.size → ¬ K g → ¬ K' g := fun g hg hn hk' => by
    rcases hk g hk' with e | e
    · exact hn e
    · omega
  refine ⟨⟨v, gs, qs, f.cellv h1 hxp, h2.both f (fun g hg => .inl (.inl (hx g hg))) (fun g hg => ?_), fun hf => ?_⟩, fun j hj => ?_, hKl pb hlt h.npb, h.dpb⟩
  · rcases hg with hg | hg
    · rcases hk g hg with e | e
      · exact .inl (.inl e)
      · exact .inr e
    · exact .inl (.inr hg)
  · obtain ⟨gn, a, n, c, k1, k2, k3, k4, k5, k6, k7, k8⟩ := h3 hf
    refine ⟨gn, a, n, c, f.cellv k1 hxp, f.cellv k2 hxp, f.cellv k3 hxp, k4.kept f (fun hg => k5 (hx gn hg)), hKl gn k4.lt k5, k6, k7, fun g hg => ?_⟩
    rcases h2.row with ⟨e1, e2⟩ | ⟨g1, _, _, e3⟩
    · obtain ⟨xs, e, _⟩ := hg
      rw [e1] at e; cases e
    · rw [OwS.uniq hg e3]; exact k8 g1 e3
  · obtain ⟨u, k1, k2⟩ := h.cells j hj
    exact ⟨u, f.cellv k1 hxp, (f.frozen (p := ⟨pb, j, none⟩) hlt hxp).trans k2⟩
end Go.Proofs.Ytpnacppmdlnjlab

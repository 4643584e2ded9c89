import Derived.Test.YtegabbfdnpjkkaaRbO
namespace Go.Proofs.Ytegabbfdnpjkkaa
open Go.RowKit
set_option linter.unusedVariables false
set_option linter.unusedSimpArgs false

/-- The block of a slice. -/
def blk : Value → Option Nat
  | .slice (some a) _ _ => some a.block
  | _ => none
theorem SVal.blkE {v : Value} {og : Option Nat} {L : List Rg} {w : World} (h : SVal v og L w) : og = blk v := by
  rcases h with ⟨rfl, rfl, _⟩ | ⟨g, xs, rfl, rfl, _⟩ <;> rfl
theorem SVal.own {v : Value} {og : Option Nat} {L : List Rg} {w : World} (h : SVal v og L w) : SVal v (blk v) L w := by have := h.blkE; rw [← this]; exact h
def Frs (w : World) (v : Value) : Prop := ∀ k, blk v = some k → w.heap.size ≤ k
def Dj (v u : Value) : Prop := ∀ k, blk v = some k → blk u ≠ some k
theorem Dj.symm {v u : Value} (h : Dj v u) : Dj u v := fun k hk he => h k he hk
/-- A slice of ranges in its own row. -/
def Sl (v : Value) (L : List Rg) (w : World) : Prop := SVal v (blk v) L w
theorem Sl.nw {v : Value} {L : List Rg} {w w' : World} (h : Sl v L w) (hN : Nw w w') : Sl v L w' := Nw.sval hN h
theorem Sl.kept {v : Value} {L : List Rg} {w w' : World} {X : Nat → Prop} (h : Sl v L w) (f : Fr X w w') (hx : ∀ k, blk v = some k → ¬ X k) : Sl v L w' := SVal.kept h f hx
theorem newS_sl {w w' : World} {v : Value} {L : List Rg} (h : NewS w w' v L) : Sl v L w' ∧ Frs w v ∧ Nw w w' := by
  obtain ⟨og, h1, h2, h3⟩ := h
  have := h1.blkE
  subst this
  exact ⟨h1, h2, h3⟩
theorem frs_dj {w : World} {v u : Value} {L : List Rg} (h : Frs w v) (k : Sl u L w) : Dj u v := fun g hg he => by
  have h1 := h g he
  have h2 := SVal.lt k g hg
  omega

/-- The law's state: the set at br and the document's list, apart. -/
def St (w : World) (br : Nat) (L : List Rg) (dv : Value) (wr : World) : Prop :=
  ∃ og, RngB br og L wr ∧ Sl dv L wr ∧ (∀ k, blk dv = some k → og ≠ some k ∧ k ≠ br) ∧ (∀ g, og = some g → w.heap.size ≤ g) ∧ w.heap.size ≤ br ∧ Nw w wr ∧ Good L ∧ L.length ≤ 65536
theorem RngB.lt {br : Nat} {og : Option Nat} {L : List Rg} {w : World} (h : RngB br og L w) : br < w.heap.size := by
  obtain ⟨v, h1, _⟩ := h
  exact (Array.getElem?_eq_some_iff.1 h1).1
theorem RngB.glt {br : Nat} {og : Option Nat} {L : List Rg} {w : World} (h : RngB br og L w) (g : Nat) (hg : og = some g) : g < w.heap.size := by
  obtain ⟨v, _, h2, _⟩ := h
  exact h2.lt g hg
theorem St.nw {w : World} {br : Nat} {L : List Rg} {dv : Value} {wr w' : World} (h : St w br L dv wr) (hN : Nw wr w') : St w br L dv w' := by
  obtain ⟨og, h1, h2, h3, h4, h5, h6, h7, h8⟩ := h
  exact ⟨og, RngB.nw h1 hN, h2.nw hN, h3, h4, h5, h6.trans hN, h7, h8⟩
theorem Setted.frame {w : World} {br : Nat} {og : Option Nat} {L : List Rg} {wr w1 : World} (h : Setted br og wr w1 L) (hN : Nw w wr) (hb : w.heap.size ≤ br) (hg : ∀ g, og = some g → w.heap.size ≤ g) : Nw w w1 := by
  obtain ⟨og', _, h2, _⟩ := h
  exact Fr.then hN h2 (fun k hk => .inr (by rcases hk with rfl | hk; exact hb; exact hg k hk))
/-- Behind a call of the set and the document's. -/
theorem st_step {w : World} {br : Nat} {og : Option Nat} {L L' : List Rg} {dv v' : Value} {wr w1 w2 : World} (h1 : RngB br og L wr) (h2 : Sl dv L wr) (h3 : ∀ k, blk dv = some k → og ≠ some k ∧ k ≠ br) (h4 : ∀ g, og = some g → w.heap.size ≤ g) (h5 : w.heap.size ≤ br) (h6 : Nw w wr)
    (hS : Setted br og wr w1 L') (hO : OrS (blk dv) L' w1 w2 v') (hG : Good L') (hL : L'.length ≤ 65536) : St w br L' v' w2 := by
  have hN1 := hS.frame h6 h5 h4
  obtain ⟨og', r1, r2, r3⟩ := hS
  obtain ⟨a, c, o2, rfl, s1, s2, s3⟩ := hO
  have hb := s1.blkE
  refine ⟨og', RngB.nw r1 s3, s1.own, ?_, ?_, h5, hN1.trans s3, hG, hL⟩
  · intro k hk
    rw [← hb] at hk
    rcases s2 with s2 | s2
    · rw [s2] at hk
      obtain ⟨d1, d2⟩ := h3 k hk
      refine ⟨?_, d2⟩
      rcases r3 with rfl | ⟨g', rfl, hg'⟩
      · exact d1
      · intro e
        injection e with e
        have := SVal.lt h2 k hk
        omega
    · have h := s2 k hk
      refine ⟨fun e => ?_, fun e => ?_⟩
      · have := r1.glt k e; omega
      · have := r1.lt; omega
  · intro g hg
    rcases r3 with rfl | ⟨g', rfl, hg'⟩
    · exact h4 g hg
    · injection hg with hg; have := h6.size; omega

/-- Four new slices, one behind the other. -/
def Four (w w' : World) (x1 x2 x3 x4 : Value) (X1 X2 X3 X4 : List Rg) : Prop :=
  Nw w w' ∧ Sl x1 X1 w' ∧ Sl x2 X2 w' ∧ Sl x3 X3 w' ∧ Sl x4 X4 w' ∧ Frs w x1 ∧ Frs w x2 ∧ Frs w x3 ∧ Frs w x4 ∧ Dj x1 x2 ∧ Dj x1 x3 ∧ Dj x1 x4 ∧ Dj x2 x3 ∧ Dj x2 x4 ∧ Dj x3 x4 ∧ Dj x2 x1 ∧ Dj x3 x1 ∧ Dj x4 x1 ∧ Dj x3 x2 ∧ Dj x4 x2 ∧ Dj x4 x3
theorem Frs.up {w w1 : World} {v : Value} (hN : Nw w w1) (h : Frs w1 v) : Frs w v := fun k hk => Nat.le_trans hN.size (h k hk)
theorem four {w0 w w1 w2 w3 w4 : World} {x1 x2 x3 x4 : Value} {X1 X2 X3 X4 : List Rg} (h0 : Nw w0 w) (h1 : NewS w w1 x1 X1) (h2 : NewS w1 w2 x2 X2) (h3 : NewS w2 w3 x3 X3) (h4 : NewS w3 w4 x4 X4) : Four w0 w4 x1 x2 x3 x4 X1 X2 X3 X4 := by
  obtain ⟨a1, b1, n1⟩ := newS_sl h1
  obtain ⟨a2, b2, n2⟩ := newS_sl h2
  obtain ⟨a3, b3, n3⟩ := newS_sl h3
  obtain ⟨a4, b4, n4⟩ := newS_sl h4
  have d12 := frs_dj b2 a1
  have d13 := frs_dj b3 (a1.nw n2)
  have d14 := frs_dj b4 ((a1.nw n2).nw n3)
  have d23 := frs_dj b3 a2
  have d24 := frs_dj b4 (a2.nw n3)
  have d34 := frs_dj b4 a3
  have N1 := h0.trans n1
  have N2 := N1.trans n2
  have N3 := N2.trans n3
  exact ⟨N3.trans n4, ((a1.nw n2).nw n3).nw n4, (a2.nw n3).nw n4, a3.nw n4, a4, Frs.up h0 b1, Frs.up N1 b2, Frs.up N2 b3, Frs.up N3 b4, d12, d13, d14, d23, d24, d34, d12.symm, d13.symm, d14.symm, d23.symm, d24.symm, d34.symm⟩
theorem cellsL_set0 (xs : List Rg) (k : Nat) (hk : k < xs.length) (v : Int) : (cellsL xs).set (k * 2) (.int .i64 v) = cellsL (xs.set k (v, xs[k].2)) := by
  induction xs generalizing k with
  | nil => simp at hk
  | cons p r ih =>
    cases k with
    | zero => rfl
    | succ k =>
      have h1 := ih k (by simpa using hk)
      show (Value.int .i64 p.1 :: Value.int .i64 p.2 :: cellsL r).set ((k + 1) * 2) _ = _
      rw [show (k + 1) * 2 = (k * 2) + 1 + 1 by omega, List.set_cons_succ, List.set_cons_succ, h1]
      rfl
theorem RowB.setFrom {g : Nat} {xs : List Rg} {w : World} (h : RowB g xs w) (k : Nat) (hk : k < xs.length) (v : Int) : RowB g (xs.set k (v, xs[k].2)) (w.setCell ⟨g, k * 2, none⟩ (.int .i64 v)) := by
  unfold RowB at h ⊢
  rw [← cellsL_set0 xs k hk v]
  simp only [World.setCell, Array.getElem?_modify, h]; simp
/-- A store into a slice's row. -/
theorem Sl.put {v : Value} {L : List Rg} {w : World} (h : Sl v L w) (t : Nat) (ht : t < L.length) (g : Nat) (hg : blk v = some g) (z : Rg) : ∃ L' : List Rg, L'.length = L.length ∧ Sl v L' ((w.setCell ⟨g, t * 2, none⟩ (.int .i64 z.1)).setCell ⟨g, t * 2 + 1, none⟩ (.int .i64 z.2)) := by
  unfold Sl at h ⊢
  rw [hg] at h ⊢
  rcases h with ⟨_, h, _⟩ | ⟨g', xs, h1, h2, h3, h4, h5, h6⟩
  · cases h
  · obtain rfl : g = g' := by injection h1
    have ex : ∃ zs : List Rg, zs.length = xs.length ∧ RowB g zs ((w.setCell ⟨g, t * 2, none⟩ (.int .i64 z.1)).setCell ⟨g, t * 2 + 1, none⟩ (.int .i64 z.2)) :=
      ⟨_, by rw [List.length_set, List.length_set], (h6.setFrom t (by omega) z.1).setTo t (by rw [List.length_set]; omega) z.2⟩
    obtain ⟨zs, hzl, k2⟩ := ex
    have hl : (zs.take L.length).length = L.length := by rw [List.length_take]; omega
    refine ⟨zs.take L.length, hl, .inr ⟨g, zs, rfl, ?_, by omega, by omega, by rw [hl], k2⟩⟩
    rw [hl, hzl]; exact h2
theorem Sl.getc {v : Value} {L : List Rg} {w : World} (h : Sl v L w) (t : Nat) (ht : t < L.length) : ∃ g c p q, blk v = some g ∧ v = .slice (some ⟨g, 0, none⟩) L.length c ∧ c ≤ maxLen ∧ w.cell? ⟨g, t * 2, none⟩ = some (.int .i64 p) ∧ w.cell? ⟨g, t * 2 + 1, none⟩ = some (.int .i64 q) ∧ ∀ o, w.frozen? ⟨g, o, none⟩ = false := by
  obtain ⟨g, c, h1, h2, h3, h4, h5⟩ := SVal.get h t ht
  refine ⟨g, c, _, _, h1, h2, h3, h4, h5, fun o => ?_⟩
  unfold Sl at h
  rw [h1] at h
  exact h.frozen o
end Go.Proofs.Ytegabbfdnpjkkaa

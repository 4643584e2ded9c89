import Derived.Test.YtpnacppmdlnjlaaPaU
import Derived.Test.YtpnacppmdlnjlaaDeA
namespace Go.Proofs.Ytpnacppmdlnjlaa
open Go.RowKit
set_option linter.unusedVariables false
/-- What stands behind the calls, ahead of the loops: x's list, and what must stay. -/
structure PQ (w : World) (vb : Value) (b : List By) (l : List Sq) (g1 c1 : Nat) (vx vy vz : Value) (gs : List Nat) (w5 : World) : Prop where
  nw : Nw w w5
  all : Ow g1 (.slice (some ⟨g1, 0, none⟩) (b.length + 32) c1) (b ++ marks 32) w5
  vb : Old w vb b
  x : ∃ B1 B2 qs, SqL (fun k => k < B1) vx l gs qs w5 ∧ g1 < B1 ∧ w.heap.size ≤ B1 ∧ (∀ g, OwS g vx qs w5 → g < B2) ∧ (∀ g, g ∈ gs → g < B2) ∧ B2 ≤ w5.heap.size ∧
    (∃ gy qy, SqL (fun k => k < B2) vy l gy qy w5) ∧ (∃ gz qz, SqL (fun k => k < B2) vz l gz qz w5)
def SeqsC (v1 v2 : Value) (w5 : World) : Prop := ∀ V, Nw w5 V → Calls Try.prog 17 #[v1, v2] V fun e w' => e = .returned (.bool true) ∧ Nw w5 w'
set_option maxHeartbeats 4000000 in
theorem chainP (w : World) (vb : Value) (b : List By) (hb : Old w vb b) (hbl : b.length ≤ 100000000) (l : List Sq) (at' why : Nat) (hpar : parse b = (l, at', why)) :
    Hid (Calls Try.prog 9 #[vb] w fun e w1 => ∃ g1 c1, e = .returned (.tuple #[.slice (some ⟨g1, 0, none⟩) b.length c1, .slice (some ⟨g1, 0, none⟩) (b.length + 32) c1]) ∧
      Hid (Calls Try.prog 15 #[.slice (some ⟨g1, 0, none⟩) b.length c1] w1 fun e w2 => ∃ a2 c2, e = .returned (.tuple #[.slice a2 l.length c2, .int .i64 at', .int .i64 why]) ∧
        Hid (Calls Try.prog 15 #[.slice (some ⟨g1, 0, none⟩) b.length c1] w2 fun e w3 => ∃ a3 c3, e = .returned (.tuple #[.slice a3 l.length c3, .int .i64 at', .int .i64 why]) ∧
          Hid (Calls Try.prog 16 #[vb] w3 fun e w4 => ∃ a4 c4, e = .returned (.tuple #[.slice a4 l.length c4, .int .i64 at', .int .i64 why]) ∧
            Hid (SeqsC (.slice a2 l.length c2) (.slice a4 l.length c4) w4) ∧ Hid (SeqsC (.slice a3 l.length c3) (.slice a4 l.length c4) w4) ∧ Hid (∀ V, Nw w4 V → Calls Try.prog 13 #[.slice (some ⟨g1, 0, none⟩) (b.length + 32) c1, vb] V fun e w' => e = .returned (.bool true) ∧ Nw w4 w') ∧
            Hid (∃ gs, ∀ V, Nw w4 V → PQ w vb b l g1 c1 (.slice a2 l.length c2) (.slice a3 l.length c3) (.slice a4 l.length c4) gs V))))) := by
  have hpb := parse_bound b
  rw [hpar] at hpb
  obtain ⟨hl, hlp⟩ := hpb
  simp only at hl hlp
  have hlp' : ∀ s ∈ l, s.p.length ≤ 140737488351232 := fun s hs => by have := hlp s hs; omega
  show Calls _ _ _ _ _
  refine (lent_any w vb b hb (by omega)).mono ?_
  rintro e w1 ⟨g1, c1, rfl, hg1, hO1, hN1⟩
  have hg1l := hO1.lt
  have hc1 : Old w1 (.slice (some ⟨g1, 0, none⟩) b.length c1) b := by
    obtain ⟨c', e, h1, h2, h3⟩ := hO1.cut b.length (by rw [List.length_append]; omega)
    injection e with _ _ e
    subst e
    rw [List.take_left] at h3
    exact h3.old
  refine ⟨g1, c1, rfl, ?_⟩
  show Calls _ _ _ _ _
  refine (parse_any w1 _ b hc1 hbl).mono ?_
  rw [hpar]
  rintro e w2 ⟨a2, c2, gs2, qs2, rfl, hL2, hN2⟩
  refine ⟨a2, c2, rfl, ?_⟩
  show Calls _ _ _ _ _
  refine (parse_any w2 _ b (Sl.later hc1 hN2) hbl).mono ?_
  rw [hpar]
  rintro e w3 ⟨a3, c3, gs3, qs3, rfl, hL3, hN3⟩
  refine ⟨a3, c3, rfl, ?_⟩
  have hw3 : Nw w w3 := (hN1.trans hN2).trans hN3
  show Calls _ _ _ _ _
  refine (rParse_any w3 vb b (Sl.later hb hw3) hbl).mono ?_
  rw [hpar]
  rintro e w4 ⟨a4, c4, gs4, qs4, rfl, hL4, hN4⟩
  have hw4 : Nw w w4 := hw3.trans hN4
  have hO4 : Ow g1 (.slice (some ⟨g1, 0, none⟩) (b.length + 32) c1) (b ++ marks 32) w4 := ((hO1.nw hN2).nw hN3).nw hN4
  have F : ∀ {X : Nat → Prop} {v l w}, Sl X v l w → Sl (fun _ => False) v l w := fun h => h.mono (fun _ h => h.elim)
  refine ⟨a4, c4, rfl, ?_, ?_, ?_, gs2, ?_⟩
  · exact fun V hV => cbase hV (seqs_same V _ _ _ _ l gs2 gs4 qs2 qs4 (((hL2.nw hN3).nw hN4).nw hV) (hL4.nw hV) (by omega) hlp')
  · exact fun V hV => cbase hV (seqs_same V _ _ _ _ l gs3 gs4 qs3 qs4 ((hL3.nw hN4).nw hV) (hL4.nw hV) (by omega) hlp')
  · exact fun V hV => cbase hV (kept_any V g1 c1 vb b (hO4.nw hV) (F (hb.nw (hw4.trans hV))) (by omega))
  · intro V hV
    have hs2 := hN2.size
    have hs3 := hN3.size
    have hs4 := hN4.size
    have hsV := hV.size
    refine ⟨hw4.trans hV, hO4.nw hV, hb, w1.heap.size, w2.heap.size, qs2, ((hL2.nw hN3).nw hN4).nw hV, hg1l, hN1.size, fun g hg => ?_, fun g hg => (hL2.at g hg).2, by omega, ⟨gs3, qs3, (hL3.nw hN4).nw hV⟩, ⟨gs4, qs4, (hL4.nw hV).more (fun g hg => .inl (by omega))⟩⟩
    rcases hL2.row with ⟨e1, _⟩ | ⟨g', _, _, hO⟩
    · obtain ⟨xs, e, _⟩ := hg
      rw [e1] at e; cases e
    · rw [OwS.uniq hg hO]; exact hO.lt
/-- The plain bytes of the first i written full. -/
def FU (gs : List Nat) (i : Nat) (k : Nat) : Prop := ∃ j, j < i ∧ gs[j]? = some k
theorem full_step {w : World} {vb : Value} {b : List By} {l : List Sq} {g1 c1 : Nat} {a : Option Addr} {n c : Nat} {vy vz : Value} {gs : List Nat} {w5 : World} (h : PQ w vb b l g1 c1 (.slice a n c) vy vz gs w5) (hlp : ∀ s ∈ l, s.p.length ≤ 140737488351232) (i : Nat) (hi : i < l.length) (wr : World) (hF : Fr (FU gs i) w5 wr) :
    ∃ g qa qn qc, a = some ⟨g, 0, none⟩ ∧ wr.cell? ⟨g, i * 3, none⟩ = some (.slice qa qn qc) ∧ l.length ≤ c ∧ Hid (Calls Try.prog 14 #[.slice qa qn qc, .int .u8 9] wr fun e w' => (∃ r, e = .returned r) ∧ Hid (Fr (FU gs (i + 1)) w5 w')) := by
  obtain ⟨B1, B2, qs, hX, hg1, hB1, hr1, hr2, hB2, _, _⟩ := h.x
  obtain ⟨g, q, gp, rfl, hgp, hq, x0, _, _, hO, hlc⟩ := hX.get i hi
  rw [Nat.mul_comm 3 i] at x0
  have hgn : g ∉ gs := by
    rcases hX.row with ⟨e1, _⟩ | ⟨g', _, h2, h3⟩
    · cases e1
    · obtain ⟨xs, e, _⟩ := h3
      injection e with e
      injection e with e
      injection e with e _
      rw [e]; exact h2
  have hng : ¬ FU gs i g := fun ⟨j, _, hj⟩ => hgn (List.mem_iff_getElem?.2 ⟨j, hj⟩)
  have hngp : ¬ FU gs i gp := fun ⟨j, hj, hj2⟩ => by
    have h1 := (List.getElem?_eq_some_iff.1 hgp)
    have h2 := (List.getElem?_eq_some_iff.1 hj2)
    obtain ⟨hi1, e1⟩ := h1
    obtain ⟨hj1, e2⟩ := h2
    have := (List.pairwise_iff_getElem.1 hX.nd) j i hj1 hi1 hj
    rw [e1, e2] at this
    exact this rfl
  have hOr := hO.kept hF hngp
  refine ⟨g, q.a, q.n, q.c, rfl, hF.cellv x0 hng, hlc, ?_⟩
  show Calls _ _ _ _ _
  refine (full_any (fun k => k < wr.heap.size ∧ k ≠ gp) wr (fun k hk => hk.1) _ l[i].p (.inr ⟨gp, fun hk => hk.2 rfl, hOr⟩) (hlp _ (List.getElem_mem hi)) 9#8).mono ?_
  rintro e w' ⟨hr, hF'⟩
  refine ⟨hr, ?_⟩
  refine Fr.trans (hF.mono (fun k hk => .inl ?_)) (hF'.mono (fun k hk => ?_))
  · obtain ⟨j, hj, hj2⟩ := hk
    exact ⟨j, by omega, hj2⟩
  · by_cases hkg : k = gp
    · exact .inl ⟨i, by omega, by rw [hkg]; exact hgp⟩
    · exact .inr (by
        by_cases hlt : k < wr.heap.size
        · exact absurd ⟨hlt, hkg⟩ hk
        · omega)
/-- The row's blocks and the plain bytes' blocks. -/
def ZU (gs : List Nat) (g : Nat) (k : Nat) : Prop := k ∈ gs ∨ k = g
/-- What is left of it behind the loops. -/
theorem last_step {w : World} {vb : Value} {b : List By} {l : List Sq} {g1 c1 : Nat} {vx : Value} {ay az : Option Addr} {ny cy nz cz : Nat} {gs : List Nat} {w5 : World} (h : PQ w vb b l g1 c1 vx (.slice ay ny cy) (.slice az nz cz) gs w5) (hl : l.length ≤ 100000000) (hbl : b.length ≤ 140737488351232) (hlp : ∀ s ∈ l, s.p.length ≤ 140737488351232) (wr : World) (X : Nat → Prop) (hF : Fr X w5 wr) (hX : ∀ k, X k → k ∈ gs ∨ ∃ qs, OwS k vx qs w5) :
    Hid (Calls Try.prog 15 #[.slice (some ⟨wr.heap.size, 0, none⟩) 1 1] (wr.alloc (.cells #[.int .u8 0] 5)) fun e w7 => ∃ a7 c7, e = .returned (.tuple #[.slice a7 1 c7, .int .i64 0, .int .i64 0]) ∧ Hid (SeqsC (.slice ay ny cy) (.slice az nz cz) w7) ∧ Hid (∀ V, Nw w7 V → Calls Try.prog 13 #[.slice (some ⟨g1, 0, none⟩) (b.length + 32) c1, vb] V fun e w' => e = .returned (.bool true) ∧ Nw w7 w') ∧ Hid (Nw w w7)) := by
  obtain ⟨B1, B2, qs, hL, hg1, hB1, hr1, hr2, hB2, ⟨gy, qy, hy⟩, ⟨gz, qz, hz⟩⟩ := h.x
  have hXlo : ∀ k, X k → B1 ≤ k ∧ k < B2 := fun k hk => by
    rcases hX k hk with hk | ⟨qs', hk⟩
    · have := (hL.at k hk).1
      exact ⟨by omega, hr2 k hk⟩
    · rcases hL.row with ⟨e1, _⟩ | ⟨g', h1, _, h3⟩
      · obtain ⟨xs, e, _⟩ := hk
        rw [e1] at e; cases e
      · have := OwS.uniq hk h3
        subst this
        exact ⟨by omega, hr1 k h3⟩
  have hNr : Nw w wr := Fr.then h.nw hF (fun k hk => .inr (by have := (hXlo k hk).1; omega))
  have hA : Nw wr (wr.alloc (.cells #[.int .u8 0] 5)) := (Fr.refl _ _).alloc _
  have hsz : (wr.alloc (.cells #[.int .u8 0] 5)).heap.size = wr.heap.size + 1 := by simp
  have h0 : Old (wr.alloc (.cells #[.int .u8 0] 5)) (.slice (some ⟨wr.heap.size, 0, none⟩) 1 1) [0#8] := .inr ⟨wr.heap.size, by omega, 0, 1, rfl, by simp, by decide, fun j hj => by
    obtain rfl : j = 0 := by simp at hj; exact hj
    exact new_cell _ _ _ _ _ rfl⟩
  show Calls _ _ _ _ _
  refine (parse_any _ _ [0#8] h0 (by simp)).mono ?_
  rw [parse_zero]
  rintro e w7 ⟨a7, c7, gs7, qs7, rfl, _, hN7⟩
  have h7 : Nw wr w7 := hA.trans hN7
  have hF7 : Fr X w5 w7 := hF.trans h7.any
  have hy7 := hy.kept hF7 (fun k hk => .inl (hXlo k hk).2)
  have hz7 := hz.kept hF7 (fun k hk => .inl (hXlo k hk).2)
  have hO7 := h.all.kept hF7 (fun hk => by have := (hXlo _ hk).1; omega)
  refine ⟨a7, c7, rfl, fun V hV => cbase hV (seqs_same V _ _ _ _ l gy gz qy qz (hy7.nw hV) (hz7.nw hV) hl hlp), fun V hV => cbase hV (kept_any V g1 c1 vb b (hO7.nw hV) ((h.vb.nw ((hNr.trans h7).trans hV)).mono (fun _ h => h.elim)) hbl), hNr.trans h7⟩
/-- How the second loop stands. -/
def ZI (l : List Sq) (a : Option Addr) (vx : Value) (gs : List Nat) (w5 wr : World) : Prop := ∃ X : Nat → Prop, Fr X w5 wr ∧ (∀ k, X k → k ∈ gs ∨ ∃ qs, OwS k vx qs w5) ∧ (l ≠ [] → ∃ g xs qs, a = some ⟨g, 0, none⟩ ∧ OwS g vx qs w5 ∧ Sw g xs wr ∧ l.length ≤ xs.length)
theorem ZI.start {w : World} {vb : Value} {b : List By} {l : List Sq} {g1 c1 : Nat} {a : Option Addr} {n c : Nat} {vy vz : Value} {gs : List Nat} {w5 : World} (h : PQ w vb b l g1 c1 (.slice a n c) vy vz gs w5) (wr : World) (i : Nat) (hF : Fr (FU gs i) w5 wr) : ZI l a (.slice a n c) gs w5 wr := by
  obtain ⟨B1, B2, qs, hX, _⟩ := h.x
  refine ⟨FU gs i, hF, fun k hk => .inl (by obtain ⟨j, _, hj⟩ := hk; exact List.mem_iff_getElem?.2 ⟨j, hj⟩), fun hl => ?_⟩
  rcases hX.row with ⟨_, rfl⟩ | ⟨g, _, h2, h3⟩
  · exact absurd rfl hl
  · have h3' := h3
    obtain ⟨xs, e, _, x3, _, x5⟩ := h3'
    injection e with e
    exact ⟨g, xs, qs, e, h3, x5.kept hF (fun ⟨j, _, hj⟩ => h2 (List.mem_iff_getElem?.2 ⟨j, hj⟩)), by rw [← hX.ql]; exact x3⟩
theorem ZI.step {l : List Sq} {a : Option Addr} {vx : Value} {gs : List Nat} {w5 wr : World} (h : ZI l a vx gs w5 wr) (i : Nat) (hi : i < l.length) :
    ∃ g, a = some ⟨g, 0, none⟩ ∧ (∃ u0 u1 u2, wr.cell? ⟨g, i * 3, none⟩ = some u0 ∧ wr.cell? ⟨g, i * 3 + 1, none⟩ = some u1 ∧ wr.cell? ⟨g, i * 3 + 2, none⟩ = some u2 ∧ wr.frozen? ⟨g, i * 3, none⟩ = false ∧ wr.frozen? ⟨g, i * 3 + 1, none⟩ = false ∧ wr.frozen? ⟨g, i * 3 + 2, none⟩ = false) ∧
      Hid (ZI l a vx gs w5 (((wr.setCell ⟨g, i * 3, none⟩ (.slice none 0 0)).setCell ⟨g, i * 3 + 1, none⟩ (.int .i64 0)).setCell ⟨g, i * 3 + 2, none⟩ (.int .i64 0))) := by
  obtain ⟨X, hF, hX, hrow⟩ := h
  obtain ⟨g, xs, qs, ha, hO, hS, hl⟩ := hrow (by intro e; rw [e] at hi; simp at hi)
  refine ⟨g, ha, hS.there i (by omega), fun k => X k ∨ k = g, ?_, fun k hk => ?_, fun _ => ⟨g, _, qs, ha, hO, hS.zero i (by omega), by rw [List.length_set]; exact hl⟩⟩
  · have f : Fr (fun k => k = g) wr (((wr.setCell ⟨g, i * 3, none⟩ (.slice none 0 0)).setCell ⟨g, i * 3 + 1, none⟩ (.int .i64 0)).setCell ⟨g, i * 3 + 2, none⟩ (.int .i64 0)) := (((Fr.refl (fun k => k = g) wr).setCell ⟨g, i * 3, none⟩ _ (.inl rfl)).setCell ⟨g, i * 3 + 1, none⟩ _ (.inl rfl)).setCell ⟨g, i * 3 + 2, none⟩ _ (.inl rfl)
    exact (hF.mono (fun k hk => .inl (.inl hk))).trans (f.mono (fun k hk => .inl (.inr hk)))
  · rcases hk with hk | rfl
    · exact hX k hk
    · exact .inr ⟨qs, hO⟩
end Go.Proofs.Ytpnacppmdlnjlaa

import Derived.Test.YtpnacppmdlnjlaaPaB
import Derived.Test.YtpnacppmdlnjlaaLzX
namespace Go.Proofs.Ytpnacppmdlnjlaa
open Go.RowKit
set_option linter.unusedVariables false
/-- The i-th one of a list. -/
theorem SqL.get {K : Nat → Prop} {a : Option Addr} {n c : Nat} {l : List Sq} {gs : List Nat} {qs : List Q} {w : World} (h : SqL K (.slice a n c) l gs qs w) (i : Nat) (hi : i < l.length) : ∃ g q gp, a = some ⟨g, 0, none⟩ ∧ gs[i]? = some gp ∧ qs[i]? = some q ∧ w.cell? ⟨g, 3 * i, none⟩ = some (.slice q.a q.n q.c) ∧ w.cell? ⟨g, 3 * i + 1, none⟩ = some (.int .i64 l[i].b) ∧ w.cell? ⟨g, 3 * i + 2, none⟩ = some (.int .i64 l[i].n) ∧ Ow gp (.slice q.a q.n q.c) l[i].p w ∧ l.length ≤ c := by
  have hq : i < qs.length := by rw [h.ql]; exact hi
  have hg : i < gs.length := by rw [h.gl]; exact hi
  obtain ⟨k1, k2, k3, k4⟩ := h.el i gs[i] qs[i] l[i] (List.getElem?_eq_getElem hg) (List.getElem?_eq_getElem hq) (List.getElem?_eq_getElem hi)
  rcases h.row with ⟨_, rfl⟩ | ⟨g, _, _, hO⟩
  · simp at hi
  · have hO' := hO
    obtain ⟨xs, e, _, x3, _, _⟩ := hO'
    injection e with e1 e2 e3
    refine ⟨g, qs[i], gs[i], e1, List.getElem?_eq_getElem hg, List.getElem?_eq_getElem hq, ?_, ?_, ?_, k1, by rw [← h.ql]; omega⟩
    · exact (hO.cell i 0 qs[i] _ (List.getElem?_eq_getElem hq) rfl).1
    · have := (hO.cell i 1 qs[i] _ (List.getElem?_eq_getElem hq) rfl).1
      rw [k2] at this; exact this
    · have := (hO.cell i 2 qs[i] _ (List.getElem?_eq_getElem hq) rfl).1
      rw [k3] at this; exact this
set_option maxHeartbeats 8000000 in
set_option maxRecDepth 100000 in
theorem seqs_same (w : World) (K1 K2 : Nat → Prop) (v1 v2 : Value) (l : List Sq) (gs1 gs2 : List Nat) (qs1 qs2 : List Q) (h1 : SqL K1 v1 l gs1 qs1 w) (h2 : SqL K2 v2 l gs2 qs2 w) (hl : l.length ≤ 100000000) (hp : ∀ s ∈ l, s.p.length ≤ 140737488351232) :
    Calls Try.prog 17 #[v1, v2] w fun e w' => e = .returned (.bool true) ∧ Nw w w' := by
  obtain ⟨P, hP⟩ : ∃ P : Ending → World → Prop, P = fun e w' => e = .returned (.bool true) ∧ Nw w w' := ⟨_, rfl⟩
  rw [← hP]
  have HP : Hid (P = fun e w' => e = .returned (.bool true) ∧ Nw w w') := hP
  clear hP
  obtain ⟨a1, c1, rfl, _, hc1⟩ := h1.form
  obtain ⟨a2, c2, rfl, _, hc2⟩ := h2.form
  have H1 : Hid (SqL K1 (.slice a1 l.length c1) l gs1 qs1 w) := h1
  have H2 : Hid (SqL K2 (.slice a2 l.length c2) l gs2 qs2 w) := h2
  have HPp : Hid (∀ s ∈ l, s.p.length ≤ 140737488351232) := hp
  clear h1 h2 hp
  generalize hL : l.length = L at *
  have hL' : Hid (l.length = L) := hL
  clear hL
  go_enter Try.func17, Try.ntmps17
  go_wp2
  go_loopg [5] L (fun kx i wr => ∃ (I : Nat), I ≤ L ∧ L - I ≤ kx ∧ i = .int .i64 I ∧ Hid (Nw w wr))
  case atStart => exact ⟨0, by omega, by omega, rfl, Fr.refl _ _⟩
  case round =>
    obtain ⟨I, hI, hkx, rfl, HI⟩ := hrel
    have hN := HI.out
    by_cases hlt : I < L
    · have hlt' : I < l.length := by rw [hL'.out]; exact hlt
      obtain ⟨g1, q1, p1, rfl, _, _, x0, x1, x2, hO1, hb1⟩ := (H1.out.nw hN).get I hlt'
      rw [Nat.mul_comm 3 I] at x0 x1 x2
      obtain ⟨g2, q2, p2, rfl, _, _, y0, y1, y2, hO2, hb2⟩ := (H2.out.nw hN).get I hlt'
      rw [Nat.mul_comm 3 I] at y0 y1 y2
      have HS : Hid (∀ V, Nw wr V → Calls Try.prog 12 #[.slice q1.a q1.n q1.c, .slice q2.a q2.n q2.c] V fun e w' => e = .returned (.bool true) ∧ (w'.cell? ⟨g1, I * 3, none⟩ = some (.slice q1.a q1.n q1.c) ∧ w'.cell? ⟨g1, I * 3 + 1, none⟩ = some (.int .i64 l[I].b) ∧ w'.cell? ⟨g1, I * 3 + 2, none⟩ = some (.int .i64 l[I].n) ∧ w'.cell? ⟨g2, I * 3, none⟩ = some (.slice q2.a q2.n q2.c) ∧ w'.cell? ⟨g2, I * 3 + 1, none⟩ = some (.int .i64 l[I].b) ∧ w'.cell? ⟨g2, I * 3 + 2, none⟩ = some (.int .i64 l[I].n)) ∧ Nw wr w') := fun V hV => by
        have hsm := same_any V _ _ l[I].p l[I].p (Sl.nw (.inr ⟨p1, fun h => h, hO1.slb⟩) hV) (Sl.nw (.inr ⟨p2, fun h => h, hO2.slb⟩) hV) (HPp.out l[I] (List.getElem_mem hlt')) (HPp.out l[I] (List.getElem_mem hlt'))
        rw [decide_eq_true rfl] at hsm
        refine hsm.mono ?_
        rintro e w' ⟨rfl, hN'⟩
        have hN2 := hV.trans hN'
        exact ⟨rfl, ⟨hN2.cell x0, hN2.cell x1, hN2.cell x2, hN2.cell y0, hN2.cell y1, hN2.cell y2⟩, hN2⟩
      rw [hL'.out] at hb1 hb2
      clear H1 H2 HPp hO1 hO2 HP
      generalize (l[I].b : Int) = zb at *
      generalize (l[I].n : Int) = zn at *
      obtain ⟨qa1, qn1, qc1, qb1, ql1⟩ := q1
      obtain ⟨qa2, qn2, qc2, qb2, ql2⟩ := q2
      simp only at x0 y0 HS
      have hz : (I : Int) < (L : Int) := by omega
      go_wp2_with fail
      go_region_held3 (fun w' => w'.cell? ⟨g1, I * 3, none⟩ = some (.slice qa1 qn1 qc1) ∧ w'.cell? ⟨g1, I * 3 + 1, none⟩ = some (.int .i64 zb) ∧ w'.cell? ⟨g1, I * 3 + 2, none⟩ = some (.int .i64 zn) ∧ w'.cell? ⟨g2, I * 3, none⟩ = some (.slice qa2 qn2 qc2) ∧ w'.cell? ⟨g2, I * 3 + 1, none⟩ = some (.int .i64 zb) ∧ w'.cell? ⟨g2, I * 3 + 2, none⟩ = some (.int .i64 zn)) (first | exact ⟨x0, x1, x2, y0, y1, y2⟩ | assumption)
        (first | (go_at_call 12; with_reducible refine (HS.out _ (Fr.refl _ _).drew).mono ?_; rintro e w1 ⟨rfl, hz0, hN1⟩))
      all_goals go_wp2_with fail
      all_goals go_roundg (L - (I + 1))
      all_goals (first | omega | exact ⟨I + 1, by omega, by omega, by first | rfl | (congr 1), hN.trans hN1⟩)
    · have HF : Hid (P (.returned (.bool true)) wr) := by
        show P _ _
        rw [HP.out]
        exact ⟨rfl, hN⟩
      have hz : ¬ (I : Int) < (L : Int) := by omega
      clear H1 H2 HPp HP
      go_wp2_with fail
      exact HF.out
end Go.Proofs.Ytpnacppmdlnjlaa

import Derived.Test.YtpnacppmdlnjlaaMaE
import Derived.Test.YtpnacppmdlnjlaaLzX
import Derived.Deep.RegionHeld3
namespace Go.Proofs.Ytpnacppmdlnjlaa
open Go.RowKit
set_option linter.unusedVariables false
set_option maxHeartbeats 8000000 in
set_option maxRecDepth 100000 in
theorem seqs_two (w : World) (X1 X2 : Nat → Prop) (v1 v2 : Value) (l : List Si) (h1 : SqR X1 v1 l w) (h2 : SqR X2 v2 l w) :
    Calls Try.prog 17 #[v1, v2] w fun e w' => e = .returned (.bool true) ∧ Nw w w' := by
  obtain ⟨P, hP⟩ : ∃ P : Ending → World → Prop, P = fun e w' => e = .returned (.bool true) ∧ Nw w w' := ⟨_, rfl⟩
  rw [← hP]
  have HP : Hid (P = fun e w' => e = .returned (.bool true) ∧ Nw w w') := hP
  clear hP
  obtain ⟨a1, c1, rfl, hb1, hc1, hLL⟩ := h1.form
  obtain ⟨a2, c2, rfl, hb2, hc2, _⟩ := h2.form
  have H1 : Hid (SqR X1 (.slice a1 l.length c1) l w) := h1
  have H2 : Hid (SqR X2 (.slice a2 l.length c2) l w) := h2
  clear h1 h2
  generalize hL : l.length = L at *
  have hL' : Hid (l.length = L) := hL
  clear hL
  go_enter Try.func17, Try.ntmps17
  go_wp2
  go_loopg [5] L (fun kx i wr => ∃ (I : Nat), I ≤ L ∧ L - I ≤ kx ∧ i = .int .i64 I ∧ Hid (Nw w wr))
  case atStart => exact ⟨0, by omega, by omega, rfl, Fr.refl _ _⟩
  case round =>
    obtain ⟨I, hI, hkx, rfl, HI⟩ := hrel
    have hN := HI.out
    by_cases hlt : I < L
    · have hlt' : I < l.length := by rw [hL'.out]; exact hlt
      obtain ⟨g1, o1, qa1, qc1, _, rfl, x0, x1, x2, hO1, hp1⟩ := (H1.out.nw hN).at I hlt'
      obtain ⟨g2, o2, qa2, qc2, _, rfl, y0, y1, y2, hO2, hp2⟩ := (H2.out.nw hN).at I hlt'
      have HS : Hid (∀ V, Nw wr V → Calls Try.prog 12 #[.slice qa1 l[I].p.length qc1, .slice qa2 l[I].p.length qc2] V fun e w' => e = .returned (.bool true) ∧ (w'.cell? ⟨g1, o1 + I * 3, none⟩ = some (.slice qa1 l[I].p.length qc1) ∧ w'.cell? ⟨g1, o1 + I * 3 + 1, none⟩ = some (.int .i64 l[I].b) ∧ w'.cell? ⟨g1, o1 + I * 3 + 2, none⟩ = some (.int .i64 l[I].n) ∧ w'.cell? ⟨g2, o2 + I * 3, none⟩ = some (.slice qa2 l[I].p.length qc2) ∧ w'.cell? ⟨g2, o2 + I * 3 + 1, none⟩ = some (.int .i64 l[I].b) ∧ w'.cell? ⟨g2, o2 + I * 3 + 2, none⟩ = some (.int .i64 l[I].n)) ∧ Nw wr w') := fun V hV => by
        have hsm := same_any V _ _ l[I].p l[I].p ((hO1.nw hV).mono (fun _ h => h.elim)) ((hO2.nw hV).mono (fun _ h => h.elim)) hp1 hp1
        rw [decide_eq_true rfl] at hsm
        refine hsm.mono ?_
        rintro e w' ⟨rfl, hN'⟩
        have hN2 := hV.trans hN'
        exact ⟨rfl, ⟨hN2.cell x0, hN2.cell x1, hN2.cell x2, hN2.cell y0, hN2.cell y1, hN2.cell y2⟩, hN2⟩
      clear H1 H2 hO1 hO2 HP
      generalize l[I].b = zb at *
      generalize l[I].n = zn at *
      generalize l[I].p.length = pn at *
      have hz : (I : Int) < (L : Int) := by omega
      go_wp2_with fail
      go_region_held3 (fun w' => w'.cell? ⟨g1, o1 + I * 3, none⟩ = some (.slice qa1 pn qc1) ∧ w'.cell? ⟨g1, o1 + I * 3 + 1, none⟩ = some (.int .i64 zb) ∧ w'.cell? ⟨g1, o1 + I * 3 + 2, none⟩ = some (.int .i64 zn) ∧ w'.cell? ⟨g2, o2 + I * 3, none⟩ = some (.slice qa2 pn qc2) ∧ w'.cell? ⟨g2, o2 + I * 3 + 1, none⟩ = some (.int .i64 zb) ∧ w'.cell? ⟨g2, o2 + I * 3 + 2, none⟩ = some (.int .i64 zn)) (first | exact ⟨x0, x1, x2, y0, y1, y2⟩ | assumption)
        (first | (go_at_call 12; with_reducible refine (HS.out _ (Fr.refl _ _).drew).mono ?_; rintro e w1 ⟨rfl, hz0, hN1⟩))
      all_goals go_wp2_with fail
      all_goals go_roundg (L - (I + 1))
      all_goals (first | omega | exact ⟨I + 1, by omega, by omega, by first | rfl | (congr 1), hN.trans hN1⟩)
    · have HF : Hid (P (.returned (.bool true)) wr) := by
        show P _ _
        rw [HP.out]
        exact ⟨rfl, hN⟩
      have hz : ¬ (I : Int) < (L : Int) := by omega
      clear H1 H2 HP
      go_wp2_with fail
      exact HF.out
end Go.Proofs.Ytpnacppmdlnjlaa

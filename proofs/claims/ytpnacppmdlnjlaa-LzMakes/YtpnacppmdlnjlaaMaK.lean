import Derived.Test.YtpnacppmdlnjlaaMaJ
namespace Go.Proofs.Ytpnacppmdlnjlaa
open Go.RowKit
set_option linter.unusedVariables false
set_option maxHeartbeats 8000000 in
set_option maxRecDepth 100000 in
theorem rMade_any (X : Nat → Prop) (w : World) (v : Value) (l : List Si) (hl : SqR X v l w) (r : Bool) (hr : r = true ↔ CanB l) :
    Calls Try.prog 36 #[v] w fun e w' => e = .returned (.bool r) ∧ Nw w w' := by
  obtain ⟨P, hP⟩ : ∃ P : Ending → World → Prop, P = fun e w' => e = .returned (.bool r) ∧ Nw w w' := ⟨_, rfl⟩
  rw [← hP]
  have HP : Hid (P = fun e w' => e = .returned (.bool r) ∧ Nw w w') := hP
  clear hP
  have HT : Hid (CanB l → ∀ V, Nw w V → P (.returned (.bool true)) V) := fun h V hV => by
    rw [HP.out]; rw [hr.2 h]; exact ⟨rfl, hV⟩
  have HF : Hid (¬ CanB l → ∀ V, Nw w V → P (.returned (.bool false)) V) := fun h V hV => by
    rw [HP.out]
    have : r = false := by cases r with
      | false => rfl
      | true => exact absurd (hr.1 rfl) h
    rw [this]; exact ⟨rfl, hV⟩
  obtain ⟨a, c, rfl, hc, hc2, hL⟩ := hl.form
  have HL : Hid (SqR X (.slice a l.length c) l w) := hl
  clear hl hr HP
  by_cases h0 : l = []
  · have HF' : Hid (P (.returned (.bool false)) w) := HF.out (fun h => h.1 h0) w (Fr.refl _ _)
    subst h0
    simp only [List.length_nil]
    clear HL HT HF
    go_enter Try.func36, Try.ntmps36
    go_wp2
    exact HF'.out
  have h1 : 0 < l.length := List.length_pos_iff.2 h0
  generalize hln : l.length = L at *
  have hln' : Hid (l.length = L) := hln
  clear hln
  have hz0 : ¬ (L : Int) = 0 := by omega
  have hzb : ((L : Int) == 0) = false := by simp; omega
  have hz1 : (L : Int) - 1 = ((L - 1 : Nat) : Int) := by omega
  generalize hL1 : L - 1 = L1 at *
  have hb1 : L1 < L := by omega
  have hlt' : L1 < l.length := by rw [hln'.out]; omega
  obtain ⟨g, o, pa, pc, _, rfl, x0, x1, x2, _, _⟩ := HL.out.at L1 hlt'
  have HNo : Hid (¬ (l[L1].b = 0 ∧ l[L1].n = 0) → P (.returned (.bool false)) w) := fun h => HF.out (fun hc => h (by
    have := hc.2.2 (by rw [hln'.out]; omega)
    have e : l.length - 1 = L1 := by rw [hln'.out]; exact hL1
    simp only [e] at this; exact this)) _ (Fr.refl _ _)
  have HYes : Hid (l[L1].b = 0 ∧ l[L1].n = 0 → (∀ i (h : i < l.length), i < L1 → canI l[i]) → ∀ V, Nw w V → P (.returned (.bool true)) V) := fun h hall V hV => HT.out ⟨h0, fun i hi => hall i (by omega) (by rw [hln'.out] at hi; omega), fun hh => by
    have e : l.length - 1 = L1 := by rw [hln'.out]; exact hL1
    simp only [e]; exact h⟩ _ hV
  clear HT x0
  generalize l[L1].b = zb at *
  generalize l[L1].n = zn at *
  by_cases g1 : zb = 0
  · by_cases g2 : zn = 0
    · have HY : Hid ((∀ i (h : i < l.length), i < L1 → canI l[i]) → ∀ V, Nw w V → P (.returned (.bool true)) V) := HYes.out ⟨g1, g2⟩
      subst g1 g2
      clear HNo HYes
      go_enter Try.func36, Try.ntmps36
      go_wp2
      clear x1 x2
      go_loopg [4] L1 (fun kx i wr => ∃ (I : Nat), I ≤ L1 ∧ L1 - I ≤ kx ∧ i = .int .i64 I ∧ Hid (Nw w wr ∧ ∀ i (h : i < l.length), i < I → canI l[i]))
      case atStart => exact ⟨0, by omega, by omega, rfl, Fr.refl _ _, fun i h h2 => by omega⟩
      case round =>
        obtain ⟨I, hI, hkx, rfl, HI⟩ := hrel
        have hN := HI.out.1
        by_cases hlt : I < L1
        · have hlt2 : I < l.length := by rw [hln'.out]; omega
          obtain ⟨g2, o2, pa, pc, _, e2, x0, x1, x2, _, _⟩ := (HL.out.nw hN).at I hlt2
          injection e2 with e2
          injection e2 with e2 e3 _
          subst e2 e3
          have hz : (I : Int) < (L1 : Int) := by omega
          by_cases hci : canI l[I]
          · have HC : Hid (Calls Try.prog 46 #[.agg #[.slice pa l[I].p.length pc, .int .i64 l[I].b, .int .i64 l[I].n]] wr fun e w' => e = .returned (.bool true) ∧ Hid (Nw w w' ∧ ∀ i (h : i < l.length), i < I + 1 → canI l[i])) := by
              refine (rcan_any wr pa l[I].p.length pc l[I] true ⟨fun _ => hci, fun _ => rfl⟩).mono ?_
              rintro e w' ⟨rfl, hN'⟩
              refine ⟨rfl, hN.trans hN', fun i hi hi2 => ?_⟩
              by_cases hii : i = I
              · subst hii; exact hci
              · exact HI.out.2 i hi (by omega)
            clear HI HL HF HY hci
            generalize l[I].p.length = pn at *
            generalize l[I].b = zb at *
            generalize l[I].n = zn at *
            go_wp2_with (first | (go_at_call 46; with_reducible refine (HC.out).mono ?_; rintro e w3 ⟨rfl, HR⟩))
            go_roundg (L1 - (I + 1))
            all_goals (first | omega | exact ⟨I + 1, by omega, by omega, by first | rfl | (congr 1), HR.out⟩)
          · have HC : Hid (Calls Try.prog 46 #[.agg #[.slice pa l[I].p.length pc, .int .i64 l[I].b, .int .i64 l[I].n]] wr fun e w' => e = .returned (.bool false) ∧ Hid (P (.returned (.bool false)) w')) := by
              refine (rcan_any wr pa l[I].p.length pc l[I] false ⟨fun h => (by cases h), fun h => absurd h hci⟩).mono ?_
              rintro e w' ⟨rfl, hN'⟩
              exact ⟨rfl, HF.out (fun hc => hci (hc.2.1 I (by rw [hln'.out]; omega))) _ (hN.trans hN')⟩
            clear HI HL HF HY hci
            generalize l[I].p.length = pn at *
            generalize l[I].b = zb at *
            generalize l[I].n = zn at *
            go_wp2_with (first | (go_at_call 46; with_reducible refine (HC.out).mono ?_; rintro e w3 ⟨rfl, HR⟩))
            exact HR.out
        · obtain rfl : I = L1 := by omega
          have HF' : Hid (P (.returned (.bool true)) wr) := HY.out HI.out.2 _ hN
          have hz : ¬ (I : Int) < (I : Int) := by omega
          clear HI HL HF HY hlt
          go_wp2
          exact HF'.out
    · have HF' : Hid (P _ _) := HNo.out (fun h => g2 h.2)
      subst g1
      clear HNo HYes HF HL
      go_enter Try.func36, Try.ntmps36
      go_wp2
      exact HF'.out
  · have HF' : Hid (P _ _) := HNo.out (fun h => g1 h.1)
    clear HNo HYes HF HL
    go_enter Try.func36, Try.ntmps36
    go_wp2
    exact HF'.out
end Go.Proofs.Ytpnacppmdlnjlaa

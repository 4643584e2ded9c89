import Derived.Test.YtfmghmidklpdaaaPuE
namespace Go.Proofs.Ytfmghmidklpdaaa
open Go.RowKit
set_option linter.unusedVariables false
theorem tot_length (l : List Tx) : l.length ≤ tot l := tot_len l
namespace pathLeaves
set_option maxHeartbeats 8000000 in
set_option maxRecDepth 100000 in
theorem walk (w : World) (a0 : Option Addr) (c0 : Nat) (d : List Tx) (l : Tx) (h0 : OldS w (.slice a0 d.length c0) d) (hd : tot d ≤ 1048576) (hl : l.length ≤ 1048576) :
    Calls Try.prog 5 #[.slice a0 d.length c0, .string (mk l)] w fun e w' => e = .returned (.bool true) ∧ Nw w w' := by
  obtain ⟨P, hP⟩ : ∃ P : Ending → World → Prop, P = fun e w' => e = .returned (.bool true) ∧ Nw w w' := ⟨_, rfl⟩
  rw [← hP]
  have hdl := tot_length d
  obtain ⟨g, c, W1, HA, o1, n1, _⟩ := copyS w _ d h0.any (by omega)
  have HF : Hid (∀ V, Nw W1 V → P (.returned (.bool true)) V) := fun V hV => by rw [hP]; exact ⟨rfl, n1.trans hV⟩
  have HL1 : Hid (∀ V, Nw W1 V → Calls Try.prog 25 #[.slice (some ⟨g, 0, none⟩) d.length c, .string (mk l)] V fun e w' => e = .returned (.bool (lvF d.length l)) ∧ Hid (Nw W1 w')) := fun V hV => (pleaves_any V _ _ _ l (by omega) (by omega)).mono (fun e w' ⟨h1, h2⟩ => ⟨h1, hV.trans h2⟩)
  have HL2 : Hid (∀ V, Nw W1 V → Calls Try.prog 26 #[.slice a0 d.length c0, .string (mk l)] V fun e w' => e = .returned (.bool (lvF d.length l)) ∧ Hid (Nw W1 w')) := fun V hV => (qleaves_any V _ _ _ l (by omega) (by omega)).mono (fun e w' ⟨h1, h2⟩ => ⟨h1, hV.trans h2⟩)
  have HSM : Hid (∀ V, Nw W1 V → Calls Try.prog 13 #[.slice (some ⟨g, 0, none⟩) d.length c, .slice a0 d.length c0] V fun e w' => e = .returned (.bool true) ∧ Hid (Nw W1 w')) := fun V hV => (usame_any V _ _ d d (o1.anyS.nw hV) ((h0.any.nw n1).nw hV)).mono (fun e w' ⟨h1, h2⟩ => ⟨by rw [h1, decide_eq_true rfl], hV.trans h2⟩)
  have HL3 : Hid (∀ V, Nw W1 V → Calls Try.prog 25 #[.slice none 0 0, .string ⟨#[46, 46]⟩] V fun e w' => e = .returned (.bool true) ∧ Hid (Nw W1 w')) := fun V hV => (pleaves_any V none 0 0 [46, 46] (by omega) (by simp)).mono (fun e w' ⟨h1, h2⟩ => ⟨by rw [h1]; rfl, hV.trans h2⟩)
  have HL4 : Hid (∀ V, Nw W1 V → Calls Try.prog 25 #[.slice none 0 0, .string ⟨#[97]⟩] V fun e w' => e = .returned (.bool false) ∧ Hid (Nw W1 w')) := fun V hV => (pleaves_any V none 0 0 [97] (by omega) (by simp)).mono (fun e w' ⟨h1, h2⟩ => ⟨by rw [h1]; rfl, hV.trans h2⟩)
  have H0 : Hid (Nw W1 W1) := Fr.refl _ _
  clear hP h0 o1 n1 hdl hd hl
  have hbb : (lvF d.length l == lvF d.length l) = true := beq_self_eq_true _
  generalize lvF d.length l = B at *
  generalize d.length = N at *
  generalize mk l = s at *
  go_enter Try.func5, Try.ntmps5
  go_wp2_with (first
    | (at_builtin; refine Lib.wpList_append_run _ rfl _ _ 22 22 rfl (.slice (some ⟨w.heap.size, 0, none⟩) 0 0) (.slice a0 N c0) (by simp [Act.eval]) (by simp [Act.eval]) _ _ (HA.out _) ?_)
    | (go_at_call 25; with_reducible refine (HL1.out _ H0.out).mono ?_; rintro e wa ⟨rfl, Ha⟩)
    | (go_at_call 26; with_reducible refine (HL2.out _ Ha.out).mono ?_; rintro e wb ⟨rfl, Hb⟩)
    | (go_at_call 13; with_reducible refine (HSM.out _ Hb.out).mono ?_; rintro e wc ⟨rfl, Hc⟩)
    | (go_at_call 25; with_reducible refine (HL3.out _ Hc.out).mono ?_; rintro e wd ⟨rfl, Hd⟩)
    | (go_at_call 25; with_reducible refine (HL4.out _ Hd.out).mono ?_; rintro e we ⟨rfl, He⟩))
  exact HF.out _ He.out
end pathLeaves
end Go.Proofs.Ytfmghmidklpdaaa

import Derived.Test.YtcogkhcfpgelhabGreatVfD
namespace Go.Proofs.YtcogkhcfpgelhabGreat
open Go.RowKit
set_option linter.unusedVariables false
set_option maxRecDepth 100000
/-! ### Names, targets, metas -/
theorem mk_eqr (l m : Tx) : ((mk l).toList == m) = decide (l = m) := by
  rw [mk_toList]
  by_cases h : l = m
  · subst h; simp
  · rw [decide_eq_false h, beq_eq_false_iff_ne]; exact h
def fitsF (l : Tx) (most : Int) : Bool := decide (l ≠ []) && decide ((l.length : Int) ≤ most) && !decide ((0 : UInt8) ∈ l)
set_option maxHeartbeats 2000000 in
theorem fits_any (l : Tx) (most : Int) (w : World) (hs : l.length ≤ 140737488351232) : Calls Tryz.prog 90 #[.string (mk l), .int .i64 most] w fun e w' => e = .returned (.bool (fitsF l most)) ∧ w = w' := by
  obtain ⟨P, hP⟩ : ∃ P : Ending → World → Prop, P = fun e w' => e = .returned (.bool (fitsF l most)) ∧ w = w' := ⟨_, rfl⟩
  rw [← hP]
  have HF : Hid (P (.returned (.bool (fitsF l most))) w) := by rw [hP]; exact ⟨rfl, rfl⟩
  clear hP
  have HC := tHid (cont_0 l w hs)
  by_cases h0 : l = []
  · have e : fitsF l most = false := by unfold fitsF; simp [h0]
    rw [e] at HF
    subst h0
    clear HC e hs
    have hm : mk [] = ⟨#[]⟩ := rfl
    rw [hm]
    go_enter Tryz.func90, Tryz.ntmps90
    go_wp2_with fail
    exact HF.out
  · have hb := mk_eqr l []
    rw [decide_eq_false h0] at hb
    have hsz := mk_size l
    by_cases h1 : (l.length : Int) ≤ most
    · have e : fitsF l most = !decide ((0 : UInt8) ∈ l) := by unfold fitsF; simp [h0, h1]
      rw [e] at HF
      rw [← hsz] at h1
      have h1d := decide_eq_true h1
      clear e hs hsz h0
      generalize mk l = s at *
      generalize decide ((0 : UInt8) ∈ l) = B at *
      go_enter Tryz.func90, Tryz.ntmps90
      go_wp2_with (first | (go_at_call 91; with_reducible refine HC.out.mono ?_; rintro e w1 ⟨rfl, rfl⟩))
      exact HF.out
    · have e : fitsF l most = false := by unfold fitsF; simp [h1]
      rw [e] at HF
      rw [← hsz] at h1
      have h1d := decide_eq_false h1
      clear e hs hsz h0 HC
      generalize mk l = s at *
      go_enter Tryz.func90, Tryz.ntmps90
      go_wp2_with fail
      exact HF.out
theorem fits_tg (l : Tx) : fitsF l 4096 = tgOk l := by
  unfold fitsF tgOk
  have e : decide ((l.length : Int) ≤ 4096) = decide (l.length ≤ 4096) := by
    by_cases h : l.length ≤ 4096
    · rw [decide_eq_true h, decide_eq_true (by omega)]
    · rw [decide_eq_false h, decide_eq_false (by omega)]
  rw [e]
set_option maxHeartbeats 2000000 in
theorem isTarget_any (l : Tx) (w : World) (hs : l.length ≤ 140737488351232) : Calls Tryz.prog 74 #[.string (mk l)] w fun e w' => e = .returned (.bool (tgOk l)) ∧ w = w' := by
  obtain ⟨P, hP⟩ : ∃ P : Ending → World → Prop, P = fun e w' => e = .returned (.bool (tgOk l)) ∧ w = w' := ⟨_, rfl⟩
  rw [← hP]
  have HF : Hid (P (.returned (.bool (tgOk l))) w) := by rw [hP]; exact ⟨rfl, rfl⟩
  have HC : Hid (Calls Tryz.prog 90 #[.string (mk l), .int .i64 4096] w fun e w' => e = .returned (.bool (tgOk l)) ∧ w = w') := by
    have := fits_any l 4096 w hs
    rw [fits_tg] at this
    exact this
  clear hP
  generalize tgOk l = B at *
  generalize mk l = s at *
  go_enter Tryz.func74, Tryz.ntmps74
  go_wp2_with (first | (go_at_call 90; with_reducible refine HC.out.mono ?_; rintro e w1 ⟨rfl, rfl⟩))
  exact HF.out
theorem nm_fits (l : Tx) : nmOk l = (fitsF l 255 && decide (l ≠ [46]) && decide (l ≠ [46, 46]) && !decide ((47 : UInt8) ∈ l)) := by
  unfold fitsF nmOk
  have e : decide ((l.length : Int) ≤ 255) = decide (l.length ≤ 255) := by
    by_cases h : l.length ≤ 255
    · rw [decide_eq_true h, decide_eq_true (by omega)]
    · rw [decide_eq_false h, decide_eq_false (by omega)]
  rw [e]
  cases decide (l ≠ []) <;> cases decide (l.length ≤ 255) <;> cases decide ((0 : UInt8) ∈ l) <;> cases decide ((47 : UInt8) ∈ l) <;> cases decide (l ≠ [46]) <;> cases decide (l ≠ [46, 46]) <;> rfl
set_option maxHeartbeats 4000000 in
theorem isName_any (l : Tx) (w : World) (hs : l.length ≤ 140737488351232) : Calls Tryz.prog 75 #[.string (mk l)] w fun e w' => e = .returned (.bool (nmOk l)) ∧ w = w' := by
  obtain ⟨P, hP⟩ : ∃ P : Ending → World → Prop, P = fun e w' => e = .returned (.bool (nmOk l)) ∧ w = w' := ⟨_, rfl⟩
  rw [← hP]
  have HF : Hid (P (.returned (.bool (nmOk l))) w) := by rw [hP]; exact ⟨rfl, rfl⟩
  have HC := tHid (fits_any l 255 w hs)
  have HD := tHid (cont_47 l w hs)
  clear hP
  rw [nm_fits] at HF
  have h1 := mk_eqr l [46]
  have h2 := mk_eqr l [46, 46]
  by_cases a1 : l = [46]
  · have hf : fitsF l 255 = true := by rw [a1]; decide
    have e : (fitsF l 255 && decide (l ≠ [46]) && decide (l ≠ [46, 46]) && !decide ((47 : UInt8) ∈ l)) = false := by rw [decide_eq_false (fun h => h a1)]; simp
    rw [e] at HF
    rw [hf] at HC
    rw [decide_eq_true a1] at h1
    clear hf e h2 HD hs a1
    generalize mk l = s at *
    go_enter Tryz.func75, Tryz.ntmps75
    go_wp2_with (first | (go_at_call 90; with_reducible refine HC.out.mono ?_; rintro e w1 ⟨rfl, rfl⟩))
    exact HF.out
  · rw [decide_eq_false a1] at h1
    by_cases a2 : l = [46, 46]
    · have hf : fitsF l 255 = true := by rw [a2]; decide
      have e : (fitsF l 255 && decide (l ≠ [46]) && decide (l ≠ [46, 46]) && !decide ((47 : UInt8) ∈ l)) = false := by rw [decide_eq_false (p := l ≠ [46, 46]) (fun h => h a2)]; simp
      rw [e] at HF
      rw [hf] at HC
      rw [decide_eq_true a2] at h2
      clear hf e HD hs a1 a2
      generalize mk l = s at *
      go_enter Tryz.func75, Tryz.ntmps75
      go_wp2_with (first | (go_at_call 90; with_reducible refine HC.out.mono ?_; rintro e w1 ⟨rfl, rfl⟩))
      exact HF.out
    · rw [decide_eq_false a2] at h2
      rw [decide_eq_true a1, decide_eq_true a2] at HF
      generalize fitsF l 255 = B1 at *
      generalize decide ((47 : UInt8) ∈ l) = B2 at *
      generalize mk l = s at *
      clear a1 a2 hs
      cases B1 with
      | true =>
        simp only [Bool.and_true, Bool.true_and] at HF
        go_enter Tryz.func75, Tryz.ntmps75
        go_wp2_with (first | (go_at_call 90; with_reducible refine HC.out.mono ?_; rintro e w1 ⟨rfl, rfl⟩) | (go_at_call 91; with_reducible refine HD.out.mono ?_; rintro e w1 ⟨rfl, rfl⟩))
        exact HF.out
      | false =>
        simp only [Bool.and_true, Bool.false_and] at HF
        go_enter Tryz.func75, Tryz.ntmps75
        go_wp2_with (first | (go_at_call 90; with_reducible refine HC.out.mono ?_; rintro e w1 ⟨rfl, rfl⟩))
        exact HF.out
abbrev mtV (m : Mt) : Value := .agg #[.int .u32 m.mode, .int .u32 m.uid, .int .u32 m.gid, .int .i64 m.time, .int .i32 m.nano]
set_option maxHeartbeats 4000000 in
theorem isMeta_int (md ud gd time nano : Int) (w : World) : Calls Tryz.prog 63 #[.agg #[.int .u32 md, .int .u32 ud, .int .u32 gd, .int .i64 time, .int .i32 nano]] w fun e w' => e = .returned (.bool (decide (md ≤ 4095) && decide (0 ≤ nano) && decide (nano < 1000000000))) ∧ Nw w w' := by
  obtain ⟨P, hP⟩ : ∃ P : Ending → World → Prop, P = fun e w' => e = .returned (.bool (decide (md ≤ 4095) && decide (0 ≤ nano) && decide (nano < 1000000000))) ∧ Nw w w' := ⟨_, rfl⟩
  rw [← hP]
  have HF : Hid (∀ V, Nw w V → P (.returned (.bool (decide (md ≤ 4095) && decide (0 ≤ nano) && decide (nano < 1000000000)))) V) := fun V hV => by rw [hP]; exact ⟨rfl, hV⟩
  clear hP
  by_cases h1 : md ≤ 4095
  · rw [decide_eq_true h1] at HF
    by_cases h2 : 0 ≤ nano
    · rw [decide_eq_true h2] at HF
      simp only [Bool.true_and] at HF
      have h1d := decide_eq_true h1
      have h2d := decide_eq_true h2
      by_cases h3 : nano < 1000000000
      · rw [decide_eq_true h3] at HF
        have h3d := decide_eq_true h3
        go_enter Tryz.func63, Tryz.ntmps63
        go_wp2_with fail
        exact HF.out _ ((Fr.refl _ _).alloc _)
      · rw [decide_eq_false h3] at HF
        have h3d := decide_eq_false h3
        go_enter Tryz.func63, Tryz.ntmps63
        go_wp2_with fail
        exact HF.out _ ((Fr.refl _ _).alloc _)
    · rw [decide_eq_false h2] at HF
      simp only [Bool.true_and, Bool.false_and] at HF
      have h1d := decide_eq_true h1
      have h2d := decide_eq_false h2
      go_enter Tryz.func63, Tryz.ntmps63
      go_wp2_with fail
      exact HF.out _ ((Fr.refl _ _).alloc _)
  · rw [decide_eq_false h1] at HF
    simp only [Bool.false_and] at HF
    have h1d := decide_eq_false h1
    go_enter Tryz.func63, Tryz.ntmps63
    go_wp2_with fail
    exact HF.out _ ((Fr.refl _ _).alloc _)
theorem isMeta_any (m : Mt) (w : World) : Calls Tryz.prog 63 #[mtV m] w fun e w' => e = .returned (.bool (mtOk m)) ∧ Nw w w' := by
  have h := isMeta_int m.mode m.uid m.gid m.time m.nano w
  have e1 : decide ((m.mode : Int) ≤ 4095) = decide (m.mode ≤ 4095) := by
    by_cases h : m.mode ≤ 4095
    · rw [decide_eq_true h, decide_eq_true (by omega)]
    · rw [decide_eq_false h, decide_eq_false (by omega)]
  rw [e1] at h
  exact h
end Go.Proofs.YtcogkhcfpgelhabGreat

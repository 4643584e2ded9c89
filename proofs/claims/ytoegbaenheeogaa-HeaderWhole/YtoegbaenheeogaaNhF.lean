import Derived.Test.YtoegbaenheeogaaNhE
import Derived.BigQuiet
namespace Go.Proofs.Ytoegbaenheeogaa
open Go.RowKit
set_option linter.unusedVariables false
/-! ### Cut -/
theorem sl_at (s : ByteArray) (q : Nat) (h : q < s.size) : isSl s q ↔ (s[q]'h) = 47 := by
  unfold isSl
  rw [show s.data.toList[q]? = some (s[q]'h) from Lib.data_getElem? s q h]
  simp
theorem lix_succ (s : ByteArray) (m : Nat) : lix s (m + 1) = if isSl s m then (m : Int) else lix s m := rfl
theorem u8_47 (x : UInt8) : ((x.toNat : Int) == 47) = decide (x = 47) := by
  by_cases h : x = 47
  · subst h; rfl
  · rw [decide_eq_false h, beq_eq_false_iff_ne]
    intro e
    apply h
    apply UInt8.toNat_inj.1
    have : (47 : UInt8).toNat = 47 := rfl
    omega
set_option maxHeartbeats 4000000 in
set_option maxRecDepth 100000 in
theorem lastb_any (s : ByteArray) (w : World) (hs : s.size ≤ 140737488351232) : Calls Try.prog 46 #[.string s, .int .u8 47] w fun e w' => e = .returned (.int .i64 (lix s s.size)) ∧ w = w' := by
  obtain ⟨P, hP⟩ : ∃ P : Ending → World → Prop, P = fun e w' => e = .returned (.int .i64 (lix s s.size)) ∧ w = w' := ⟨_, rfl⟩
  rw [← hP]
  have HF : Hid (P (.returned (.int .i64 (lix s s.size))) w) := by rw [hP]; exact ⟨rfl, rfl⟩
  clear hP
  go_enter Try.func46, Try.ntmps46
  go_upto_region 2 with fail
  go_loopg [5] s.size (fun kx v wr => ∃ I : Nat, I ≤ s.size ∧ I ≤ kx ∧ v = .int .i64 ((I : Int) - 1) ∧ wr = w ∧ Hid (lix s s.size = lix s I))
  case atStart => exact ⟨s.size, Nat.le_refl _, Nat.le_refl _, rfl, rfl, rfl⟩
  case round =>
    obtain ⟨I, hI, hkx, rfl, hw, HI⟩ := hrel
    have hw' := hw.symm
    subst hw'
    clear hw
    cases I with
    | zero =>
      have HF2 : Hid (P (.returned (.int .i64 (-1))) w) := by
        have := HF.out
        rw [HI.out] at this
        exact this
      clear HF HI
      go_wp2_with fail
      first | exact HF2.out | (go_ret; exact HF2.out)
    | succ J =>
      have hJ : J < s.size := by omega
      have e1 : ((J + 1 : Nat) : Int) - 1 = (J : Int) := by omega
      rw [e1]
      obtain ⟨x, hx⟩ : ∃ x : UInt8, s[J]'hJ = x := ⟨_, rfl⟩
      have hsl := sl_at s J hJ
      rw [hx] at hsl
      have hxx := u8_47 x
      by_cases h47 : x = 47
      · rw [decide_eq_true h47] at hxx
        have HF2 : Hid (P (.returned (.int .i64 (J : Int))) w) := by
          have := HF.out
          rw [HI.out] at this
          rw [lix_succ, if_pos (hsl.2 h47)] at this
          exact this
        clear HF HI hsl h47
        go_wp2_with fail
        first | exact HF2.out | (go_ret; exact HF2.out)
      · rw [decide_eq_false h47] at hxx
        have HI2 : Hid (lix s s.size = lix s J) := by
          have := HI.out
          rw [lix_succ, if_neg (fun q => h47 (hsl.1 q))] at this
          exact this
        clear HI hsl h47
        go_wp2_with fail
        go_roundg J
        case measure => omega
        case rel => exact ⟨J, by omega, Nat.le_refl _, by first | rfl | (congr 1), rfl, HI2⟩
set_option maxHeartbeats 4000000 in
set_option maxRecDepth 100000 in
theorem last_any (s : ByteArray) (w : World) (hs : s.size ≤ 140737488351232) : Calls Try.prog 29 #[.string s, .string ⟨#[47]⟩] w fun e w' => e = .returned (.int .i64 (lix s s.size)) ∧ w = w' := by
  obtain ⟨P, hP⟩ : ∃ P : Ending → World → Prop, P = fun e w' => e = .returned (.int .i64 (lix s s.size)) ∧ w = w' := ⟨_, rfl⟩
  rw [← hP]
  have HF : Hid (P (.returned (.int .i64 (lix s s.size))) w) := by rw [hP]; exact ⟨rfl, rfl⟩
  have HL := tHid (lastb_any s w hs)
  obtain ⟨sp, hsp⟩ : ∃ sp : ByteArray, sp = ⟨#[47]⟩ := ⟨_, rfl⟩
  rw [← hsp]
  have hz : sp.size = 1 := by rw [hsp]; rfl
  have e0 : ∀ h, (sp[0]'h).toNat = 47 := by subst hsp; intro h; rfl
  clear hP hsp
  generalize lix s s.size = r at *
  go_enter Try.func29, Try.ntmps29
  go_wp2_with (first | (go_at_call 46; with_reducible refine HL.out.mono ?_; rintro e w1 ⟨rfl, rfl⟩))
  first | exact HF.out | (go_ret; exact HF.out) | (go_ret3; exact HF.out)
theorem lix_ext (s : ByteArray) (m : Nat) (hm : m ≤ s.size) (k : Nat) (hk : k ≤ m) : lix (s.extract 0 m) k = lix s k := by
  induction k with
  | zero => rfl
  | succ k ih =>
    unfold lix
    have e : isSl (s.extract 0 m) k ↔ isSl s k := by
      unfold isSl
      rw [ByteArray.data_extract, Array.toList_extract, List.extract_eq_take_drop]
      simp only [Nat.sub_zero, List.drop_zero, List.getElem?_take]
      rw [if_pos (by omega)]
    rw [ih (by omega)]
    by_cases h : isSl s k
    · rw [if_pos h, if_pos (e.2 h)]
    · rw [if_neg h, if_neg (fun q => h (e.1 q))]
set_option maxHeartbeats 4000000 in
set_option maxRecDepth 100000 in
theorem cut_any (s : ByteArray) (w : World) (hs : s.size ≤ 140737488351232) : Calls Try.prog 10 #[.string s] w fun e w' => e = .returned (cutV s) ∧ Nw w w' := by
  obtain ⟨P, hP⟩ : ∃ P : Ending → World → Prop, P = fun e w' => e = .returned (cutV s) ∧ Nw w w' := ⟨_, rfl⟩
  rw [← hP]
  have HF : Hid (∀ W, Nw w W → P (.returned (cutV s)) W) := fun W hW => by rw [hP]; exact ⟨rfl, hW⟩
  clear hP
  by_cases h1 : s.size ≤ 100
  · rw [cutV_short s h1] at HF
    have d1 : (s.size : Int) ≤ 100 := by omega
    go_enter Try.func10, Try.ntmps10
    go_wp2_with fail
    go_ret3
    exact HF.out _ (Fr.refl _ _)
  · have d1 : ¬ (s.size : Int) ≤ 100 := by omega
    have hM : cM s ≤ s.size := by unfold cM; omega
    have eM : min (156 : Int) ((s.size : Int) - 1) = (cM s : Int) := by unfold cM; omega
    have HL : Hid (Calls Try.prog 29 #[.string (s.extract 0 (cM s)), .string ⟨#[47]⟩] w fun e w' => e = .returned (.int .i64 (lix s (cM s))) ∧ w = w') := by
      have hz : (s.extract 0 (cM s)).size = cM s := by rw [ByteArray.size_extract]; omega
      have := last_any (s.extract 0 (cM s)) w (by omega)
      rw [hz, lix_ext s (cM s) hM (cM s) (Nat.le_refl _)] at this
      exact this
    have hcut : cutA s = if 1 ≤ lix s (cM s) ∧ (s.size : Int) - lix s (cM s) - 1 ≤ 100 then lix s (cM s) else -1 := rfl
    have hge : lix s (cM s) = -1 ∨ ∃ i : Nat, lix s (cM s) = i ∧ i < cM s := by
      rcases lix_spec s (cM s) with ⟨e, _⟩ | ⟨i, e, h1, _⟩
      · exact .inl e
      · exact .inr ⟨i, e, h1⟩
    generalize hr : lix s (cM s) = r at *
    by_cases h2 : r < 1
    · rw [cutV_no s h1 (by rw [hcut, if_neg (by omega)])] at HF
      clear hcut
      go_enter Try.func10, Try.ntmps10
      go_wp2_with (first | (go_at_call 29; with_reducible refine HL.out.mono ?_; rintro e w1 ⟨rfl, rfl⟩))
      go_ret3
      exact HF.out _ (Fr.refl _ _)
    · obtain ⟨i, rfl, hi⟩ : ∃ i : Nat, r = i ∧ i < cM s := by
        rcases hge with e | e
        · omega
        · exact e
      by_cases h3 : (s.size : Int) - i - 1 ≤ 100
      · rw [cutV_at s h1 i (by rw [hcut, if_pos (by omega)])] at HF
        clear hcut hge
        go_enter Try.func10, Try.ntmps10
        go_upto_region 6 with (first | (go_at_call 29; with_reducible refine HL.out.mono ?_; rintro e w1 ⟨rfl, rfl⟩))
        go_quiet (fail)
        go_wp2_with fail
        go_ret3
        exact HF.out _ ((Fr.refl _ _).drewN _)
      · rw [cutV_no s h1 (by rw [hcut, if_neg (by omega)])] at HF
        clear hcut hge
        go_enter Try.func10, Try.ntmps10
        go_wp2_with (first | (go_at_call 29; with_reducible refine HL.out.mono ?_; rintro e w1 ⟨rfl, rfl⟩))
        go_ret3
        exact HF.out _ (Fr.refl _ _)
end Go.Proofs.Ytoegbaenheeogaa

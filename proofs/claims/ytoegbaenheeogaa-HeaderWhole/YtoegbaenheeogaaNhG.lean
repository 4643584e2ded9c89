import Derived.Test.YtoegbaenheeogaaNhF
namespace Go.Proofs.Ytoegbaenheeogaa
open Go.RowKit
set_option linter.unusedVariables false
/-! ### The document's Cut, Records and Pad -/
set_option maxHeartbeats 4000000 in
set_option maxRecDepth 100000 in
theorem rcut_any (s : ByteArray) (w : World) (hs : s.size ≤ 140737488351232) : Calls Try.prog 11 #[.string s] w fun e w' => e = .returned (cutV s) ∧ Nw w w' := by
  obtain ⟨P, hP⟩ : ∃ P : Ending → World → Prop, P = fun e w' => e = .returned (cutV s) ∧ Nw w w' := ⟨_, rfl⟩
  rw [← hP]
  have HF : Hid (∀ W, Nw w W → P (.returned (cutV s)) W) := fun W hW => by rw [hP]; exact ⟨rfl, hW⟩
  clear hP
  by_cases h1 : s.size ≤ 100
  · rw [cutV_short s h1] at HF
    have d1 : (s.size : Int) ≤ 100 := by omega
    go_enter Try.func11, Try.ntmps11
    go_wp2_with fail
    go_ret3
    exact HF.out _ (Fr.refl _ _)
  · have d1 : ¬ (s.size : Int) ≤ 100 := by omega
    have H1 := tHid h1
    clear h1
    go_enter Try.func11, Try.ntmps11
    go_upto_region 4 with fail
    go_loopg [5] 155 (fun kx v wr => ∃ I : Nat, I ≤ 155 ∧ I ≤ kx ∧ v = .int .i64 (I : Int) ∧ wr = w ∧ Hid (∀ q, I < q → ¬ cCond s q))
    case atStart => exact ⟨155, Nat.le_refl _, Nat.le_refl _, rfl, rfl, fun q hq hc => by have := hc.2.1; omega⟩
    case round =>
      obtain ⟨I, hI, hkx, rfl, hw, HI⟩ := hrel
      have hw' := hw.symm
      subst hw'
      clear hw
      cases I with
      | zero =>
        have HF2 : Hid (P (.returned (.tuple #[.string ⟨#[]⟩, .string ⟨#[]⟩, .int .i64 133])) w) := by
          rw [← cutV_no s H1.out (cut_not s (fun q hc => HI.out q (by have := hc.1; omega) hc))]
          exact HF.out _ (Fr.refl _ _)
        clear HF HI
        go_wp2_with fail
        go_ret3
        exact HF2.out
      | succ J =>
        have HNX : Hid (¬ cCond s (J + 1) → ∀ q, J < q → ¬ cCond s q) := fun hn q hq => by
          by_cases e : q = J + 1
          · rw [e]; exact hn
          · exact HI.out q (by omega)
        have e1 : ((J + 1 : Nat) : Int) = (J : Int) + 1 := by omega
        have e2 : (J : Int) + 1 - 1 = (J : Int) := by omega
        rw [e1]
        by_cases hlt : J + 1 < s.size
        · have hl : (J : Int) + 1 < (s.size : Int) := by omega
          have hl2 : ((J : Int) + 1).toNat = J + 1 := by omega
          obtain ⟨x, hx⟩ : ∃ x : UInt8, s[J + 1]'hlt = x := ⟨_, rfl⟩
          have hsl := sl_at s (J + 1) hlt
          rw [hx] at hsl
          have hxx := u8_47 x
          by_cases h47 : x = 47
          · rw [decide_eq_true h47] at hxx
            by_cases hb : J + 3 ≤ s.size ∧ s.size ≤ J + 102
            · have hb1 : 1 ≤ (s.size : Int) - ((J : Int) + 1) - 1 := by omega
              have hb2 : (s.size : Int) - ((J : Int) + 1) - 1 ≤ 100 := by omega
              have HF2 : Hid (∀ W, Nw w W → P (.returned (.tuple #[.string (s.extract 0 (J + 1)), .string (s.extract (J + 1 + 1) s.size), .int .i64 0])) W) := fun W hW => by
                rw [← cutV_at s H1.out (J + 1) (cut_last s (J + 1) ⟨by omega, hI, hsl.2 h47, by omega, by omega⟩ HI.out)]
                exact HF.out W hW
              have hc1 : (J : Int) + 1 ≤ (s.size : Int) := by omega
              have hc2 : (J : Int) + 1 + 1 ≤ (s.size : Int) := by omega
              have hl3 : ((J : Int) + 1 + 1).toNat = J + 1 + 1 := by omega
              clear HF HI hsl h47 HNX
              go_upto_region 7 with fail
              go_quiet (fail)
              go_wp2_with fail
              go_ret3
              exact HF2.out _ ((Fr.refl _ _).drewN _)
            · have HI2 := tHid (HNX.out (fun hc => hb ⟨hc.2.2.2.1, by have := hc.2.2.2.2; omega⟩))
              clear HF HI hsl h47 HNX
              by_cases hb1 : 1 ≤ (s.size : Int) - ((J : Int) + 1) - 1
              · have hb2 : ¬ (s.size : Int) - ((J : Int) + 1) - 1 ≤ 100 := by omega
                go_wp2_with fail
                go_roundg J
                case measure => omega
                case rel => exact ⟨J, by omega, Nat.le_refl _, by first | rfl | (congr 1), rfl, HI2⟩
              · go_wp2_with fail
                go_roundg J
                case measure => omega
                case rel => exact ⟨J, by omega, Nat.le_refl _, by first | rfl | (congr 1), rfl, HI2⟩
          · rw [decide_eq_false h47] at hxx
            have HI2 := tHid (HNX.out (fun hc => h47 (hsl.1 hc.2.2.1)))
            clear HF HI hsl h47 HNX
            go_wp2_with fail
            go_roundg J
            case measure => omega
            case rel => exact ⟨J, by omega, Nat.le_refl _, by first | rfl | (congr 1), rfl, HI2⟩
        · have HI2 := tHid (HNX.out (fun hc => by have := hc.2.2.2.1; omega))
          have hl : ¬ (J : Int) + 1 < (s.size : Int) := by omega
          clear HF HI HNX
          go_wp2_with fail
          go_roundg J
          case measure => omega
          case rel => exact ⟨J, by omega, Nat.le_refl _, by first | rfl | (congr 1), rfl, HI2⟩
/-! ### Records, Pad -/
def rcF (n : Int) : Int := if n < 1 then 0 else (n - 1).tdiv 512 + 1
def pdF (n : Int) : Int := if n < 1 then 0 else 511 - (n - 1) % 512
set_option maxHeartbeats 1000000 in
set_option maxRecDepth 100000 in
theorem records_any (n : Int) (w : World) (h1 : -9223372036854775808 ≤ n) (h2 : n ≤ 9223372036854775807) : Calls Try.prog 12 #[.int .i64 n] w fun e w' => e = .returned (.int .i64 (rcF n)) ∧ w = w' := by
  obtain ⟨P, hP⟩ : ∃ P : Ending → World → Prop, P = fun e w' => e = .returned (.int .i64 (rcF n)) ∧ w = w' := ⟨_, rfl⟩
  rw [← hP]
  have HF : Hid (P (.returned (.int .i64 (rcF n))) w) := by rw [hP]; exact ⟨rfl, rfl⟩
  clear hP
  unfold rcF at HF
  by_cases h : n < 1
  · rw [if_pos h] at HF
    go_enter Try.func12, Try.ntmps12
    go_wp2_with fail
    first | exact HF.out | (go_ret; exact HF.out)
  · rw [if_neg h] at HF
    have q1 : 0 ≤ (n - 1).tdiv 512 ∧ (n - 1).tdiv 512 ≤ 9223372036854775806 := by rw [Int.tdiv_eq_ediv_of_nonneg (by omega)]; omega
    go_enter Try.func12, Try.ntmps12
    go_wp2_with fail
    first | exact HF.out | (go_ret; exact HF.out)
set_option maxHeartbeats 1000000 in
set_option maxRecDepth 100000 in
theorem rrecords_any (n : Int) (w : World) (h1 : -9223372036854775808 ≤ n) (h2 : n ≤ 9223372036854775807) : Calls Try.prog 13 #[.int .i64 n] w fun e w' => e = .returned (.int .i64 (rcF n)) ∧ w = w' := by
  obtain ⟨P, hP⟩ : ∃ P : Ending → World → Prop, P = fun e w' => e = .returned (.int .i64 (rcF n)) ∧ w = w' := ⟨_, rfl⟩
  rw [← hP]
  have HF : Hid (P (.returned (.int .i64 (rcF n))) w) := by rw [hP]; exact ⟨rfl, rfl⟩
  clear hP
  unfold rcF at HF
  by_cases h : n < 1
  · rw [if_pos h] at HF
    go_enter Try.func13, Try.ntmps13
    go_wp2_with fail
    first | exact HF.out | (go_ret; exact HF.out)
  · rw [if_neg h] at HF
    have q1 : 0 ≤ (n - 1).tdiv 512 ∧ (n - 1).tdiv 512 ≤ 9223372036854775806 := by rw [Int.tdiv_eq_ediv_of_nonneg (by omega)]; omega
    go_enter Try.func13, Try.ntmps13
    go_wp2_with fail
    first | exact HF.out | (go_ret; exact HF.out)
set_option maxHeartbeats 1000000 in
set_option maxRecDepth 100000 in
theorem pad_any (n : Int) (w : World) (h1 : -9223372036854775808 ≤ n) (h2 : n ≤ 9223372036854775807) : Calls Try.prog 14 #[.int .i64 n] w fun e w' => e = .returned (.int .i64 (pdF n)) ∧ w = w' := by
  obtain ⟨P, hP⟩ : ∃ P : Ending → World → Prop, P = fun e w' => e = .returned (.int .i64 (pdF n)) ∧ w = w' := ⟨_, rfl⟩
  rw [← hP]
  have HF : Hid (P (.returned (.int .i64 (pdF n))) w) := by rw [hP]; exact ⟨rfl, rfl⟩
  clear hP
  unfold pdF at HF
  by_cases h : n < 1
  · rw [if_pos h] at HF
    go_enter Try.func14, Try.ntmps14
    go_wp2_with fail
    first | exact HF.out | (go_ret; exact HF.out)
  · rw [if_neg h] at HF
    go_enter Try.func14, Try.ntmps14
    go_wp2_with fail
    exact HF.out
set_option maxHeartbeats 1000000 in
set_option maxRecDepth 100000 in
theorem rpad_any (n : Int) (w : World) (h1 : -9223372036854775808 ≤ n) (h2 : n ≤ 9223372036854775807) : Calls Try.prog 15 #[.int .i64 n] w fun e w' => e = .returned (.int .i64 (pdF n)) ∧ w = w' := by
  obtain ⟨P, hP⟩ : ∃ P : Ending → World → Prop, P = fun e w' => e = .returned (.int .i64 (pdF n)) ∧ w = w' := ⟨_, rfl⟩
  rw [← hP]
  have HF : Hid (P (.returned (.int .i64 (pdF n))) w) := by rw [hP]; exact ⟨rfl, rfl⟩
  clear hP
  unfold pdF at HF
  by_cases h : n < 1
  · rw [if_pos h] at HF
    go_enter Try.func15, Try.ntmps15
    go_wp2_with fail
    first | exact HF.out | (go_ret; exact HF.out)
  · rw [if_neg h] at HF
    have q4 : -(n % 512) % 512 = 511 - (n - 1) % 512 := by omega
    rw [← q4] at HF
    clear q4
    go_enter Try.func15, Try.ntmps15
    go_wp2_with fail
    exact HF.out
/-! ### HeaderCuts -/
set_option maxHeartbeats 4000000 in
set_option maxRecDepth 100000 in
theorem cuts_walk (s : ByteArray) (n : Int) (w : World) (hs : s.size ≤ 140737488351232) (h1 : -9223372036854775808 ≤ n) (h2 : n ≤ 9223372036854775807) :
    Calls Try.prog 4 #[.string s, .int .i64 n] w fun e w' => e = .returned (.bool true) ∧ Nw w w' := by
  obtain ⟨P, hP⟩ : ∃ P : Ending → World → Prop, P = fun e w' => e = .returned (.bool true) ∧ Nw w w' := ⟨_, rfl⟩
  rw [← hP]
  have HF : Hid (∀ W, Nw w W → P (.returned (.bool true)) W) := fun W hW => by rw [hP]; exact ⟨rfl, hW⟩
  clear hP
  obtain ⟨a, b, z, hv⟩ : ∃ a b z, cutV s = .tuple #[.string a, .string b, .int .i64 z] := by
    unfold cutV
    split
    · exact ⟨_, _, _, rfl⟩
    · split <;> exact ⟨_, _, _, rfl⟩
  have HC := tHid (fun V => cut_any s V hs)
  have HX := tHid (fun V => rcut_any s V hs)
  rw [hv] at HC HX
  have HR := tHid (fun V => records_any n V h1 h2)
  have HRX := tHid (fun V => rrecords_any n V h1 h2)
  have HP := tHid (fun V => pad_any n V h1 h2)
  have HPX := tHid (fun V => rpad_any n V h1 h2)
  have HR5 : Hid (∀ V, Calls Try.prog 12 #[.int .i64 513] V fun e w' => e = .returned (.int .i64 2) ∧ V = w') := fun V => records_any 513 V (by decide) (by decide)
  have e1 : (a.toList == a.toList) = true := by simp
  have e2 : (b.toList == b.toList) = true := by simp
  generalize rcF n = r at *
  generalize pdF n = p at *
  clear hv
  go_enter Try.func4, Try.ntmps4
  go_wp2_with (first
    | (go_at_call 10; with_reducible refine (HC.out _).mono ?_; rintro e w1 ⟨rfl, K1⟩)
    | (go_at_call 11; with_reducible refine (HX.out _).mono ?_; rintro e w2 ⟨rfl, K2⟩)
    | (go_at_call 12; with_reducible refine (HR.out _).mono ?_; rintro e w3 ⟨rfl, rfl⟩)
    | (go_at_call 12; with_reducible refine (HR5.out _).mono ?_; rintro e w3 ⟨rfl, rfl⟩)
    | (go_at_call 13; with_reducible refine (HRX.out _).mono ?_; rintro e w3 ⟨rfl, rfl⟩)
    | (go_at_call 14; with_reducible refine (HP.out _).mono ?_; rintro e w3 ⟨rfl, rfl⟩)
    | (go_at_call 15; with_reducible refine (HPX.out _).mono ?_; rintro e w3 ⟨rfl, rfl⟩))
  exact HF.out _ (K1.trans K2)
end Go.Proofs.Ytoegbaenheeogaa

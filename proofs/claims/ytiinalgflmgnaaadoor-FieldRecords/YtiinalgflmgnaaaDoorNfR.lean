import Derived.Test.YtiinalgflmgnaaaDoorNfQ
namespace Go.Proofs.YtiinalgflmgnaaaDoor
open Go.RowKit
set_option linter.unusedVariables false
/-- A field that was written, as slice. -/
theorem put_sl {E : Nat} {L : List By} {w w' : World} {a : Option Addr} {m c : Nat} (h : (E ≠ 0 ∧ a = none ∧ m = 0 ∧ c = 0) ∨ (E = 0 ∧ ∃ g, w.heap.size ≤ g ∧ Ow g (.slice a m c) L w')) (hE : E = 0) : ∃ g, a = some ⟨g, 0, none⟩ ∧ Ow g (.slice (some ⟨g, 0, none⟩) m c) L w' ∧ L.length = m ∧ m ≤ c ∧ c < 9223372036854775808 := by
  rcases h with ⟨h, _⟩ | ⟨_, g, _, hO⟩
  · exact absurd hE h
  · have hO' := hO
    obtain ⟨xs, e, h2, h3, h4, h5⟩ := hO
    injection e with ea en ec
    subst ea
    exact ⟨g, rfl, hO', by omega, by omega, by omega⟩
theorem headD_zero (l : List By) (h : 0 < l.length) : l.headD 0 = l[0] := by
  cases l with
  | nil => simp at h
  | cons x l => rfl
namespace fieldBack
set_option maxHeartbeats 16000000 in
set_option maxRecDepth 100000 in
theorem walk (n d : Int) (s : ByteArray) (w : World) (h1 : -9223372036854775808 ≤ n) (h2 : n ≤ 9223372036854775807) (hs : s.size ≤ 140737488351232) :
    Calls Tryd.prog 5 #[.int .i64 n, .string s, .int .i64 d] w fun e w' => e = .returned (.bool true) ∧ Nw w w' := by
  obtain ⟨P, hP⟩ : ∃ P : Ending → World → Prop, P = fun e w' => e = .returned (.bool true) ∧ Nw w w' := ⟨_, rfl⟩
  rw [← hP]
  have HF : Hid (∀ W, Nw w W → P (.returned (.bool true)) W) := fun W hW => by rw [hP]; exact ⟨rfl, hW⟩
  clear hP
  obtain ⟨E, hE⟩ : ∃ E, pnE n d = E := ⟨_, rfl⟩
  obtain ⟨E2, hE2⟩ : ∃ E2, pxE s d = E2 := ⟨_, rfl⟩
  have HL : Hid (Calls Tryd.prog 24 #[] w fun e w' => e = .returned (.bool true) ∧ Hid (Nw w w')) := lives_any w
  have HPN : Hid (∀ V, Calls Tryd.prog 25 #[.int .i64 n, .int .i64 d] V fun e w' => ∃ a m c, e = .returned (.tuple #[.slice a m c, .int .i64 (E : Nat)]) ∧ Hid (Nw V w' ∧ (E = 0 → (m : Int) = d ∧ m ≤ c ∧ c < 9223372036854775808 ∧ ∃ g, a = some ⟨g, 0, none⟩ ∧ Ow g (.slice (some ⟨g, 0, none⟩) m c) (pnL n d) w'))) := fun V => by
    refine (putNumber_any n d V h1 h2).mono ?_
    rintro e w' ⟨a, m, c, rfl, k1, k2⟩
    rw [hE] at k2 ⊢
    refine ⟨a, m, c, rfl, k1, fun h0 => ?_⟩
    obtain ⟨g, ea, hO, e1, e2, e3⟩ := put_sl k2 h0
    obtain ⟨_, q2, _⟩ := pnL_num n d h1 h2 (by rw [hE]; exact h0)
    exact ⟨by omega, e2, e3, g, ea, hO⟩
  have HPT : Hid (∀ V, Calls Tryd.prog 26 #[.string s, .int .i64 d] V fun e w' => ∃ a m c, e = .returned (.tuple #[.slice a m c, .int .i64 (E2 : Nat)]) ∧ Hid (Nw V w' ∧ (E2 = 0 → (m : Int) = d ∧ Calls Tryd.prog 14 #[.slice a m c] w' fun e w2 => e = .returned (.string s) ∧ Hid (Nw w' w2)))) := fun V => by
    refine (putText_any s d V hs).mono ?_
    rintro e w' ⟨a, m, c, rfl, k1, k2⟩
    rw [hE2] at k2 ⊢
    refine ⟨a, m, c, rfl, k1, fun h0 => ?_⟩
    obtain ⟨g, ea, hO, e1, e2, e3⟩ := put_sl k2 h0
    obtain ⟨q1, q2⟩ := px_ok s d (by rw [hE2]; exact h0)
    refine ⟨by omega, ?_⟩
    subst ea
    refine (text_any w' _ m c _ hO.old).mono ?_
    rintro e w2 ⟨rfl, h⟩
    rw [q1]
    exact ⟨rfl, h⟩
  have H9 : Hid (9 ≤ d → d ≤ 512 → E = 0) := fun a b => by rw [← hE]; exact pn_wide n d h1 h2 a b
  have HNM : Hid (∀ V g m c, E = 0 → Ow g (.slice (some ⟨g, 0, none⟩) m c) (pnL n d) V → (Calls Tryd.prog 12 #[.slice (some ⟨g, 0, none⟩) m c] V fun e w' => e = .returned (.tuple #[.int .i64 n, .int .i64 0]) ∧ Hid (Nw V w')) ∧ (∀ W, Nw V W → d = 12 → ∃ x : Nat, W.cell? ⟨g, 0, none⟩ = some (.int .u8 x) ∧ x < 256 ∧ decide ((x : Int) < 128) = decide (0 ≤ n ∧ n < 8589934592))) := fun V g m c h0 hO => by
    obtain ⟨q1, q2, q3⟩ := pnL_num n d h1 h2 (by rw [hE]; exact h0)
    constructor
    · refine (number_any V _ m c _ hO.old).mono ?_
      rintro e w' ⟨rfl, h⟩
      rw [q1]
      exact ⟨rfl, h⟩
    · intro W hW h12
      subst h12
      have hl : 0 < (pnL n 12).length := by omega
      obtain ⟨hc, _⟩ := (hO.nw hW).at 0 hl
      refine ⟨_, hc, (pnL n 12)[0].isLt, ?_⟩
      have e : (pnL n 12).headD 0 = (pnL n 12)[0] := headD_zero _ hl
      rw [← pnL_twelve n h1 h2, e]
      apply decide_eq_decide.2
      omega
  clear hE hE2
  go_enter Tryd.func5, Tryd.ntmps5
  go_upto_region 4 with (first
    | (go_at_call 24; with_reducible refine HL.out.mono ?_; rintro e w1 ⟨rfl, K1⟩)
    | (go_at_call 25; with_reducible refine (HPN.out _).mono ?_; rintro e w2 ⟨a, m, c, rfl, K2⟩))
  go_cut [30] (fun v wx => v = .bool false ∧ wx = w2)
  case first =>
    clear HL HPN HPT HNM HF K1 K2
    by_cases g1 : 9 ≤ d
    · have d1 : decide (9 ≤ d) = true := decide_eq_true g1
      by_cases g2 : d ≤ 512
      · have d2 : decide (d ≤ 512) = true := decide_eq_true g2
        have h0 := H9.out g1 g2
        clear H9
        subst h0
        go_wp2_with fail
        go_meet
        exact ⟨rfl, rfl⟩
      · have d2 : decide (d ≤ 512) = false := decide_eq_false g2
        clear H9
        go_wp2_with fail
        go_meet
        exact ⟨rfl, rfl⟩
    · have d1 : decide (9 ≤ d) = false := decide_eq_false g1
      clear H9
      go_wp2_with fail
      go_meet
      exact ⟨rfl, rfl⟩
  case rest =>
  obtain ⟨rfl, hw⟩ := hcut
  have hw' := hw.symm
  subst hw'
  clear hw
  by_cases hz : E = 0
  · subst hz
    obtain ⟨k1, k2⟩ := K2.out
    obtain ⟨hm, hmc, hc9, g, rfl, hO⟩ := k2 rfl
    obtain ⟨hnum, h12⟩ := HNM.out w2 g m c rfl hO
    have HN1 := tHid hnum
    have H12 := tHid h12
    have hm3 : m ≤ c := hmc
    clear k2 hnum h12 hO HNM
    go_upto_region 8 with (first
      | (go_at_call 12; with_reducible refine HN1.out.mono ?_; rintro e w3 ⟨rfl, K3⟩))
    have n3 : Nw w w3 := (K1.out.trans k1).trans K3.out
    have HN3 := tHid n3
    have H12b := tHid (fun h => H12.out w3 K3.out h)
    have hself : (n == n) = true := by simp
    have hbne : (n != n) = false := by simp
    have hmd : ((m : Int) != d) = false := by simp [hm]
    have HM := tHid hm
    clear H12 HN1 n3 K3 k1 K1 K2 HPN HL H9 hm
    go_cut [50] (fun v wx => v = .bool false ∧ wx = w3)
    case first =>
      clear H12b HPT HF HN3
      go_wp2_with fail
      go_meet
      exact ⟨rfl, rfl⟩
    case rest =>
    obtain ⟨rfl, hw⟩ := hcut
    have hw' := hw.symm
    subst hw'
    clear hw hmd hbne
    go_upto_region 10 with fail
    go_cut [65] (fun v wx => v = .bool false ∧ wx = w3)
    case first =>
      clear HPT HF HN3
      by_cases g12 : d = 12
      · subst g12
        obtain ⟨x, hx, hx2, hxd⟩ := H12b.out rfl
        have hm0 : 0 < m := by have := HM.out; omega
        have hm1 : (0 : Int) < (m : Int) := by omega
        clear H12b HM
        by_cases q1 : 0 ≤ n
        · have d1 : decide (0 ≤ n) = true := decide_eq_true q1
          by_cases q2 : n < 8589934592
          · have hx3 : (x : Int) < 128 := of_decide_eq_true (hxd.trans (decide_eq_true ⟨q1, q2⟩))
            clear hxd
            have d2 : decide (n < 8589934592) = true := decide_eq_true q2
            go_wp2_with fail
            go_meet
            exact ⟨rfl, rfl⟩
          · have hx3 : ¬ (x : Int) < 128 := of_decide_eq_false (hxd.trans (decide_eq_false (fun h => q2 h.2)))
            clear hxd
            have d2 : decide (n < 8589934592) = false := decide_eq_false q2
            go_wp2_with fail
            go_meet
            exact ⟨rfl, rfl⟩
        · have hx3 : ¬ (x : Int) < 128 := of_decide_eq_false (hxd.trans (decide_eq_false (fun h => q1 h.1)))
          clear hxd
          have d1 : decide (0 ≤ n) = false := decide_eq_false q1
          go_wp2_with fail
          go_meet
          exact ⟨rfl, rfl⟩
      · have d12 : (d == 12) = false := by rw [beq_eq_false_iff_ne]; exact g12
        clear H12b HM
        go_wp2_with fail
        go_meet
        exact ⟨rfl, rfl⟩
    case rest =>
    obtain ⟨rfl, hw⟩ := hcut
    have hw' := hw.symm
    subst hw'
    clear hw H12b
    go_upto_region 13 with (first
      | (go_at_call 26; with_reducible refine (HPT.out _).mono ?_; rintro e w4 ⟨a4, m4, c4, rfl, K4⟩))
    obtain ⟨k1, k2⟩ := K4.out
    have n4 : Nw w w4 := HN3.out.trans k1
    by_cases hz2 : E2 = 0
    · subst hz2
      obtain ⟨hm4, ht⟩ := k2 rfl
      have HT := tHid ht
      have HFF := tHid (fun W h => HF.out W (n4.trans h))
      have hbe : ((m4 : Int) == d) = true := by simp [hm4]
      have hss : (s.toList == s.toList) = true := by simp
      clear K4 k1 k2 n4 HPT HF HN3 ht hm4 HM
      go_wp2_with (first
        | (go_at_call 14; with_reducible refine HT.out.mono ?_; rintro e w5 ⟨rfl, K5⟩))
      exact HFF.out _ K5.out
    · have HFF := tHid (HF.out _ n4)
      have hz3 : ((E2 : Int) != 0) = true := by simp; omega
      clear K4 k1 k2 n4 HPT HF HN3 HM
      go_wp2_with fail
      exact HFF.out
  · have n2 : Nw w w2 := K1.out.trans K2.out.1
    have HN2 := tHid n2
    have hz3 : ((E : Int) == 0) = false := by rw [beq_eq_false_iff_ne]; omega
    clear K1 K2 HPN HL HNM H9 n2
    go_upto_region 13 with (first
      | (go_at_call 26; with_reducible refine (HPT.out _).mono ?_; rintro e w4 ⟨a4, m4, c4, rfl, K4⟩))
    obtain ⟨k1, k2⟩ := K4.out
    have n4 : Nw w w4 := HN2.out.trans k1
    by_cases hz2 : E2 = 0
    · subst hz2
      obtain ⟨hm4, ht⟩ := k2 rfl
      have HT := tHid ht
      have HFF := tHid (fun W h => HF.out W (n4.trans h))
      have hbe : ((m4 : Int) == d) = true := by simp [hm4]
      have hss : (s.toList == s.toList) = true := by simp
      clear K4 k1 k2 n4 HPT HF HN2 ht hm4
      go_wp2_with (first
        | (go_at_call 14; with_reducible refine HT.out.mono ?_; rintro e w5 ⟨rfl, K5⟩))
      exact HFF.out _ K5.out
    · have HFF := tHid (HF.out _ n4)
      have hz4 : ((E2 : Int) != 0) = true := by simp; omega
      clear K4 k1 k2 n4 HPT HF HN2
      go_wp2_with fail
      exact HFF.out
end fieldBack
end Go.Proofs.YtiinalgflmgnaaaDoor

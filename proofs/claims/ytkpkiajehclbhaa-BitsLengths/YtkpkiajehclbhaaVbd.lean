import Derived.Test.YtkpkiajehclbhaaVbc
namespace Go.Proofs.Ytkpkiajehclbhaa
open Go.RowKit
set_option linter.unusedVariables false
variable {g n c ob : Nat} {xs : List Nat} {os : List Int} {w : World}
/-- What is asked of a merging of less. -/
def SymH (g n c ob : Nat) (os : List Int) (N : Nat) : Prop := ∀ V ys a m b, SoI g n c ob os ys V → a < m → m < b → b ≤ n → b - a ≤ N → Srt (kof os) a m ys → Srt (kof os) m b ys → Calls Try.prog 72 (symArgs g n c a m b ob) V (SwA (fun xs ys => Mv a b xs ys ∧ Srt (kof os) a b ys) g n c ys V)
set_option maxHeartbeats 32000000 in
set_option maxRecDepth 100000 in
theorem sym3 (h : SoI g n c ob os xs w) (a m b : Nat) (ham : a + 1 < m) (hmb : m + 1 < b) (hb : b ≤ n) (s1 : Srt (kof os) a m xs) (s2 : Srt (kof os) m b xs) (IH : SymH g n c ob os (b - a - 1)) : Calls Try.prog 72 (symArgs g n c a m b ob) w (SwA (fun xs ys => Mv a b xs ys ∧ Srt (kof os) a b ys) g n c xs w) := by
  obtain ⟨P, hP⟩ : ∃ P : Ending → World → Prop, P = SwA (fun xs ys => Mv a b xs ys ∧ Srt (kof os) a b ys) g n c xs w := ⟨_, rfl⟩
  rw [← hP]
  obtain ⟨hc1, hc2⟩ := h.d.cap
  have hnl := h.d.nl
  have hl := h.d.len
  obtain ⟨d, hd⟩ : ∃ d, d + a = m := ⟨m - a, by omega⟩
  have hma : (m : Int) - (a : Int) = (d : Int) := by omega
  have hde : ((d : Int) == 1) = false := by simp; omega
  obtain ⟨d2, hd2⟩ : ∃ d2, d2 + m = b := ⟨b - m, by omega⟩
  have hbm : (b : Int) - (m : Int) = (d2 : Int) := by omega
  have hde2 : ((d2 : Int) == 1) = false := by simp; omega
  obtain ⟨mid, hmid⟩ : ∃ mid, mid = (a + b) / 2 := ⟨_, rfl⟩
  have hmi : ((a : Int) + (b : Int)) / 2 = (mid : Int) := by omega
  obtain ⟨nn, hnn⟩ : ∃ nn, mid + m = nn := ⟨_, rfl⟩
  have hni : (mid : Int) + (m : Int) = (nn : Int) := by omega
  obtain ⟨p, hp⟩ : ∃ p, p + 1 = nn := ⟨nn - 1, by omega⟩
  have hpi : (nn : Int) - 1 = (p : Int) := by omega
  have hmb1 : a < mid := by omega
  have hmb2 : mid < b := by omega
  have HSo : Hid (SoI g n c ob os xs w) := h
  have HS1 : Hid (Srt (kof os) a m xs) := s1
  have HS2 : Hid (Srt (kof os) m b xs) := s2
  have HIH : Hid (SymH g n c ob os (b - a - 1)) := IH
  have HP : Hid (P = SwA (fun xs ys => Mv a b xs ys ∧ Srt (kof os) a b ys) g n c xs w) := hP
  have HM : Hid (mid = (a + b) / 2) := hmid
  clear hP h s1 s2 IH hmid
  go_enter Try.func72, Try.ntmps72
  go_upto_if 140 with fail
  go_cut [20, 21] (fun s r wx => ∃ S0 R0, s = .int .i64 (S0 : Nat) ∧ r = .int .i64 (R0 : Nat) ∧ wx = w ∧ Hid (Rg a m b mid p S0 R0))
  case first =>
    as_aux_lemma =>
      by_cases hgt : mid < m
      · have hz : (mid : Int) < (m : Int) := by omega
        obtain ⟨S0, hS0⟩ : ∃ S0, S0 + b = nn := ⟨nn - b, by have := HM.out; omega⟩
        have hSi : (nn : Int) - (b : Int) = (S0 : Int) := by omega
        have HR : Hid (Rg a m b mid p S0 mid) := by
          have := Rg.one (p := p) (show a < m by omega) (show m < b by omega) HM.out (by omega) hgt
          rw [show mid + m - b = S0 by omega] at this
          exact this
        clear HP HIH HS1 HS2 HSo
        go_wp2_with fail
        go_meet
        exact ⟨S0, mid, rfl, rfl, rfl, HR⟩
      · have hz : ¬ (mid : Int) < (m : Int) := by omega
        have HR : Hid (Rg a m b mid p a m) := Rg.two (by omega) (by omega) HM.out (by omega) (by omega)
        clear HP HIH HS1 HS2 HSo
        go_wp2_with fail
        go_meet
        exact ⟨a, m, rfl, rfl, rfl, HR⟩
  case rest =>
    obtain ⟨S0, R0, rfl, rfl, hwc, HR⟩ := hcut
    rw [hwc]
    clear hwc
    have q1 := HR.out.h1
    have q2 := HR.out.h2
    have q3 := HR.out.h3
    have HB0 : Hid (Bs3 (kof os) p S0 R0 xs S0 R0) := ⟨fun c c1 c2 => by omega, fun c c1 c2 => by omega⟩
    go_wp2_with fail
    go_loopg [20, 21] (R0 - S0) (fun kx s r wr => ∃ (I J : Nat), S0 ≤ I ∧ I ≤ J ∧ J ≤ R0 ∧ J - I ≤ kx ∧ s = .int .i64 I ∧ r = .int .i64 J ∧ Hid (Bs3 (kof os) p S0 R0 xs I J) ∧ Hid (SoI g n c ob os xs wr ∧ Fr (fun k => k = g) w wr))
    case atStart => exact ⟨S0, R0, by omega, by omega, by omega, by omega, rfl, rfl, HB0, ⟨HSo.out, Fr.refl _ _⟩⟩
    case round =>
      clear HB0
      obtain ⟨I, J, hI1, hIJ, hJb, hkx, rfl, rfl, HB, HW⟩ := hrel
      obtain ⟨hS, hFr⟩ := HW.out
      have HW2 : Hid (∀ V, Nw wr V → SoI g n c ob os xs V ∧ Fr (fun k => k = g) w V) := fun V hV => ⟨hS.nw hV, hFr.trans hV.any⟩
      by_cases hlt : I < J
      · have hz : (I : Int) < (J : Int) := by omega
        obtain ⟨H, hH⟩ : ∃ H, H = (I + J) / 2 := ⟨_, rfl⟩
        have hHi : ((I : Int) + (J : Int)) / 2 = (H : Int) := by omega
        have hH1 : I ≤ H := by omega
        have hH2 : H < J := by omega
        obtain ⟨e1, e2⟩ := HR.out.h4 H (by omega) (by omega)
        obtain ⟨x, hx⟩ : ∃ x, x + H = p := ⟨p - H, by omega⟩
        have hxi : (p : Int) - (H : Int) = (x : Int) := by omega
        have hHn : (H : Int) < (n : Int) := by omega
        have hxn : (x : Int) < (n : Int) := by omega
        obtain ⟨k1, k2⟩ := hS.d.cell H (by omega)
        obtain ⟨k3, k4⟩ := hS.d.cell x (by omega)
        have HC : Hid (∀ mm, Calls Try.prog 63 #[.int .i64 (xs.getD x 0 : Nat), .int .i64 (xs.getD H 0 : Nat), .pointer (some ⟨ob, 0, none⟩)] (wr.drewN mm) fun e w' => e = .returned (.int .i64 (cmpv (kof os (xs.getD x 0)) (kof os (xs.getD H 0)))) ∧ ∃ m', w' = (wr.drewN mm).drewN m') := fun mm => hS.cmp x H (by omega) (by omega) mm
        have hcl := cmpv_lt (kof os (xs.getD x 0)) (kof os (xs.getD H 0))
        have hxp : p - H = x := by omega
        by_cases hlt2 : kof os (xs.getD x 0) < kof os (xs.getD H 0)
        · as_aux_lemma =>
            have HN : Hid (Bs3 (kof os) p S0 R0 xs I H) := HB.out.down HR.out HS1.out HS2.out hH1 hH2 hI1 hJb (by rw [hxp]; exact hlt2)
            have hcz := hcl.2 hlt2
            clear HB hcl hlt2 hS hFr HW HSo HP HIH HS1 HS2 HR hH HM hxp
            generalize cmpv (kof os (xs.getD x 0)) (kof os (xs.getD H 0)) = z at *
            have hcd : (!decide (z < 0)) = false := by rw [decide_eq_true hcz]; rfl
            clear hcz
            generalize xs.getD x 0 = u at *
            generalize xs.getD H 0 = v at *
            go_wp2_with fail
            go_quiet (first | (go_at_call 63; refine Calls.quiet_of (HC.out _)))
            go_wp2_with fail
            go_roundg (H - I)
            case measure => omega
            case rel => exact ⟨I, H, by omega, by omega, by omega, by omega, rfl, by first | rfl | (congr 1), HN, HW2.out _ ((Fr.refl _ _).drewN _)⟩
        · as_aux_lemma =>
            have HN : Hid (Bs3 (kof os) p S0 R0 xs (H + 1) J) := HB.out.up HR.out HS1.out HS2.out hH1 hH2 hI1 hJb (by rw [hxp]; omega)
            have hcz : ¬ cmpv (kof os (xs.getD x 0)) (kof os (xs.getD H 0)) < 0 := fun h => hlt2 (hcl.1 h)
            clear HB hcl hlt2 hS hFr HW HSo HP HIH HS1 HS2 HR hH HM hxp
            generalize cmpv (kof os (xs.getD x 0)) (kof os (xs.getD H 0)) = z at *
            have hcd : (!decide (z < 0)) = true := by rw [decide_eq_false hcz]; rfl
            clear hcz
            generalize xs.getD x 0 = u at *
            generalize xs.getD H 0 = v at *
            go_wp2_with fail
            go_quiet (first | (go_at_call 63; refine Calls.quiet_of (HC.out _)))
            go_wp2_with fail
            go_roundg (J - (H + 1))
            case measure => omega
            case rel => exact ⟨H + 1, J, by omega, by omega, by omega, by omega, by first | rfl | (congr 1), rfl, HN, HW2.out _ ((Fr.refl _ _).drewN _)⟩
      · obtain rfl : I = J := by omega
        have hz : ¬ (I : Int) < (I : Int) := by omega
        obtain ⟨E, hE⟩ : ∃ E, E + I = nn := ⟨nn - I, by have := HR.out.h8; have := HR.out.h9; omega⟩
        have hEi : (nn : Int) - (I : Int) = (E : Int) := by omega
        have hmE : m ≤ E := by have := HR.out.h9; omega
        have hEb : E ≤ b := by have := HR.out.h8; omega
        have haI : a ≤ I := by omega
        have hIm : I ≤ m := by omega
        have hImid : I ≤ mid := by omega
        have hmidE : mid ≤ E := by omega
        have HT1 : Hid (∀ V ys, DtI g n c ys V → Fr (fun k => k = g) w V → Mv a b xs ys → Pl (rt I m E) xs ys → ∃ ys, SoI g n c ob os ys V ∧ Fr (fun k => k = g) w V ∧ Mv a b xs ys ∧ Q1 (kof os) a I mid E b ys) := fun V ys h1 h2 h3 h4 => ⟨ys, HSo.out.to h2 h1 h3 hb, h2, h3, HB.out.done HR.out HS1.out HS2.out hI1 (by omega) (by omega) h4⟩
        have HRot : Hid (I < m → m < E → Calls Try.prog 73 #[.slice (some ⟨g, 0, none⟩) n c, .int .i64 I, .int .i64 m, .int .i64 E, cmpF ob] wr fun e w' => (∃ r, e = .returned r) ∧ Hid (∃ ys, SoI g n c ob os ys w' ∧ Fr (fun k => k = g) w w' ∧ Mv a b xs ys ∧ Q1 (kof os) a I mid E b ys)) := fun q1 q2 => by
          refine (rotate_any hS.d I m E q1 q2 (by omega) _).mono ?_
          rintro e w' ⟨⟨r, rfl⟩, k1, ys, k2, k3, k4⟩
          exact ⟨⟨r, rfl⟩, HT1.out w' ys k2 (hFr.trans k1) (k4.mono (by omega) (by omega)) k3⟩
        have HNo : Hid (¬ (I < m ∧ m < E) → ∃ ys, SoI g n c ob os ys wr ∧ Fr (fun k => k = g) w wr ∧ Mv a b xs ys ∧ Q1 (kof os) a I mid E b ys) := fun hn => HT1.out wr xs hS.d hFr (Mv.refl _ _ _) (fun k => by rw [rt_id I m E hIm hmE hn])
        have HSyA : Hid (∀ V, (∃ ys, SoI g n c ob os ys V ∧ Fr (fun k => k = g) w V ∧ Mv a b xs ys ∧ Q1 (kof os) a I mid E b ys) → a < I → I < mid → Calls Try.prog 72 (symArgs g n c a I mid ob) V fun e w' => (∃ r, e = .returned r) ∧ Hid (∃ ys, SoI g n c ob os ys w' ∧ Fr (fun k => k = g) w w' ∧ Mv a b xs ys ∧ Q2 (kof os) a mid E b ys)) := by
          rintro V ⟨ys, h1, h2, h3, h4⟩ q1 q2
          refine (HIH.out V ys a I mid h1 q1 q2 (by omega) (by omega) h4.1 h4.2.1).mono ?_
          rintro e w' ⟨⟨r, rfl⟩, k1, zs, k2, k3, k4⟩
          have k3' := k3.mono (Nat.le_refl a) (Nat.le_of_lt hmb2)
          exact ⟨⟨r, rfl⟩, zs, h1.to k1 k2 k3 (by omega), h2.trans k1, h3.trans k3', h4.call hmidE k3 k4⟩
        have HSyB : Hid (∀ V, (∃ ys, SoI g n c ob os ys V ∧ Fr (fun k => k = g) w V ∧ Mv a b xs ys ∧ Q2 (kof os) a mid E b ys) → mid < E → E < b → Calls Try.prog 72 (symArgs g n c mid E b ob) V fun e w' => (∃ r, e = .returned r) ∧ Hid (∀ r, P (.returned r) w')) := by
          rintro V ⟨ys, h1, h2, h3, h4⟩ q1 q2
          refine (HIH.out V ys mid E b h1 q1 q2 hb (by omega) h4.2.1 h4.2.2.1).mono ?_
          rintro e w' ⟨⟨r, rfl⟩, k1, zs, k2, k3, k4⟩
          refine ⟨⟨r, rfl⟩, fun r' => ?_⟩
          rw [HP.out]
          exact ⟨⟨_, rfl⟩, h2.trans k1, zs, k2, h3.trans (k3.mono (by omega) (Nat.le_refl _)), h4.call k3 k4⟩
        have HEnd : Hid (∀ V, (∃ ys, SoI g n c ob os ys V ∧ Fr (fun k => k = g) w V ∧ Mv a b xs ys ∧ Q2 (kof os) a mid E b ys) → ¬ (mid < E ∧ E < b) → ∀ r, P (.returned r) V) := by
          rintro V ⟨ys, h1, h2, h3, h4⟩ hn r
          rw [HP.out]
          exact ⟨⟨_, rfl⟩, h2, ys, h1.d, h3, h4.skip hmidE hEb hn⟩
        clear HB hS hFr HW HSo HP HIH HS1 HS2 HR HM HW2 HT1
        go_upto_region 39 with fail
        go_cut [185] (fun r wx => ∃ bb : Bool, r = .bool bb ∧ Hid (bb = true ↔ (I < m ∧ m < E)) ∧ wx = wr)
        case first =>
          as_aux_lemma =>
            clear HRot HNo HSyA HSyB HEnd
            by_cases c1 : I < m
            · have z1 : (I : Int) < (m : Int) := by omega
              by_cases c2 : m < E
              · have z2 : (m : Int) < (E : Int) := by omega
                go_wp2_with fail
                go_meet
                exact ⟨_, rfl, (by show true = true ↔ _; simp; omega), rfl⟩
              · have z2 : ¬ (m : Int) < (E : Int) := by omega
                go_wp2_with fail
                go_meet
                exact ⟨_, rfl, (by show false = true ↔ _; simp; omega), rfl⟩
            · have z1 : decide ((I : Int) < (m : Int)) = false := decide_eq_false (by omega)
              go_wp2_with fail
              go_meet
              exact ⟨_, rfl, (by show false = true ↔ _; simp; omega), rfl⟩
        case rest =>
          obtain ⟨bb, rfl, HBB, hwc⟩ := hcut
          rw [hwc]
          clear hwc
          go_upto_if 185 with fail
          go_cut [18] (fun v wx => v = .int .i64 mid ∧ Hid (∃ ys, SoI g n c ob os ys wx ∧ Fr (fun k => k = g) w wx ∧ Mv a b xs ys ∧ Q1 (kof os) a I mid E b ys))
          case first =>
            as_aux_lemma =>
              clear HSyA HSyB HEnd
              cases bb with
              | true =>
                have hc := HBB.out.1 rfl
                have HR2 := HRot.out hc.1 hc.2
                have HR2 : Hid (Calls Try.prog 73 #[.slice (some ⟨g, 0, none⟩) n c, .int .i64 I, .int .i64 m, .int .i64 E, cmpF ob] wr fun e w' => (∃ r, e = .returned r) ∧ Hid (∃ ys, SoI g n c ob os ys w' ∧ Fr (fun k => k = g) w w' ∧ Mv a b xs ys ∧ Q1 (kof os) a I mid E b ys)) := HR2
                clear HRot HNo hc HBB
                go_wp2_with (first | (go_at_call 73; (with_reducible refine HR2.out.mono ?_); rintro e w1 ⟨⟨r, rfl⟩, H1⟩))
                go_meet
                exact ⟨rfl, H1⟩
              | false =>
                have hc : ¬ (I < m ∧ m < E) := fun h => by have := HBB.out.2 h; cases this
                have H1 : Hid (∃ ys, SoI g n c ob os ys wr ∧ Fr (fun k => k = g) w wr ∧ Mv a b xs ys ∧ Q1 (kof os) a I mid E b ys) := HNo.out hc
                clear HRot HNo hc HBB
                go_wp2_with fail
                go_meet
                exact ⟨rfl, H1⟩
          case rest =>
            obtain ⟨rfl, H1⟩ := hcut
            clear HRot HNo
            obtain ⟨w1, hw1⟩ : ∃ w1, wc = w1 := ⟨_, rfl⟩
            rw [hw1] at H1 ⊢
            clear hw1
            go_upto_region 41 with fail
            go_cut [199] (fun r wx => ∃ bb : Bool, r = .bool bb ∧ Hid (bb = true ↔ (a < I ∧ I < mid)) ∧ wx = w1)
            case first =>
              as_aux_lemma =>
                clear HSyA HSyB HEnd
                by_cases c1 : a < I
                · have z1 : (a : Int) < (I : Int) := by omega
                  by_cases c2 : I < mid
                  · have z2 : (I : Int) < (mid : Int) := by omega
                    go_wp2_with fail
                    go_meet
                    exact ⟨_, rfl, (by show true = true ↔ _; simp; omega), rfl⟩
                  · have z2 : ¬ (I : Int) < (mid : Int) := by omega
                    go_wp2_with fail
                    go_meet
                    exact ⟨_, rfl, (by show false = true ↔ _; simp; omega), rfl⟩
                · have z1 : decide ((a : Int) < (I : Int)) = false := decide_eq_false (by omega)
                  go_wp2_with fail
                  go_meet
                  exact ⟨_, rfl, (by show false = true ↔ _; simp; omega), rfl⟩
            case rest =>
              obtain ⟨bb, rfl, HBB, hwc⟩ := hcut
              rw [hwc]
              clear hwc
              go_upto_if 199 with fail
              go_cut [18] (fun v wx => v = .int .i64 mid ∧ Hid (∃ ys, SoI g n c ob os ys wx ∧ Fr (fun k => k = g) w wx ∧ Mv a b xs ys ∧ Q2 (kof os) a mid E b ys))
              case first =>
                as_aux_lemma =>
                  clear HSyB HEnd
                  cases bb with
                  | true =>
                    have hc := HBB.out.1 rfl
                    have HR2 : Hid (Calls Try.prog 72 #[.slice (some ⟨g, 0, none⟩) n c, .int .i64 a, .int .i64 I, .int .i64 mid, cmpF ob] w1 fun e w' => (∃ r, e = .returned r) ∧ Hid (∃ ys, SoI g n c ob os ys w' ∧ Fr (fun k => k = g) w w' ∧ Mv a b xs ys ∧ Q2 (kof os) a mid E b ys)) := HSyA.out w1 H1.out hc.1 hc.2
                    clear HSyA hc H1 HBB
                    go_wp2_with (first | (go_at_call 72; (with_reducible refine HR2.out.mono ?_); rintro e w2 ⟨⟨r, rfl⟩, H2⟩))
                    go_meet
                    exact ⟨rfl, H2⟩
                  | false =>
                    have hc : ¬ (a < I ∧ I < mid) := fun h => by have := HBB.out.2 h; cases this
                    have H2 : Hid (∃ ys, SoI g n c ob os ys w1 ∧ Fr (fun k => k = g) w w1 ∧ Mv a b xs ys ∧ Q2 (kof os) a mid E b ys) := by
                      obtain ⟨ys, h1, h2, h3, h4⟩ := H1.out
                      exact ⟨ys, h1, h2, h3, h4.skip haI hImid hc⟩
                    clear HSyA hc H1 HBB
                    go_wp2_with fail
                    go_meet
                    exact ⟨rfl, H2⟩
              case rest =>
                obtain ⟨rfl, H2⟩ := hcut
                clear HSyA H1
                obtain ⟨w2, hw2⟩ : ∃ w2, wc = w2 := ⟨_, rfl⟩
                rw [hw2] at H2 ⊢
                clear hw2
                go_upto_region 43 with fail
                go_cut [213] (fun r wx => ∃ bb : Bool, r = .bool bb ∧ Hid (bb = true ↔ (mid < E ∧ E < b)) ∧ wx = w2)
                case first =>
                  as_aux_lemma =>
                    clear HSyB HEnd
                    by_cases c1 : mid < E
                    · have z1 : (mid : Int) < (E : Int) := by omega
                      by_cases c2 : E < b
                      · have z2 : (E : Int) < (b : Int) := by omega
                        go_wp2_with fail
                        go_meet
                        exact ⟨_, rfl, (by show true = true ↔ _; simp; omega), rfl⟩
                      · have z2 : ¬ (E : Int) < (b : Int) := by omega
                        go_wp2_with fail
                        go_meet
                        exact ⟨_, rfl, (by show false = true ↔ _; simp; omega), rfl⟩
                    · have z1 : decide ((mid : Int) < (E : Int)) = false := decide_eq_false (by omega)
                      go_wp2_with fail
                      go_meet
                      exact ⟨_, rfl, (by show false = true ↔ _; simp; omega), rfl⟩
                case rest =>
                  obtain ⟨bb, rfl, HBB, hwc⟩ := hcut
                  rw [hwc]
                  clear hwc
                  cases bb with
                  | true =>
                    have hc := HBB.out.1 rfl
                    have HR2 : Hid (Calls Try.prog 72 #[.slice (some ⟨g, 0, none⟩) n c, .int .i64 mid, .int .i64 E, .int .i64 b, cmpF ob] w2 fun e w' => (∃ r, e = .returned r) ∧ Hid (∀ r, P (.returned r) w')) := HSyB.out w2 H2.out hc.1 hc.2
                    clear HSyB hc H2 HEnd HBB
                    go_wp2_with (first | (go_at_call 72; (with_reducible refine HR2.out.mono ?_); rintro e w3 ⟨⟨r, rfl⟩, H3⟩))
                    first | exact H3.out _ | (go_end0; exact H3.out _)
                  | false =>
                    have hc : ¬ (mid < E ∧ E < b) := fun h => by have := HBB.out.2 h; cases this
                    have H3 : Hid (∀ r, P (.returned r) w2) := HEnd.out w2 H2.out hc
                    clear HSyB hc H2 HEnd HBB
                    go_wp2_with fail
                    first | exact H3.out _ | (go_end0; exact H3.out _)
end Go.Proofs.Ytkpkiajehclbhaa

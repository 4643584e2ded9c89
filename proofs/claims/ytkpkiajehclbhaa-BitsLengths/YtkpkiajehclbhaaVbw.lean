import Derived.Test.YtkpkiajehclbhaaVbt
import Derived.Test.YtkpkiajehclbhaaVbv
namespace Go.Proofs.Ytkpkiajehclbhaa
open Go.RowKit
set_option linter.unusedVariables false
theorem OwR.at7 {g L c : Nat} {os : List Int} {w : World} (h : OwR RL g (.slice (some ⟨g, 0, none⟩) L c) (os ++ [-7]) w) : (∀ I, I < os.length → w.cell? ⟨g, I, none⟩ = some (.int .i64 (kof os I))) ∧ w.cell? ⟨g, os.length, none⟩ = some (.int .i64 (-7)) := by
  constructor
  · intro I hI
    have a := (h.cell rlOk I 0 (kof os I) _ (by rw [List.getElem?_append_left hI]; exact kof_at os I hI) rfl).1
    rw [show RL.k = 1 from rfl, Nat.mul_one, Nat.add_zero] at a
    exact a
  · have a := (h.cell rlOk os.length 0 (-7) _ (by simp) rfl).1
    rw [show RL.k = 1 from rfl, Nat.mul_one, Nat.add_zero] at a
    exact a
/-- What is known behind the calls. -/
structure BlI (os : List Int) (a0 : Option Addr) (c0 gm : Nat) (w w1 : World) : Prop where
  nw : Nw w w1
  co : ∀ I, I < os.length → w1.cell? ⟨gm, I, none⟩ = some (.int .i64 (kof os I))
  se : w1.cell? ⟨gm, os.length, none⟩ = some (.int .i64 (-7))
  sl : SlR RL (fun k => w1.heap.size ≤ k) (.slice a0 os.length c0) os w1
theorem BlI.next {os : List Int} {a0 : Option Addr} {c0 gm : Nat} {w w1 V : World} (h : BlI os a0 c0 gm w w1) (hV : Nw w1 V) : BlI os a0 c0 gm w V :=
  ⟨h.nw.trans hV, fun I hI => hV.cell (h.co I hI), hV.cell h.se, (h.sl.nw hV).mono (fun k hk => Nat.le_trans hV.size hk)⟩
theorem BlI.at {os : List Int} {a0 : Option Addr} {c0 gm : Nat} {w w1 : World} (h : BlI os a0 c0 gm w w1) (I : Nat) (hI : I < os.length) : ∃ g o, a0 = some ⟨g, o, none⟩ ∧ w1.cell? ⟨g, o + I, none⟩ = some (.int .i64 (kof os I)) := by
  obtain ⟨g, o, e, _, k⟩ := rl_at h.sl I _ (kof_at os I hI)
  exact ⟨g, o, e, k⟩
theorem SwR.readI {g : Nat} {vals : List Nat} {w : World} (h : SwR RI g (toI vals) w) (n : Nat) (hn : vals.length = n) (hn2 : n ≤ 1000000) : SlR RI (fun _ => False) (.slice (some ⟨g, 0, none⟩) n n) (toI vals) w := by
  have : OwR RI g (.slice (some ⟨g, 0, none⟩) n n) (toI vals) w := ⟨toI vals, by rw [toI_length, hn], List.take_length, Nat.le_refl _, by rw [toI_length]; omega, h⟩
  exact (this.slr riOk).mono (fun _ h => h.elim)
set_option maxHeartbeats 32000000 in
set_option maxRecDepth 100000 in
theorem bl_walk (w : World) (v0 : Value) (os : List Int) (z : Int) (h0 : SlR RL (fun k => w.heap.size ≤ k) v0 os w) (hl : os.length ≤ 17592186043904) : Calls Try.prog 6 #[v0, .int .i64 z] w fun e w' => e = .returned (.bool true) ∧ Nw w w' := by
  obtain ⟨P, hP⟩ : ∃ P : Ending → World → Prop, P = fun e w' => e = .returned (.bool true) ∧ Nw w w' := ⟨_, rfl⟩
  rw [← hP]
  have HF : Hid (∀ W, Nw w W → P (.returned (.bool true)) W) := fun W hW => by rw [hP]; exact ⟨rfl, hW⟩
  obtain ⟨g, c, W, gm, cm, W', HAP1, HAP2, hO, hN, hg⟩ := longs_one w v0 os (h0.mono (fun _ h => h.elim)) hl
  obtain ⟨a0, c0, rfl, hc0, hc02, _⟩ := h0.form
  have hO1 := hO.cutL (by simp)
  obtain ⟨hcm1, hcm2⟩ : os.length + 1 ≤ cm ∧ cm < 9223372036854775808 := by
    obtain ⟨c', e, k1, k2⟩ := hO.form
    rw [List.length_append] at e k1
    cases e
    exact ⟨k1, k2⟩
  have hB0 : BlI os a0 c0 gm w W' := ⟨hN, hO.at7.1, hO.at7.2, (h0.nw hN).mono (fun k hk => Nat.le_trans hN.size hk)⟩
  have HL : Hid (Calls Try.prog 39 #[.slice (some ⟨gm, 0, none⟩) os.length cm, .int .i64 z] W' fun e w1 => ∃ la ln lc ez k, e = .returned (.tuple #[.slice la ln lc, .int .i64 ez]) ∧ ln ≤ lc ∧ lc < 9223372036854775808 ∧ k ≤ 17592186043904 ∧ Hid (Calls Try.prog 40 #[.slice a0 os.length c0, .int .i64 z] w1 fun e w2 => ∃ b, e = .returned (.tuple #[.int .i64 (k : Nat), .bool b]) ∧ Hid (b = true ↔ okO os ∧ 1 ≤ z ∧ z ≤ 15) ∧ w2 = w1) ∧ Hid (LnR os z la ln lc ez w1 ∧ k = (psy os os.length).length) ∧ Hid (BlI os a0 c0 gm w w1)) := by
    refine (lengths_law W' _ os z hO1.lowL hl).mono ?_
    rintro e w1 ⟨la, ln, lc, ez, rfl, hR, hN1⟩
    have hB1 := hB0.next hN1
    refine ⟨la, ln, lc, ez, (psy os os.length).length, rfl, ?_, ?_, ?_, (above_any w1 _ os z (hB1.sl.mono (fun _ h => h.elim)) hl).mono ?_, ⟨hR, rfl⟩, hB1⟩
    · rcases hR with ⟨_, h2, h3, _⟩ | ⟨m, _, _, _, _, ⟨_, h2, h3, _⟩ | ⟨_, gl, vals, _, h2, h3, _⟩⟩ <;> omega
    · rcases hR with ⟨_, h2, h3, _⟩ | ⟨m, _, _, _, _, ⟨_, h2, h3, _⟩ | ⟨_, gl, vals, _, h2, h3, _⟩⟩ <;> omega
    · have := psy_len os os.length; omega
    · rintro e w2 ⟨⟨b, rfl, hb⟩, rfl⟩
      exact ⟨b, rfl, hb, rfl⟩
  clear hP hO hO1 h0 hN hg hB0
  generalize hLe : os.length = L at *
  have HLe : Hid (os.length = L) := hLe
  clear hLe
  obtain ⟨L1, hL1⟩ : ∃ L1, L + 1 = L1 := ⟨_, rfl⟩
  rw [hL1] at HAP2 hcm1
  have hLL1 : L < L1 := by omega
  have hLi : (L : Int) < (L1 : Int) := by omega
  have hLi2 : (L : Int) ≤ (cm : Int) := by omega
  clear hL1
  go_enter Try.func6, Try.ntmps6
  go_wp2_with (first
    | (at_builtin; refine Lib.wpList_append_run _ rfl _ _ 71 71 rfl (.slice (some ⟨w.heap.size, 0, none⟩) 0 0) (.slice a0 L c0) (by simp [Act.eval]) (by simp [Act.eval]) _ _ (HAP1.out _) ?_)
    | (at_builtin; refine Lib.wpList_append_run _ rfl _ _ 71 71 rfl (.slice (some ⟨g, 0, none⟩) L c) (.slice (some ⟨_, 0, none⟩) 1 1) (by simp [Act.eval]) (by simp [Act.eval]) _ _ (HAP2.out _) ?_)
    | (go_at_call 39; (with_reducible refine HL.out.mono ?_); rintro e w1 ⟨la, ln, lc, ez, k, rfl, hln, hlc, hkb, HA, HR, HB⟩)
    | (go_at_call 40; (with_reducible refine HA.out.mono ?_); rintro e w2 ⟨b, rfl, Hb, rfl⟩))
  clear HAP1 HAP2 HL HA
  go_loopg [10] L (fun kx i wr => ∃ (I : Nat), I ≤ L ∧ L - I ≤ kx ∧ i = .int .i64 I ∧ Hid (Nw w2 wr))
  case atStart => exact ⟨0, by omega, by omega, rfl, Fr.refl _ _⟩
  case round =>
    obtain ⟨I, hI, hkx, rfl, HN⟩ := hrel
    by_cases hlt : I < L
    · have hz : (I : Int) < (L : Int) := by omega
      have hz1 : (I : Int) < (L1 : Int) := by omega
      have hlt' : I < os.length := by rw [HLe.out]; exact hlt
      have hBr := HB.out.next HN.out
      obtain ⟨g0, o0, rfl, ky⟩ := hBr.at I hlt'
      have kx1 := hBr.co I hlt'
      generalize kof os I = x at ky kx1
      have HNd : Hid (∀ n, Nw w2 (wr.drewN n)) := fun n => HN.out.drewN n
      clear hBr HN HB HR HF
      go_wp2_with fail
      go_quiet (fail)
      go_wp2_with fail
      go_roundg (L - (I + 1))
      case measure => omega
      case rel => exact ⟨I + 1, by omega, by omega, by first | rfl | (congr 1), HNd.out _⟩
    · obtain rfl : I = L := by omega
      have hz : ¬ (I : Int) < (I : Int) := by omega
      have HB2 : Hid (BlI os a0 c0 gm w wr) := HB.out.next HN.out
      have HT : Hid (Calls Try.prog 39 #[.slice (some ⟨wr.heap.size, 0, none⟩) 2 2, .int .i64 3] (wr.alloc (.cells #[.int .i64 4, .int .i64 4] 2)) fun e w3 => ∃ g2, e = .returned (.tuple #[.slice (some ⟨g2, 0, none⟩) 2 2, .int .i64 0]) ∧ (w3.cell? ⟨g2, 0, none⟩ = some (.int .i64 1) ∧ w3.cell? ⟨g2, 1, none⟩ = some (.int .i64 1) ∧ w3.cell? ⟨gm, I, none⟩ = some (.int .i64 (-7))) ∧ Hid (Nw wr w3)) := by
        refine (lengths_two wr).mono ?_
        rintro e w3 ⟨g2, rfl, c0, c1, hN3⟩
        refine ⟨g2, rfl, ⟨c0, c1, ?_⟩, hN3⟩
        have := hN3.cell HB2.out.se
        rw [HLe.out] at this
        exact this
      have HN2 : Hid (Nw w2 wr) := HN.out
      clear HN HB
      go_upto_region 12 with (first
        | (go_at_call 39; (with_reducible refine HT.out.mono ?_); rintro e w3 ⟨g2, rfl, ⟨y1, y2, y3⟩, HN3⟩))
      clear HT
      have HB : Hid (BlI os a0 c0 gm w w3) := HB2.out.next HN3.out
      have HN4 : Hid (Nw w2 w3) := HN2.out.trans HN3.out
      clear HB2 HN2 HN3 y1 y2 y3
      obtain ⟨hR, hk⟩ := HR.out
      rw [← HLe.out] at hk
      have HK : Hid (k = (psy os os.length).length) := hk
      clear HR
      rcases hR with ⟨h1, rfl, rfl, rfl⟩ | ⟨m, rfl, ho, hm1, hm2, hR⟩
      · obtain rfl : b = false := by
          cases b
          · rfl
          · exact absurd (Hb.out.1 rfl) h1
        have HF2 : Hid (P (.returned (.bool true)) w3) := HF.out _ HB.out.nw
        clear hk h1 Hb HB HF
        go_wp2_with fail
        exact HF2.out
      · obtain rfl : b = true := Hb.out.2 ⟨ho, by omega, by omega⟩
        clear Hb
        obtain ⟨T, hT⟩ : ∃ T, 2 ^ m = T := ⟨_, rfl⟩
        have hTi : (2 : Int) ^ m = (T : Int) := by rw [← hT]; push_cast; rfl
        have hTb : T ≤ 32768 := by
          rw [← hT]
          exact Nat.le_trans (Nat.pow_le_pow_right (by decide) hm2) (by decide)
        rw [hT] at hR
        have HTe : Hid (2 ^ m = T) := hT
        clear hT
        rw [← hk] at hR
        clear hk
        rcases hR with ⟨h1, rfl, rfl, rfl⟩ | ⟨h1, gl, vals, rfl, hq1, hq2, rfl, hLg, hvl, hsw⟩
        · have hkT : (T : Int) < (k : Int) := by omega
          have HF2 : Hid (P (.returned (.bool true)) w3) := HF.out _ HB.out.nw
          clear HB HF ho
          go_wp2_with fail
          exact HF2.out
        · rw [HLe.out] at hq1 hq2
          have hq1 := hq1.symm
          have hq2 := hq2.symm
          subst hq1 hq2
          have hkT : ¬ (T : Int) < (k : Int) := by omega
          have hlo := ho.2.2
          have HO : Hid (okO os) := ho
          have HLg : Hid (Lng os m k vals) := hLg
          have hl320 : I ≤ 320 := by rw [← HLe.out]; exact hlo
          have hvI : vals.length = I := by rw [hvl, HLe.out]
          have HV : Hid (∀ V, Nw w3 V → SwR RI gl (toI vals) V) := fun V hV => hsw.kept (HN4.out.trans hV) (fun h => h)
          have HVl : Hid (vals.length = I) := hvI
          have HCode : Hid (2 ≤ k → ∀ V, Nw w3 V → Calls Try.prog 33 #[.slice (some ⟨gl, 0, none⟩) I I] V fun e V2 => ∃ q, e = .returned (.tuple #[.bool q, .bool true]) ∧ V2 = V) := fun hk2 V hV => by
            obtain ⟨cs, _, _, _, _, hp⟩ := hLg.best hk2
            have hin : inR (toI vals) := fun j x hx => by
              have hj := (List.getElem?_eq_some_iff.1 hx).1
              rw [toI_length] at hj
              rw [toI_at vals j hj] at hx
              injection hx with hx
              have := hLg.le j (by rw [HLe.out, ← hvI]; exact hj)
              omega
            refine (scode_any V _ (toI vals) ((HV.out V hV).readI I hvI (by omega)) (by rw [toI_length]; omega)).mono ?_
            rintro e V2 ⟨⟨b, q, rfl, hb, hq⟩, rfl⟩
            have hic : IsCode (toI vals) := (kraft2 (toI vals) (by rw [toI_length, hvl]; exact ho.2.1) (by rw [toI_length, hvl]; exact ho.2.2) hin).2 ⟨by omega, by omega⟩
            rw [hq hic, decide_eq_true hp]
            exact ⟨b, rfl, rfl⟩
          have HCost : Hid (2 ≤ k → ∀ V, Nw w3 V → Calls Try.prog 41 #[.slice a0 I c0, .int .i64 (m : Nat)] V fun e V2 => e = .returned (.int .i64 (csum os vals os.length : Nat)) ∧ Nw V V2) := fun hk2 V hV => by
            obtain ⟨cs, e1, e2, e3, e4, _⟩ := hLg.best hk2
            have hs := (HB.out.next hV).sl
            rw [HLe.out] at hs
            refine (scost_any V _ os cs m hs ho hm1 hm2 e1 e2 (by omega) (by rw [e3, HTe.out]; exact h1)).mono ?_
            rintro e V2 ⟨rfl, hN5⟩
            rw [e4]
            exact ⟨rfl, hN5⟩
          have HCs : Hid (∀ J, J ≤ I → csum os vals J ≤ 5277655813324800) := fun J hJ => by
            have := csum_le os vals m hm2 ho hLg.le J (by rw [HLe.out]; exact hJ)
            omega
          have hmm : ¬ (m : Int) < 0 := by omega
          clear hLg hvl hsw ho hlo hvI
          go_wp2_with fail
          go_loopg [13, 14] I (fun kx s i wr2 => ∃ (J S : Nat), J ≤ I ∧ I - J ≤ kx ∧ s = .int .i64 S ∧ i = .int .i64 J ∧ S ≤ 5277655813324800 ∧ Hid (S = csum os vals J) ∧ Hid (Nw w3 wr2))
          case atStart => exact ⟨0, 0, by omega, by omega, rfl, rfl, by omega, (by show 0 = csum os vals 0; simp [csum]), Fr.refl _ _⟩
          case round =>
            obtain ⟨J, S, hJ, hkx3, rfl, rfl, hS, HS, HN5⟩ := hrel
            by_cases hJI : J < I
            · have hzJ : (J : Int) < (I : Int) := by omega
              have hJl : J < os.length := by rw [HLe.out]; exact hJI
              have hBr := HB.out.next HN5.out
              obtain ⟨g0, o0, rfl, ky⟩ := hBr.at J hJl
              have kv := ((HV.out _ HN5.out).cell riOk J 0 _ _ (toI_at vals J (by rw [HVl.out]; exact hJI)) rfl).1
              rw [show RI.k = 1 from rfl, Nat.mul_one, Nat.add_zero] at kv
              have hle := HLg.out.le J hJl
              have hze := HLg.out.zero J hJl
              have hone := fun e => HLg.out.one e J hJl
              have hxb := HO.out.1 J _ (kof_at os J hJl)
              have hst := csum_succ os vals J
              have hb := HCs.out (J + 1) (by omega)
              obtain ⟨C, hC⟩ : ∃ C : Nat, kof os J = C := ⟨(kof os J).toNat, by omega⟩
              rw [hC] at ky hze hxb hst hone
              obtain ⟨X, hX⟩ : ∃ X, vals.getD J 0 = X := ⟨_, rfl⟩
              rw [hX] at kv hle hze hst hone
              rw [show ((C : Int)).toNat = C by omega] at hst
              obtain ⟨XC, hXC⟩ : ∃ XC, X * C = XC := ⟨_, rfl⟩
              have hXCi : (X : Int) * (C : Int) = (XC : Int) := by rw [← hXC]; push_cast; rfl
              rw [hXC, ← HS.out] at hst
              rw [hst] at hb
              obtain ⟨S2, hS2⟩ : ∃ S2, S + XC = S2 := ⟨_, rfl⟩
              have hS2i : (S : Int) + (XC : Int) = (S2 : Int) := by omega
              have HS2 : Hid (S2 = csum os vals (J + 1)) := by
                show S2 = _
                rw [hst, hS2]
              have f1 : decide ((X : Int) < 0) = false := decide_eq_false (by omega)
              have f2 : decide ((m : Int) < (X : Int)) = false := decide_eq_false (by omega)
              have f3 : ((X : Int) == 0) = ((C : Int) == 0) := by
                have : ((X : Int) = 0) ↔ ((C : Int) = 0) := by
                  constructor
                  · intro e; exact hze.1 (by omega)
                  · intro e; have := hze.2 e; omega
                by_cases hc : (C : Int) = 0
                · rw [hc, this.2 hc]
                · have hx := mt this.1 hc
                  rw [beq_eq_false_iff_ne.2 hx, beq_eq_false_iff_ne.2 hc]
              have HNd : Hid (∀ n, Nw w3 (wr.drewN n)) := fun n => HN5.out.drewN n
              clear hBr HN5 HB HV HLg HO HS hst HCs HCode HCost HF hC hX hXC hze HN4
              by_cases hk1 : k = 1
              · have hki : ((k : Int) == 1) = true := by rw [hk1]; rfl
                by_cases hC0 : 0 < C
                · have hci : (0 : Int) < (C : Int) := by omega
                  have hx1 := hone hk1 (by omega)
                  have hxi : ((X : Int) != 1) = false := by rw [hx1]; rfl
                  clear hone hk1 hx1 hC0
                  go_wp2_with fail
                  go_quiet (fail)
                  go_wp2_with fail
                  go_quiet (fail)
                  go_wp2_with fail
                  go_roundg (I - (J + 1))
                  case measure => omega
                  case rel => exact ⟨J + 1, S2, by omega, by omega, by first | rfl | (congr 1), by first | rfl | (congr 1), by omega, HS2, HNd.out _⟩
                · have hci : ¬ (0 : Int) < (C : Int) := by omega
                  clear hone hk1 hC0
                  go_wp2_with fail
                  go_quiet (fail)
                  go_wp2_with fail
                  go_quiet (fail)
                  go_wp2_with fail
                  go_roundg (I - (J + 1))
                  case measure => omega
                  case rel => exact ⟨J + 1, S2, by omega, by omega, by first | rfl | (congr 1), by first | rfl | (congr 1), by omega, HS2, HNd.out _⟩
              · have hki : ((k : Int) == 1) = false := by
                  rw [beq_eq_false_iff_ne]; omega
                clear hone hk1
                go_wp2_with fail
                go_quiet (fail)
                go_wp2_with fail
                go_quiet (fail)
                go_wp2_with fail
                go_roundg (I - (J + 1))
                case measure => omega
                case rel => exact ⟨J + 1, S2, by omega, by omega, by first | rfl | (congr 1), by first | rfl | (congr 1), by omega, HS2, HNd.out _⟩
            · obtain rfl : J = I := by omega
              have hzJ : ¬ (J : Int) < (J : Int) := by omega
              by_cases hk2 : k < 2
              · have hki : (k : Int) < 2 := by omega
                have HF2 : Hid (P (.returned (.bool true)) wr) := HF.out _ (HB.out.next HN5.out).nw
                clear HF HB HV HLg HO HS HCs HCode HCost HN5 HN4
                go_wp2_with fail
                exact HF2.out
              · have hki : ¬ (k : Int) < 2 := by omega
                have HC1 : Hid (Calls Try.prog 33 #[.slice (some ⟨gl, 0, none⟩) J J] wr fun e V2 => ∃ q, e = .returned (.tuple #[.bool q, .bool true]) ∧ V2 = wr) := HCode.out (by omega) wr HN5.out
                have HC2 : Hid (Calls Try.prog 41 #[.slice a0 J c0, .int .i64 (m : Nat)] wr fun e V2 => e = .returned (.int .i64 (S : Nat)) ∧ Hid (P (.returned (.bool true)) V2)) := by
                  refine (HCost.out (by omega) wr HN5.out).mono ?_
                  rintro e V2 ⟨rfl, hN6⟩
                  refine ⟨?_, HF.out _ ((HB.out.next HN5.out).nw.trans hN6)⟩
                  rw [HS.out, HLe.out]
                clear HF HB HV HLg HO HS HCs HCode HCost HN5 HN4
                go_wp2_with (first
                  | (go_at_call 33; (with_reducible refine HC1.out.mono ?_); rintro e V2 ⟨q, rfl, rfl⟩)
                  | (go_at_call 41; (with_reducible refine HC2.out.mono ?_); rintro e V3 ⟨rfl, HF3⟩))
                exact HF3.out
end Go.Proofs.Ytkpkiajehclbhaa

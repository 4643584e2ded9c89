import Derived.Test.YtoegbaenheeogaaNfU
namespace Go.Proofs.Ytoegbaenheeogaa
open Go.RowKit
set_option linter.unusedVariables false
theorem mod128 (x : Nat) : (x : Int).tmod 128 = ((x % 128 : Nat) : Int) := by
  rw [Int.tmod_eq_emod_of_nonneg (by omega)]; omega
theorem take_get (l : List By) (I : Nat) (h : I < l.length) : l.take I ++ [l[I]] = l.take (I + 1) := (take_snoc l I h).symm
section
attribute [local go_sem ↓] appF_fold
set_option maxHeartbeats 16000000 in
set_option maxRecDepth 100000 in
theorem rbinary_any (w : World) (a : Option Addr) (n c : Nat) (b : List By) (hb : Old w (.slice a n c) b) (hbl : n ≤ 140737488351232) :
    Calls Try.prog 76 #[.slice a n c] w fun e w' => e = .returned (binA b) ∧ Nw w w' := by
  obtain ⟨P, hP⟩ : ∃ P : Ending → World → Prop, P = fun e w' => e = .returned (binA b) ∧ Nw w w' := ⟨_, rfl⟩
  rw [← hP]
  have HF : Hid (∀ W, Nw w W → P (.returned (binA b)) W) := fun W hW => by rw [hP]; exact ⟨rfl, hW⟩
  clear hP
  obtain ⟨hbn, k1, k2⟩ := sl_len hb
  by_cases h2 : (n : Int) < 2
  · rw [binA_no b (decide_eq_false (by rw [hbn]; omega))] at HF
    have HF2 := tHid (HF.out w (Fr.refl _ _))
    have d2 : decide ((n : Int) < 2) = true := decide_eq_true h2
    clear hb hbn HF
    go_enter Try.func76, Try.ntmps76
    go_wp2_with fail
    exact HF2.out
  · have d2 : decide ((n : Int) < 2) = false := decide_eq_false h2
    cases b with
    | nil => simp at hbn; omega
    | cons x l =>
      obtain ⟨g, o, rfl, hn, hc, _, x0, _, _⟩ := sl_cons hb
      have hxl := x.isLt
      by_cases hx : 128 ≤ x.toNat
      · have hB : isB (x :: l) = true := decide_eq_true ⟨by rw [hbn]; omega, hx⟩
        have HTV := tHid (tv_first x l hx)
        have hft := first_toNat x hx
        have hbe : below x = decide (64 ≤ x.toNat % 128) := rfl
        have HR := tHid (fun V (hV : Nw w V) => sl_rd (Sl.later hb hV))
        obtain ⟨bl, hbl2⟩ : ∃ bl, below x = bl := ⟨_, rfl⟩
        rw [hbl2] at HTV hft hbe
        have hm := mod128 x.toNat
        have hbe2 : decide ((64 : Int) ≤ ((x.toNat % 128 : Nat) : Int)) = bl := by rw [hbe]; apply decide_eq_decide.2; omega
        have hx128 : ¬ (x.toNat : Int) < 128 := by omega
        have dx : decide ((x.toNat : Int) < 128) = false := decide_eq_false hx128
        generalize hF1 : first x = f1 at *
        have HBN := tHid hbn
        have HBB := tHid hB
        have HFT := tHid hft
        have HX0 := tHid (And.intro x0 hx)
        generalize x.toNat % 128 = xm at *
        have HN1 := tHid hn
        clear hb hbe hB hbn hft hn
        go_enter Try.func76, Try.ntmps76
        go_upto_block 0 with fail
        go_cut [5] (fun v wx => ∃ a' n' c', n' ≤ c' ∧ c' < 9223372036854775808 ∧ v = .slice a' n' c' ∧ Hid (Nw w wx ∧ Sl (fun _ => False) (.slice a' n' c') (f1 :: l) wx ∧ n' = n))
        case first =>
          clear HF HTV HBB hbe2 hm
          go_wp2_with fail
          go_loopg [5, 6] n (fun kx v v6 wr => ∃ (I : Nat) (a' : Option Addr) (n' c' : Nat), I ≤ n ∧ n - I ≤ kx ∧ v6 = .int .i64 I ∧ v = .slice a' n' c' ∧ Hid (Nw w wr ∧ Mine (fun k => k < w.heap.size) (.slice a' n' c') ((f1 :: l).take I) wr))
          case atStart => exact ⟨0, none, 0, 0, by omega, by omega, rfl, rfl, Fr.refl _ _, .inl ⟨rfl, rfl⟩⟩
          case round =>
            obtain ⟨I, a', n', c', hI, hkx, rfl, rfl, HI⟩ := hrel
            obtain ⟨hN, hMi⟩ := HI.out
            have hn1 := HN1.out
            have hlen : (f1 :: l).length = n := by rw [List.length_cons]; omega
            have hlt2 : ((f1 :: l).take I).length ≤ 140737488351232 := by rw [List.length_take]; omega
            by_cases hlt : I < n
            · have hltI : (I : Int) < (n : Int) := by omega
              have hdI : decide ((I : Int) < (n : Int)) = true := decide_eq_true hltI
              have hget : I < (f1 :: l).length := by omega
              have hnx := take_get (f1 :: l) I hget
              by_cases hI0 : I = 0
              · subst hI0
                obtain ⟨hx0, hx8⟩ := HX0.out
                have hc0 := hN.cell hx0
                have hft := HFT.out
                cases bl with
                | true =>
                  rw [if_pos rfl] at hft
                  obtain ⟨a2, n2, c2, W2, hap, q2, q3⟩ := push1 w wr a' n' c' _ hMi hN hlt2 ((f1 :: l)[0]) (x.toNat : Int) (by show (x.toNat : Int) = (f1.toNat : Int); omega)
                  rw [hnx] at q2
                  have HM := tHid (And.intro q3 q2)
                  clear HI hN hMi hlen hlt2 hnx hx0 hx8 hft q2 q3 HX0 HFT HR HBN HN1 hn1
                  generalize x.toNat = xx at *
                  go_wp2_with fail
                  go_roundg (n - 1)
                  case measure => omega
                  case rel => exact ⟨1, a2, n2, c2, by omega, by omega, by first | rfl | (congr 1), rfl, HM⟩
                | false =>
                  rw [if_neg (by decide)] at hft
                  have hsub : (x.toNat : Int) - 128 = ((x.toNat - 128 : Nat) : Int) := by omega
                  obtain ⟨a2, n2, c2, W2, hap, q2, q3⟩ := push1 w wr a' n' c' _ hMi hN hlt2 ((f1 :: l)[0]) ((x.toNat - 128 : Nat) : Int) (by show ((x.toNat - 128 : Nat) : Int) = (f1.toNat : Int); omega)
                  rw [hnx] at q2
                  have HM := tHid (And.intro q3 q2)
                  have hx9 : (128 : Int) ≤ (x.toNat : Int) := by omega
                  clear HI hN hMi hlen hlt2 hnx hx0 hx8 hft q2 q3 HX0 HFT HR HBN HN1 hn1
                  generalize x.toNat - 128 = xy at *
                  generalize x.toNat = xx at *
                  go_wp2_with fail
                  go_roundg (n - 1)
                  case measure => omega
                  case rel => exact ⟨1, a2, n2, c2, by omega, by omega, by first | rfl | (congr 1), rfl, HM⟩
              · obtain ⟨J, rfl⟩ : ∃ J, I = J + 1 := ⟨I - 1, by omega⟩
                obtain ⟨g', o', e, hc0⟩ := HR.out wr hN (J + 1) (by rw [HBN.out]; exact hlt)
                injection e with e
                injection e with e1 e2
                subst e1 e2
                obtain ⟨a2, n2, c2, W2, hap, q2, q3⟩ := push1 w wr a' n' c' _ hMi hN hlt2 ((f1 :: l)[J + 1]) ((x :: l)[J + 1].toNat : Int) (by rfl)
                rw [hnx] at q2
                have HM := tHid (And.intro q3 q2)
                obtain ⟨yy, hyy⟩ : ∃ yy, (x :: l)[J + 1].toNat = yy := ⟨_, rfl⟩
                rw [hyy] at hc0 hap
                have hz1 : (((J + 1 : Nat) : Int) == 0) = false := by rw [beq_eq_false_iff_ne]; omega
                clear HI hN hMi hlen hlt2 hnx q2 q3 HX0 HFT HR HBN HN1 hn1 hI0 hyy
                generalize hK : J + 1 = K at *
                have hz2 : ¬ K = 0 := by omega
                clear hK
                go_wp2_with fail
                go_roundg (n - (K + 1))
                case measure => omega
                case rel => exact ⟨K + 1, a2, n2, c2, by omega, by omega, by first | rfl | (congr 1), rfl, HM⟩
            · have hdI : decide ((I : Int) < (n : Int)) = false := decide_eq_false (by omega)
              have hS : Sl (fun _ => False) (.slice a' n' c') (f1 :: l) wr := by
                rw [List.take_of_length_le (by omega)] at hMi
                exact hMi.old.mono (fun _ h => h.elim)
              obtain ⟨e1, e2, e3⟩ := sl_len hS
              have HM : Hid (Nw w wr ∧ Sl (fun _ => False) (.slice a' n' c') (f1 :: l) wr ∧ n' = n) := ⟨hN, hS, by omega⟩
              clear HI hN hMi hlen hlt2 HX0 HFT HR HBN HN1 hn1 hS e1
              go_wp2_with fail
              go_meet
              exact ⟨a', n', c', e2, e3, rfl, HM⟩
        case rest =>
        obtain ⟨a1, n1, c1, hc1, hc2, rfl, H1⟩ := hcut
        obtain ⟨W1, hW1⟩ : ∃ z, z = wc := ⟨_, rfl⟩
        subst hW1
        have HV1 : Hid (∃ l', Nw w W1 ∧ Sl (fun _ => False) (.slice a1 n1 c1) l' W1 ∧ tv bl l' = binV (x :: l)) := ⟨_, H1.out.1, H1.out.2.1, HTV.out⟩
        clear H1 HTV HFT HX0 HR HBN HN1 hbe2 hm x0 hx128 dx d2 h2 hx hxl
        generalize x.toNat = xx at *
        obtain ⟨fv, hfv⟩ : ∃ fv, (fl bl).toNat = fv := ⟨_, rfl⟩
        have hfv2 : fv = if bl then 255 else 0 := by rw [← hfv]; cases bl <;> rfl
        have HFV := tHid hfv
        clear hfv
        go_upto_if 47 with fail
        go_cut [8] from 47 to 47 (fun v wx => v = .int .u8 fv ∧ wx = W1)
        case first =>
          clear HF HBB HV1 HFV
          cases bl with
          | true =>
            obtain rfl : fv = 255 := hfv2
            go_wp2_with fail
            go_meet
            exact ⟨rfl, rfl⟩
          | false =>
            obtain rfl : fv = 0 := hfv2
            go_wp2_with fail
            go_meet
            exact ⟨rfl, rfl⟩
        case rest =>
        obtain ⟨rfl, hw⟩ := hcut
        have hw' := hw.symm
        subst hw'
        clear hw hfv2
        go_upto_block 2 with fail
        go_cut [5] from 48 to 57 (fun v wx => ∃ a' n' c', n' ≤ c' ∧ c' < 9223372036854775808 ∧ n' ≤ 8 ∧ v = .slice a' n' c' ∧ wx = W1 ∧ Hid (∃ l', Nw w W1 ∧ Sl (fun _ => False) (.slice a' n' c') l' W1 ∧ tv bl l' = binV (x :: l)))
        case first =>
          go_wp2_with fail
          go_loopg [5] n1 (fun kx v wr => ∃ a' n' c', n' ≤ c' ∧ c' < 9223372036854775808 ∧ n' ≤ kx ∧ v = .slice a' n' c' ∧ wr = W1 ∧ Hid (∃ l', Nw w W1 ∧ Sl (fun _ => False) (.slice a' n' c') l' W1 ∧ tv bl l' = binV (x :: l)))
          case atStart => exact ⟨a1, n1, c1, hc1, hc2, Nat.le_refl _, rfl, rfl, HV1⟩
          case round =>
            obtain ⟨a2, n2, c2, j1, j2, hkx, rfl, rfl, HI⟩ := hrel
            by_cases h8 : (8 : Int) < (n2 : Int)
            · obtain ⟨l', hN, hS, ht⟩ := HI.out
              have e0 := (sl_len hS).1
              cases l' with
              | nil => simp at e0; omega
              | cons y l' =>
                obtain ⟨g2, o2, rfl, hn2, hc3, _, y0, hs1, hs2⟩ := sl_cons hS
                have h8n : 8 < n2 := by omega
                by_cases hy : y = fl bl
                · have hyv : y.toNat = fv := by rw [hy]; exact HFV.out
                  rw [hyv] at y0
                  obtain ⟨m, rfl⟩ : ∃ m, n2 = m + 1 := ⟨n2 - 1, by omega⟩
                  have hS2 := hs2 (by omega)
                  rw [Nat.add_sub_cancel] at hS2
                  have ht2 : tv bl l' = binV (x :: l) := by rw [← ht, hy, tv_fill]
                  have HM : Hid (∃ l', Nw w wr ∧ Sl (fun _ => False) (.slice (some ⟨g2, o2 + 1, none⟩) m (c2 - 1)) l' wr ∧ tv bl l' = binV (x :: l)) := ⟨_, hN, hS2, ht2⟩
                  have hc4 : 1 < c2 := by omega
                  have hc5 : ¬ c2 = 1 := by omega
                  have hff : ((fv : Int) != (fv : Int)) = false := by simp
                  clear HF HBB HV1 HFV HI hN hS ht e0 hn2 hs1 hs2 hy hyv hS2 ht2
                  go_wp2_with fail
                  go_roundg m
                  all_goals (first | omega | exact ⟨_, m, c2 - 1, by omega, by omega, Nat.le_refl _, rfl, rfl, HM⟩)
                · have hbad := tv_bad bl y l' (by simp at e0; omega) hy
                  rw [ht] at hbad
                  have HF2 := tHid (HF.out wr hN)
                  rw [binA_big _ HBB.out hbad] at HF2
                  have hne : ¬ (y.toNat : Int) = (fv : Int) := fun e => hy (BitVec.eq_of_toNat_eq (by rw [HFV.out]; omega))
                  have hnb : ((y.toNat : Int) != (fv : Int)) = true := by simpa using hne
                  have hnn : ¬ y.toNat = fv := by omega
                  clear HF HBB HV1 HFV HI hN hS ht e0 hn2 hs1 hs2 hy hbad
                  generalize y.toNat = yy at *
                  go_wp2_with fail
                  exact HF2.out
            · clear HF HBB HV1 HFV
              go_wp2_with fail
              go_meet
              exact ⟨a2, n2, c2, j1, j2, by omega, rfl, rfl, HI⟩
        case rest =>
        obtain ⟨a2, n2, c2, j1, j2, j8, rfl, hw, HV2⟩ := hcut
        have hw' := hw.symm
        subst hw'
        clear hw HV1 hc1 hc2
        go_upto_block 4 with fail
        go_cut [5] from 58 to 64 (fun v wx => ∃ a' c', 8 ≤ c' ∧ c' < 9223372036854775808 ∧ v = .slice a' 8 c' ∧ Hid (∃ l', Nw w wx ∧ Sl (fun _ => False) (.slice a' 8 c') l' wx ∧ tv bl l' = binV (x :: l)))
        case first =>
          clear HF HBB
          go_wp2_with fail
          go_loopg [5] (8 - n2) (fun kx v wr => ∃ a' n' c', n' ≤ c' ∧ c' < 9223372036854775808 ∧ n' ≤ 8 ∧ 8 - n' ≤ kx ∧ v = .slice a' n' c' ∧ Hid (∃ l', Nw w wr ∧ Sl (fun _ => False) (.slice a' n' c') l' wr ∧ tv bl l' = binV (x :: l)))
          case atStart => exact ⟨a2, n2, c2, j1, j2, j8, Nat.le_refl _, rfl, HV2⟩
          case round =>
            obtain ⟨a3, n3, c3, i1, i2, i8, hkx, rfl, HI⟩ := hrel
            by_cases h8 : (n3 : Int) < 8
            · obtain ⟨l', hN, hS, ht⟩ := HI.out
              have e0 := (sl_len hS).1
              obtain ⟨a4, n4, c4, W4, hap, q1, q2⟩ := push0 wr a3 n3 c3 l' hS (by omega) (fl bl) (fv : Int) (by rw [HFV.out])
              obtain ⟨e4, e5, e6⟩ := sl_len q1
              rw [List.length_cons] at e4
              have HM : Hid (∃ l', Nw w W4 ∧ Sl (fun _ => False) (.slice a4 n4 c4) l' W4 ∧ tv bl l' = binV (x :: l)) := ⟨_, hN.trans q2, q1, by rw [tv_fill]; exact ht⟩
              have hn4 : n4 = n3 + 1 := by omega
              have HN4 := tHid hn4
              clear HV2 HFV HI hN hS ht e0 q1 q2 e4 hn4
              go_wp2_with fail
              go_roundg (8 - (n3 + 1))
              all_goals (first | omega | exact ⟨a4, n4, c4, e5, e6, by have := HN4.out; omega, by have := HN4.out; omega, rfl, HM⟩)
            · obtain rfl : n3 = 8 := by omega
              clear HV2 HFV
              go_wp2_with fail
              go_meet
              exact ⟨a3, c3, i1, i2, rfl, HI⟩
        case rest =>
        obtain ⟨a3, c3, i1, i2, rfl, HV3⟩ := hcut
        obtain ⟨W3, hW3⟩ : ∃ z, z = wc := ⟨_, rfl⟩
        subst hW3
        obtain ⟨l3, hN3, hS3, ht3⟩ := HV3.out
        have e0 := (sl_len hS3).1
        cases l3 with
        | nil => simp at e0
        | cons y l3 =>
        have hl7 : l3.length = 7 := by simpa using e0
        obtain ⟨t1, t2, t3, t4⟩ := tv_eight bl y l3 hl7
        rw [ht3] at t1 t2
        obtain ⟨g3, o3, ea3, q83, _, _, y0, _, _⟩ := sl_cons hS3
        subst ea3
        clear q83
        have HR3 := tHid (sl_rd hS3)
        have hyl := y.isLt
        have hdy : decide ((128 : Int) ≤ (y.toNat : Int)) = decide (128 ≤ y.toNat) := by apply decide_eq_decide.2; omega
        cases hg : inI (binV (x :: l)) with
        | false =>
          have hne : decide (128 ≤ y.toNat) ≠ bl := fun e => by have := t1.2 e; rw [hg] at this; cases this
          have HF2 := tHid (HF.out W3 hN3)
          rw [binA_big _ HBB.out hg] at HF2
          have hdb : decide ((128 : Int) ≤ (y.toNat : Int)) = !bl := by
            rw [hdy]
            cases hq : decide (128 ≤ y.toNat) <;> cases bl <;> simp_all
          clear HF HBB HV2 HV3 HR3 HFV hN3 hS3 ht3 t1 t2 t3 t4 hg hne e0 hl7
          generalize y.toNat = yy at *
          clear hdy
          cases bl with
          | true =>
            have hq := of_decide_eq_false hdb
            go_wp2_with fail
            exact HF2.out
          | false =>
            have hq := of_decide_eq_true hdb
            go_wp2_with fail
            exact HF2.out
        | true =>
          have heq := t1.1 hg
          have hwr := t2 heq
          have HF2 := tHid (HF.out W3 hN3)
          rw [binA_ok _ HBB.out hg] at HF2
          have hdb : decide ((128 : Int) ≤ (y.toNat : Int)) = bl := by rw [hdy, heq]
          have HV := tHid (And.intro hwr (And.intro t3 (And.intro t4 e0)))
          clear HF HBB HV2 HV3 HFV hN3 hS3 ht3 t1 t2 t3 t4 hg e0 hl7 heq hwr
          generalize binV (x :: l) = V at *
          generalize y.toNat = yy at *
          clear hdy
          go_upto_region 21 with fail
          go_cut [70] (fun v wx => v = .bool false ∧ wx = W3)
          case first =>
            clear HF2 HV HR3
            cases bl with
            | true =>
              have hq := of_decide_eq_true hdb
              go_wp2_with fail
              go_meet
              exact ⟨rfl, rfl⟩
            | false =>
              have hq := of_decide_eq_false hdb
              go_wp2_with fail
              go_meet
              exact ⟨rfl, rfl⟩
          case rest =>
          obtain ⟨rfl, hw⟩ := hcut
          have hw' := hw.symm
          subst hw'
          clear hw hdb y0
          go_wp2_with fail
          go_loopg [9, 10] 8 (fun kx v9 v10 wr => ∃ (I : Nat) (N : Nat), I ≤ 8 ∧ 8 - I ≤ kx ∧ v10 = .int .i64 I ∧ v9 = .int .u64 (N : Nat) ∧ wr = W3 ∧ Hid ((N : Int) = vb 0 ((y :: l3).take I)))
          case atStart => exact ⟨0, 0, by omega, by omega, rfl, rfl, rfl, rfl⟩
          case round =>
            obtain ⟨I, N, hI, hkx, rfl, rfl, rfl, HI⟩ := hrel
            obtain ⟨hwr, t3, t4, hl8⟩ := HV.out
            by_cases hlt : I < 8
            · have hlt' : I < (y :: l3).length := by omega
              obtain ⟨g4, o4, e, hc4⟩ := HR3.out I hlt'
              injection e with e
              injection e with e1 e2
              subst e1 e2
              have hsn := vb_take 0 (y :: l3) I hlt'
              rw [← HI.out] at hsn
              have hyl2 := (y :: l3)[I].isLt
              have hbd := vb_lo ((y :: l3).take (I + 1))
              have hpw : (256 : Int) ^ ((y :: l3).take (I + 1)).length ≤ 18446744073709551616 := by
                rw [List.length_take, hl8, Nat.min_eq_left (by omega)]
                have : (256 : Int) ^ (I + 1) ≤ 256 ^ 8 := by
                  have := Nat.pow_le_pow_right (show 0 < 256 by decide) (show I + 1 ≤ 8 by omega)
                  exact_mod_cast this
                exact this
              have hN2 : (N : Int) * 256 + ((y :: l3)[I].toNat : Int) < 18446744073709551616 := by omega
              obtain ⟨N2, hNN⟩ : ∃ N2, N * 256 + (y :: l3)[I].toNat = N2 := ⟨_, rfl⟩
              have hNN2 : (N : Int) * 256 + ((y :: l3)[I].toNat : Int) = (N2 : Int) := by omega
              have HM : Hid ((N2 : Int) = vb 0 ((y :: l3).take (I + 1))) := by rw [← hNN2]; exact hsn.symm
              have hb1 : (N : Int) * 256 ≤ 18446744073709551615 := by omega
              have hltI : (I : Int) < 8 := by omega
              clear HF2 HV HR3 HI hwr t3 t4 hl8 hsn hbd hpw hNN
              generalize (y :: l3)[I].toNat = yv at *
              go_wp2_with fail
              go_roundg (8 - (I + 1))
              case measure => omega
              case rel => exact ⟨I + 1, N2, by omega, by omega, by first | rfl | (congr 1), by first | rfl | (rw [hNN2]), rfl, HM⟩
            · have hI8 : ¬ (I : Int) < 8 := by omega
              have hNv : (N : Int) = vb 0 (y :: l3) := by
                have := HI.out
                rw [List.take_of_length_le (by omega)] at this
                exact this
              rw [← hNv] at hwr t4
              have hwr2 : wrap64 (N : Int) = V := by rw [← hwr]; exact (IntWalk.i64_left _).symm
              clear HV HR3 HI t3 hl8 hNv hwr hlt
              go_wp2_with fail
              exact HF2.out
      · have HF2 := tHid (HF.out w (Fr.refl _ _))
        rw [binA_no _ (decide_eq_false (fun h => hx (h : _ ∧ 128 ≤ x.toNat).2))] at HF2
        have hx9 : (x.toNat : Int) < 128 := by omega
        have dx : decide ((x.toNat : Int) < 128) = true := decide_eq_true hx9
        clear hb hn hbn HF
        generalize x.toNat = xx at *
        go_enter Try.func76, Try.ntmps76
        go_wp2_with fail
        exact HF2.out
end
end Go.Proofs.Ytoegbaenheeogaa

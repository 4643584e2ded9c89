import Derived.Test.YtffhpoilifgcdaaDoorNmD
namespace Go.Proofs.YtffhpoilifgcdaaDoor
open Go.RowKit
set_option linter.unusedVariables false
structure RrI (w : World) (n : Nat) (b : List By) (cnt I E p g m c : Nat) (R : List (Nat × Nat) × Nat × Nat) (V : World) : Prop where
  nw : Nw w V
  pn : p ≤ n
  ge : w.heap.size ≤ g
  ls : ∃ acc, OwR RG g (.slice (some ⟨g, 0, none⟩) m c) (rgL acc) V ∧ acc.length = I ∧ R = rdA b (cnt - I) E p acc
theorem one1_e1 (b : List By) (e p n1 q1 e1 : Nat) (h1 : nr 0 0 (b.drop p) = (n1, q1, e1)) (he : e1 ≠ 0) : one1 b e p = ((0, 0), 0, e1) := by
  unfold one1; simp only [h1]; rw [if_pos he]
theorem one1_e2 (b : List By) (e p n1 q1 n2 q2 e2 : Nat) (h1 : nr 0 0 (b.drop p) = (n1, q1, 0)) (h2 : nr 0 0 (b.drop (p + q1)) = (n2, q2, e2)) (he : e2 ≠ 0) : one1 b e p = ((0, 0), 0, e2) := by
  unfold one1; simp only [h1, h2]; rw [if_neg (by simp), if_pos he]
theorem one1_e3 (b : List By) (e p n1 q1 n2 q2 : Nat) (h1 : nr 0 0 (b.drop p) = (n1, q1, 0)) (h2 : nr 0 0 (b.drop (p + q1)) = (n2, q2, 0)) (he : n1 < e ∨ 9223372036854775807 - n1 < n2) : one1 b e p = ((0, 0), 0, 3) := by
  unfold one1; simp only [h1, h2]; rw [if_neg (by simp), if_neg (by simp), if_pos he]
theorem one1_e4 (b : List By) (e p n1 q1 n2 q2 : Nat) (h1 : nr 0 0 (b.drop p) = (n1, q1, 0)) (h2 : nr 0 0 (b.drop (p + q1)) = (n2, q2, 0)) (he : ¬ (n1 < e ∨ 9223372036854775807 - n1 < n2)) : one1 b e p = ((n1, n1 + n2), p + q1 + q2, 0) := by
  unfold one1; simp only [h1, h2]; rw [if_neg (by simp), if_neg (by simp), if_neg he]
set_option maxHeartbeats 16000000 in
set_option maxRecDepth 100000 in
theorem rread_any15 {X : Nat → Prop} (w : World) (a : Option Addr) (n c : Nat) (b : List By) (hb : Sl X (.slice a n c) b w) (hn : n ≤ 140737488351232) :
    Calls Tryd.prog 10 #[.slice a n c] w (RdA w b) := by
  obtain ⟨Q, hQ⟩ : ∃ Q : Ending → World → Prop, Q = RdA w b := ⟨_, rfl⟩
  rw [← hQ]
  obtain ⟨hbn, k1, k2⟩ := slx_len hb
  have hrd := rdT_rs b
  have HBad : Hid (∀ V (e : Nat), rdT b = ([], 0, e) → Nw w V → Q (.returned (.tuple #[.slice none 0 0, .int .i64 0, .int .i64 (e : Int)])) V) := fun V e h1 h2 => by
    rw [hQ]
    unfold RdA
    rw [h1]
    exact ⟨none, 0, 0, rfl, h2, none, ⟨rfl, rfl⟩, fun g h => by cases h⟩
  have HOk : Hid (∀ V L p g m c, rdT b = (L, p, 0) → Nw w V → OwR RG g (.slice (some ⟨g, 0, none⟩) m c) (rgL L) V → w.heap.size ≤ g → Q (.returned (.tuple #[.slice (some ⟨g, 0, none⟩) m c, .int .i64 (p : Int), .int .i64 0])) V) := fun V L p g m c h1 h2 h3 h4 => by
    rw [hQ]
    unfold RdA
    rw [h1]
    exact ⟨_, m, c, rfl, h2, some g, h3, fun g' h => by injection h with h; omega⟩
  have HNum : Hid (∀ V p, Nw w V → p ≤ n → Calls Tryd.prog 30 #[.slice a n c, .int .i64 (p : Int)] V fun e V' => ∃ q : Nat, e = .returned (.tuple #[.int .i64 ((nr 0 0 (b.drop p)).1 : Int), .int .i64 (q : Int), .int .i64 ((nr 0 0 (b.drop p)).2.2 : Int)]) ∧ Hid (Nw V V' ∧ (q = p + (nr 0 0 (b.drop p)).2.1 ∨ (nr 0 0 (b.drop p)).2.2 ≠ 0))) := fun V p hV hp => rnumber_any V a n c p b (hb.nw hV) hn hp
  have HCB : Hid (∀ V, Nw w V → ∀ i (h : i < b.length), ∃ g o, a = some ⟨g, o, none⟩ ∧ V.cell? ⟨g, o + i, none⟩ = some (.int .u8 b[i].toNat)) := fun V hV i h => slx_at (hb.nw hV) i h
  have HLE : Hid ((rsT b).2.2 = 0 → (rsT b).2.1 ≤ n) := fun h => by have := rsT_bound b h; omega
  have HLe2 : Hid (∀ p m k, nr 0 0 (b.drop p) = (m, k, 0) → p ≤ n → p + k ≤ n ∧ m ≤ 9223372036854775807) := fun p m k h1 h2 => by
    have := num_inv _ _ _ h1
    rw [List.length_drop, hbn] at this
    exact ⟨by omega, this.2.2.2⟩
  have hC1 := HNum.out w 0 (Fr.refl _ _) (by omega)
  rw [List.drop_zero] at hC1
  have HBN := tHid hbn
  have HRD := tHid hrd
  clear hQ hb hbn hrd
  cases hr1 : nr 0 0 b with
  | mk cnt r1' =>
  obtain ⟨q1, e1⟩ := r1'
  rw [hr1] at hC1
  simp only [Nat.zero_add] at hC1
  have HC1 : Hid (Calls Tryd.prog 30 #[.slice a n c, .int .i64 0] w fun e V' => ∃ q : Nat, e = .returned (.tuple #[.int .i64 (cnt : Int), .int .i64 (q : Int), .int .i64 (e1 : Int)]) ∧ Hid (Nw w V' ∧ (q = q1 ∨ e1 ≠ 0))) := hC1
  by_cases he1 : e1 = 0
  · subst he1
    obtain ⟨hq1n, hcm⟩ := HLe2.out 0 cnt q1 (by rw [List.drop_zero]; exact hr1) (by omega)
    rw [Nat.zero_add] at hq1n
    by_cases hbig : 65536 < cnt
    · have hrs : rsT b = ([], 0, 2) := by unfold rsT; simp only [hr1]; rw [if_neg (by simp), if_pos hbig]
      have hrd := HRD.out
      rw [hrs] at hrd
      simp only at hrd
      rw [if_pos (by simp)] at hrd
      have hbi : (65536 : Int) < (cnt : Int) := by omega
      have HQ : Hid (∀ V, Nw w V → Q (.returned (.tuple #[.slice none 0 0, .int .i64 0, .int .i64 2])) V) := fun V hV => HBad.out V 2 hrd hV
      clear HNum HOk HCB HLE HLe2 hC1 hr1 hrs hrd HRD HBad
      go_enter Tryd.func10, Tryd.ntmps10
      go_wp2_with (first
        | (go_at_call 30; with_reducible refine HC1.out.mono ?_; rintro e w1 ⟨q, rfl, H1⟩))
      first | exact HQ.out _ H1.out.1 | (go_ret; exact HQ.out _ H1.out.1)
    · have hrs : rsT b = rdA b cnt 0 q1 [] := by unfold rsT; simp only [hr1]; rw [if_neg (by simp), if_neg hbig]
      have hbi : ¬ (65536 : Int) < (cnt : Int) := by omega
      have HRS := tHid hrs
      have HC2 : Hid (Calls Tryd.prog 30 #[.slice a n c, .int .i64 0] w fun e V' => e = .returned (.tuple #[.int .i64 (cnt : Int), .int .i64 (q1 : Int), .int .i64 0]) ∧ Hid (Nw w V')) := HC1.out.mono (fun e V' ⟨q, h1, h2⟩ => by
        rcases h2.out.2 with h | h
        · rw [h] at h1; exact ⟨h1, h2.out.1⟩
        · exact absurd rfl h)
      have HRbad : Hid (∀ V r (e : Nat), rsT b = (r, 0, e) → e ≠ 0 → Nw w V → Q (.returned (.tuple #[.slice none 0 0, .int .i64 0, .int .i64 (e : Int)])) V) := fun V r e h1 h2 hV => HBad.out V e (by rw [HRD.out, h1]; simp only; rw [if_pos h2]) hV
      clear hr1 hrs hC1 HC1
      go_enter Tryd.func10, Tryd.ntmps10
      go_upto_region 6 with (first
        | (go_at_call 30; with_reducible refine HC2.out.mono ?_; rintro e w1 ⟨rfl, H1⟩))
      go_upto_region 9 with fail
      have HI0 : Hid (RrI w n b cnt 0 0 q1 w1.heap.size 0 0 (rsT b) (w1.alloc (.cells #[] 51))) := ⟨H1.out.alloc _, hq1n, H1.out.size, [], OwR.empty (R := RG) w1, rfl, HRS.out⟩
      go_loopg [6, 8, 9, 10] cnt (fun kx p v e i wr => ∃ (I E p' g m' c' : Nat), I ≤ cnt ∧ cnt - I ≤ kx ∧ E ≤ 9223372036854775807 ∧ p = .int .i64 p' ∧ v = .slice (some ⟨g, 0, none⟩) m' c' ∧ e = .int .i64 E ∧ i = .int .i64 I ∧ Hid (RrI w n b cnt I E p' g m' c' (rsT b) wr))
      case atStart => exact ⟨0, 0, q1, w1.heap.size, 0, 0, by omega, by omega, by omega, rfl, rfl, rfl, rfl, HI0⟩
      case round =>
        obtain ⟨I, E, p, g, m', c', hI, hkx, hE, rfl, rfl, rfl, rfl, HI⟩ := hrel
        obtain ⟨hNw, hpn, hge, acc, hO, hal, hR⟩ := HI.out
        by_cases hlt : I < cnt
        · have hIi : (I : Int) < (cnt : Int) := by omega
          have hpb : p ≤ b.length := by rw [HBN.out]; exact hpn
          rw [show cnt - I = (cnt - (I + 1)) + 1 by omega, rdA] at hR
          have hCa := HNum.out wr p hNw hpn
          cases hra : nr 0 0 (b.drop p) with
          | mk n1 ra' =>
          obtain ⟨qa, ea⟩ := ra'
          rw [hra] at hCa
          simp only at hCa
          by_cases hea : ea = 0
          · subst hea
            obtain ⟨hle1, hm1⟩ := HLe2.out p n1 qa hra hpn
            obtain ⟨pa, hpa⟩ : ∃ pa, p + qa = pa := ⟨_, rfl⟩
            rw [hpa] at hle1 hCa
            have HCa : Hid (Calls Tryd.prog 30 #[.slice a n c, .int .i64 (p : Int)] wr fun e V' => e = .returned (.tuple #[.int .i64 (n1 : Int), .int .i64 (pa : Int), .int .i64 0]) ∧ Hid (Nw wr V')) := hCa.mono (fun e V' ⟨q, h1, h2⟩ => by
              rcases h2.out.2 with h | h
              · rw [h] at h1; exact ⟨h1, h2.out.1⟩
              · exact absurd rfl h)
            cases hrb : nr 0 0 (b.drop pa) with
            | mk n2 rb' =>
            obtain ⟨qb, eb⟩ := rb'
            have HCb0 : Hid (∀ V, Nw wr V → Calls Tryd.prog 30 #[.slice a n c, .int .i64 (pa : Int)] V fun e V' => ∃ q : Nat, e = .returned (.tuple #[.int .i64 (n2 : Int), .int .i64 (q : Int), .int .i64 (eb : Int)]) ∧ Hid (Nw V V' ∧ (q = pa + qb ∨ eb ≠ 0))) := fun V hV => by
              have := HNum.out V pa (hNw.trans hV) hle1
              rw [hrb] at this
              exact this
            have hrb' : nr 0 0 (b.drop (p + qa)) = (n2, qb, eb) := by rw [hpa]; exact hrb
            by_cases heb : eb = 0
            · subst heb
              obtain ⟨hle2, hm2⟩ := HLe2.out pa n2 qb hrb hle1
              obtain ⟨pb, hpb2⟩ : ∃ pb, pa + qb = pb := ⟨_, rfl⟩
              rw [hpb2] at hle2 HCb0
              have HCb : Hid (∀ V, Nw wr V → Calls Tryd.prog 30 #[.slice a n c, .int .i64 (pa : Int)] V fun e V' => e = .returned (.tuple #[.int .i64 (n2 : Int), .int .i64 (pb : Int), .int .i64 0]) ∧ Hid (Nw V V')) := fun V hV => (HCb0.out V hV).mono (fun e V' ⟨q, h1, h2⟩ => by
                rcases h2.out.2 with h | h
                · rw [h] at h1; exact ⟨h1, h2.out.1⟩
                · exact absurd rfl h)
              by_cases hbad : n1 < E ∨ 9223372036854775807 - n1 < n2
              · have ho := one1_e3 b E p n1 qa n2 qb hra hrb' hbad
                rw [ho, if_pos (by simp)] at hR
                have HQ : Hid (∀ V, Nw wr V → Q (.returned (.tuple #[.slice none 0 0, .int .i64 0, .int .i64 3])) V) := fun V hV => HRbad.out V _ 3 hR (by omega) (hNw.trans hV)
                clear HNum HOk HCB HLE HLe2 HBad HRbad HI hNw hO hR ho hra hrb hrb' HCb0 hCa HI0 HRD HRS HC2 hpa hpb2
                by_cases hF : n1 < E
                · have hFi : (n1 : Int) < (E : Int) := by omega
                  clear hbad
                  go_wp2_with (first
                    | (go_at_call 30; with_reducible refine HCa.out.mono ?_; rintro e w2 ⟨rfl, H2⟩)
                    | (go_at_call 30; with_reducible refine (HCb.out _ H2.out).mono ?_; rintro e w3 ⟨rfl, H3⟩))
                  first | exact HQ.out _ (H2.out.trans H3.out) | (go_ret; exact HQ.out _ (H2.out.trans H3.out))
                · have hFi : ¬ (n1 : Int) < (E : Int) := by omega
                  have hov : (9223372036854775807 : Int) - (n1 : Int) < (n2 : Int) := by omega
                  clear hbad
                  go_wp2_with (first
                    | (go_at_call 30; with_reducible refine HCa.out.mono ?_; rintro e w2 ⟨rfl, H2⟩)
                    | (go_at_call 30; with_reducible refine (HCb.out _ H2.out).mono ?_; rintro e w3 ⟨rfl, H3⟩))
                  first | exact HQ.out _ (H2.out.trans H3.out) | (go_ret; exact HQ.out _ (H2.out.trans H3.out))
              · have ho := one1_e4 b E p n1 qa n2 qb hra hrb' hbad
                rw [ho, if_neg (by simp)] at hR
                simp only at hR
                rw [hpa, hpb2] at hR
                have hFi : ¬ (n1 : Int) < (E : Int) := by omega
                have hov : ¬ (9223372036854775807 : Int) - (n1 : Int) < (n2 : Int) := by omega
                obtain ⟨T, hT⟩ : ∃ T, n1 + n2 = T := ⟨_, rfl⟩
                rw [hT] at hR
                have hTi : (n1 : Int) + (n2 : Int) = (T : Int) := by omega
                have hTm : T ≤ 9223372036854775807 := by omega
                have HST : Hid (∀ V, Nw wr V → ∃ g2 m2 c2 W, Hid (∀ ty, (Builtin.append_ #[22, 22] ty #[.slice (some ⟨g, 0, none⟩) m' c', .slice (some ⟨V.heap.size, 0, none⟩) 1 1]).run Tryd.prog (V.alloc (.cells #[.int .i64 (n1 : Int), .int .i64 (T : Int)] 51)) = .ok (.slice (some ⟨g2, 0, none⟩) m2 c2) W) ∧ Hid (RrI w n b cnt (I + 1) T pb g2 m2 c2 (rsT b) W)) := fun V hV => by
                  obtain ⟨g2, m2, c2, W, r1, r2, r3, r4⟩ := pushO V g m' c' (rgL acc) (hO.nw hV) (by rw [rgL_len]; omega) ((n1 : Int), (T : Int))
                  refine ⟨g2, m2, c2, W, r1, (hNw.trans hV).then r3 (fun i hi => .inr (by omega)), hle2, ?_, acc ++ [(n1, T)], by rw [rgL_snoc]; exact r2, by rw [List.length_append, List.length_singleton, hal], hR⟩
                  have h5 := (hNw.trans hV).size
                  rcases r4 with e | e <;> omega
                clear HNum HOk HCB HLE HLe2 HBad HRbad HI hNw hO hR ho hra hrb hrb' HCb0 hCa HI0 HRD HRS HC2 hpa hpb2 hT hbad
                go_upto_region 21 with (first
                  | (go_at_call 30; with_reducible refine HCa.out.mono ?_; rintro e w2 ⟨rfl, H2⟩)
                  | (go_at_call 30; with_reducible refine (HCb.out _ H2.out).mono ?_; rintro e w3 ⟨rfl, H3⟩))
                obtain ⟨g2, m2, c2, W, HA, HNX⟩ := HST.out w3 (H2.out.trans H3.out)
                clear HST HCa HCb H2 H3
                go_wp2_with (first
                  | (at_builtin; refine Lib.wpList_append_run _ rfl _ _ 22 22 rfl (.slice (some ⟨g, 0, none⟩) m' c') (.slice (some ⟨w3.heap.size, 0, none⟩) 1 1) (by first | rfl | simp [Act.eval]) (by first | rfl | simp [Act.eval]) _ _ (HA.out _) ?_))
                go_roundg (cnt - (I + 1))
                case measure => omega
                case rel => exact ⟨I + 1, T, pb, g2, m2, c2, by omega, by omega, hTm, rfl, rfl, rfl, by first | rfl | (congr 1), HNX⟩
            · have ho := one1_e2 b E p n1 qa n2 qb eb hra hrb' heb
              rw [ho, if_pos heb] at hR
              have hebi : ¬ ((eb : Int) = 0) := by omega
              have HQ : Hid (∀ V, Nw wr V → Q (.returned (.tuple #[.slice none 0 0, .int .i64 0, .int .i64 (eb : Int)])) V) := fun V hV => HRbad.out V _ eb hR heb (hNw.trans hV)
              clear HNum HOk HCB HLE HLe2 HBad HRbad HI hNw hO hR ho hra hrb hrb' hCa HI0 HRD HRS HC2 hpa
              go_wp2_with (first
                | (go_at_call 30; with_reducible refine HCa.out.mono ?_; rintro e w2 ⟨rfl, H2⟩)
                | (go_at_call 30; with_reducible refine (HCb0.out _ H2.out).mono ?_; rintro e w3 ⟨qq, rfl, H3⟩))
              first | exact HQ.out _ (H2.out.trans H3.out.1) | (go_ret; exact HQ.out _ (H2.out.trans H3.out.1))
          · have ho := one1_e1 b E p n1 qa ea hra hea
            rw [ho, if_pos hea] at hR
            have heai : ¬ ((ea : Int) = 0) := by omega
            have HQ : Hid (∀ V, Nw wr V → Q (.returned (.tuple #[.slice none 0 0, .int .i64 0, .int .i64 (ea : Int)])) V) := fun V hV => HRbad.out V _ ea hR hea (hNw.trans hV)
            have HCa := tHid hCa
            clear HNum HOk HCB HLE HLe2 HBad HRbad HI hNw hO hR ho hra hCa HI0 HRD HRS HC2
            go_wp2_with (first
              | (go_at_call 30; with_reducible refine HCa.out.mono ?_; rintro e w2 ⟨qq, rfl, H2⟩))
            first | exact HQ.out _ H2.out.1 | (go_ret; exact HQ.out _ H2.out.1)
        · have hIc : I = cnt := by omega
          rw [show cnt - I = 0 by omega, rdA] at hR
          have HRR : Hid (rdT b = if (zrF b (padN p) p).2 ≠ 0 then ([], 0, (zrF b (padN p) p).2) else (acc, (zrF b (padN p) p).1, 0)) := by
            show _ = _
            rw [HRD.out, hR]
            simp only
            rw [if_neg (by simp)]
          have HOw := tHid hO
          have HNr := tHid hNw
          have HGe := tHid hge
          subst hIc
          clear HNum HLE HLe2 HRbad HI hNw hO hR HI0 HRD HRS HC2 hge
          obtain ⟨wB, h⟩ : ∃ z, z = wr := ⟨_, rfl⟩
          subst h
          go_upto_region 22 with fail
          go_loopg [6] 512 (fun kx v wr => ∃ p' : Nat, p' ≤ n ∧ padN p' ≤ kx ∧ v = .int .i64 p' ∧ Hid (Nw wB wr ∧ zrF b (padN p) p = zrF b (padN p') p'))
          case atStart => exact ⟨p, hpn, by have := padN_lt p; omega, rfl, Fr.refl _ _, rfl⟩
          case round =>
            obtain ⟨p', hp', hkx2, rfl, HJ⟩ := hrel
            obtain ⟨hNj, hZ⟩ := HJ.out
            have hrem := rem512 p'
            by_cases hz : p' % 512 = 0
            · rw [padN_zero hz, zrF] at hZ
              rw [hz] at hrem
              have hrem2 : (p' : Int) % 512 = 0 := by omega
              have hrr := HRR.out
              rw [hZ] at hrr
              simp only at hrr
              rw [if_neg (by simp)] at hrr
              have HQ := tHid (HOk.out wr acc p' g m' c' hrr (HNr.out.trans hNj) (HOw.out.nw hNj) HGe.out)
              clear HBad HOk HCB HJ hNj hZ hrr HRR HOw
              go_wp2_with fail
              first | exact HQ.out | (go_ret; exact HQ.out)
            · have hps := padN_succ hz
              rw [hps, zrF] at hZ
              obtain ⟨R, hR⟩ : ∃ R, p' % 512 = R := ⟨_, rfl⟩
              rw [hR] at hrem hz
              have hrem2 : (p' : Int) % 512 = (R : Int) := by omega
              have hRz : ¬ ((R : Int) = 0) := by omega
              by_cases hpe : p' = n
              · rw [if_pos (by rw [HBN.out]; omega)] at hZ
                have hrr := HRR.out
                rw [hZ] at hrr
                simp only at hrr
                rw [if_pos (by simp)] at hrr
                have HQ := tHid (HBad.out wr 4 hrr (HNr.out.trans hNj))
                subst hpe
                clear HBad HOk HCB HJ hNj hZ hrr HRR HOw hR
                go_wp2_with fail
                first | exact HQ.out | (go_ret; exact HQ.out)
              · rw [if_neg (by rw [HBN.out]; omega)] at hZ
                have hpb : p' < b.length := by rw [HBN.out]; omega
                obtain ⟨gb, ob, rfl, hcell⟩ := HCB.out wr (HNr.out.trans hNj) p' hpb
                have hne : ¬ ((p' : Int) = (n : Int)) := by omega
                have hneb : ((p' : Int) == (n : Int)) = false := by rw [beq_eq_false_iff_ne]; exact hne
                have hpi : (p' : Int) < (n : Int) := by omega
                rw [List.getElem?_eq_getElem hpb] at hZ
                by_cases hx : b[p'] = 0#8
                · rw [if_pos (by rw [hx])] at hZ
                  rw [hx] at hcell
                  simp only [BitVec.toNat_ofNat, Nat.zero_mod, Int.natCast_zero] at hcell
                  have HNX : Hid (Nw wB wr ∧ zrF b (padN p) p = zrF b (padN (p' + 1)) (p' + 1)) := ⟨hNj, hZ⟩
                  have HPD : Hid (padN (p' + 1) < padN p') := by show _ < _; omega
                  clear HBad HOk HCB HJ hNj hZ HRR HOw hR hps hx
                  go_wp2_with fail
                  go_roundg (padN (p' + 1))
                  case measure => have := HPD.out; omega
                  case rel => exact ⟨p' + 1, by omega, Nat.le_refl _, by first | rfl | (congr 1), HNX⟩
                · rw [if_neg (fun h => by injection h with h; exact hx h)] at hZ
                  have hrr := HRR.out
                  rw [hZ] at hrr
                  simp only at hrr
                  rw [if_pos (by simp)] at hrr
                  have hxi := by_ne hx
                  have hxb : (((b[p']'hpb).toNat : Int) != 0) = true := by rw [bne, beq_eq_false_iff_ne.2 hxi]; rfl
                  have HQ := tHid (HBad.out wr 3 hrr (HNr.out.trans hNj))
                  clear HBad HOk HCB HJ hNj hZ hrr HRR HOw hR hps hx
                  generalize (b[p']'hpb).toNat = y at *
                  go_wp2_with fail
                  first | exact HQ.out | (go_ret; exact HQ.out)
  · have hrs : rsT b = ([], 0, e1) := by unfold rsT; simp only [hr1]; rw [if_pos he1]
    have hrd := HRD.out
    rw [hrs] at hrd
    simp only at hrd
    rw [if_pos he1] at hrd
    have he1i : ¬ ((e1 : Int) = 0) := by omega
    have HQ : Hid (∀ V, Nw w V → Q (.returned (.tuple #[.slice none 0 0, .int .i64 0, .int .i64 (e1 : Int)])) V) := fun V hV => HBad.out V e1 hrd hV
    clear HNum HOk HCB HLE HLe2 hC1 hr1 hrs hrd HRD HBad
    go_enter Tryd.func10, Tryd.ntmps10
    go_wp2_with (first
      | (go_at_call 30; with_reducible refine HC1.out.mono ?_; rintro e w1 ⟨q, rfl, H1⟩))
    first | exact HQ.out _ H1.out.1 | (go_ret; exact HQ.out _ H1.out.1)
end Go.Proofs.YtffhpoilifgcdaaDoor

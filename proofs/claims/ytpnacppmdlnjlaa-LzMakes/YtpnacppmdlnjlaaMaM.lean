import Derived.Test.YtpnacppmdlnjlaaMaL
namespace Go.Proofs.Ytpnacppmdlnjlaa
open Go.RowKit
set_option linter.unusedVariables false
set_option maxHeartbeats 16000000 in
set_option maxRecDepth 100000 in
theorem rMake_any (w : World) (v : Value) (l : List Si) (hl : OldS w v l) : Calls Try.prog 20 #[v] w (Makd (mkR l) w) := by
  obtain ⟨P, hP⟩ : ∃ P, P = Makd (mkR l) w := ⟨_, rfl⟩
  rw [← hP]
  have HP : Hid (P = Makd (mkR l) w) := hP
  clear hP
  by_cases hcan : ¬ CanB l
  · have HC : Hid (Calls Try.prog 36 #[v] w fun e w' => e = .returned (.bool false) ∧ Hid (P (.returned (.tuple #[.slice none 0 0, .int .i64 1])) w')) := by
      refine (rMade_any _ w v l hl false ⟨fun h => (by cases h), fun h => absurd h hcan⟩).mono ?_
      rintro e w' ⟨rfl, hN⟩
      refine ⟨rfl, ?_⟩
      show P _ _
      rw [HP.out, mkR_arg hcan]
      exact Makd.none hN
    clear hl HP
    go_enter Try.func20, Try.ntmps20
    go_wp2_with (first | (go_at_call 36; with_reducible refine (HC.out).mono ?_; rintro e w1 ⟨rfl, HE⟩))
    exact HE.out
  replace hcan : CanB l := Classical.not_not.1 hcan
  have HC : Hid (Calls Try.prog 36 #[v] w fun e w' => e = .returned (.bool true) ∧ Hid (Nw w w')) := rMade_any _ w v l hl true ⟨fun _ => hcan, fun _ => rfl⟩
  have HLong : Hid (¬ tot l ≤ 4194304 → ∀ V, Nw w V → P (.returned (.tuple #[.slice none 0 0, .int .i64 2])) V) := fun h V hV => by
    rw [HP.out, mkR_long hcan h]
    exact Makd.none hV
  have HEnd : Hid (tot l ≤ 4194304 → ∀ v' V, Mine (fun k => k < w.heap.size) v' (mkI l) V → Nw w V → P (.returned (.tuple #[v', .int .i64 0])) V) := fun h v' V h1 h2 => by
    rw [HP.out, mkR_ok hcan h]
    obtain ⟨ax, cx, rfl, _, _⟩ := h1.sl.form
    exact ⟨ax, cx, rfl, h1, h2⟩
  obtain ⟨a, c, rfl, hc, hc2, hL⟩ := hl.form
  have HL : Hid (OldS w (.slice a l.length c) l) := hl
  have Hcan : Hid (CanB l) := hcan
  have h1 : 0 < l.length := List.length_pos_iff.2 hcan.1
  clear hl hcan HP
  generalize hln : l.length = L at *
  have hln' : Hid (l.length = L) := hln
  clear hln
  go_enter Try.func20, Try.ntmps20
  go_wp2_with (first | (go_at_call 36; with_reducible refine (HC.out).mono ?_; rintro e w1 ⟨rfl, HN1⟩))
  clear HC
  go_loopg [4, 5] L (fun kx f i wr => ∃ (I F : Nat), I ≤ L ∧ L - I ≤ kx ∧ i = .int .i64 I ∧ f = .int .i64 F ∧ F ≤ 4194304 ∧ Hid (Nw w wr ∧ tot (l.take I) = F))
  case atStart => exact ⟨0, 0, by omega, by omega, rfl, rfl, by omega, HN1.out, by simp [tot]⟩
  case round =>
    obtain ⟨I, F, hI, hkx, rfl, rfl, hF, HI⟩ := hrel
    clear HN1
    have hN := HI.out.1
    by_cases hlt : I < L
    · have hlt' : I < l.length := by rw [hln'.out]; omega
      obtain ⟨g, o, pa, pc, _, rfl, x0, x1, x2, _, hpl⟩ := (HL.out.nw hN).at I hlt'
      have hz : (I : Int) < (L : Int) := by omega
      have hpos := Hcan.out.pos _ (List.getElem_mem hlt')
      have hst := tot_step l I hlt'
      have htk := tot_take l (I + 1)
      have hsum := HI.out.2
      have HNo : Hid (4194304 < F + l[I].p.length + l[I].n.toNat → ∀ V, Nw wr V → P (.returned (.tuple #[.slice none 0 0, .int .i64 2])) V) := fun h V hV => HLong.out (by omega) _ (hN.trans hV)
      have HY : Hid (tot (l.take (I + 1)) = F + l[I].p.length + l[I].n.toNat) := by show _ = _; omega
      clear HI HL Hcan hst htk hsum HLong HEnd
      generalize l[I].p.length = pn at *
      generalize l[I].b = zb at *
      generalize l[I].n = q at *
      obtain ⟨zn, rfl⟩ : ∃ k : Nat, q = k := ⟨q.toNat, by omega⟩
      rw [Int.toNat_natCast] at HNo HY
      clear hpos
      by_cases g1 : 4194304 < pn
      · have HF' : Hid (P _ _) := HNo.out (by omega) wr (Fr.refl _ _)
        have hz1 : (4194304 : Int) < (pn : Int) := by omega
        clear HNo HY
        go_wp2
        exact HF'.out
      have hz1 : ¬ (4194304 : Int) < (pn : Int) := by omega
      by_cases g2 : 4194304 < zn
      · have HF' : Hid (P _ _) := HNo.out (by omega) wr (Fr.refl _ _)
        have hz2 : (4194304 : Int) < (zn : Int) := by omega
        clear HNo HY
        go_wp2
        exact HF'.out
      have hz2 : ¬ (4194304 : Int) < (zn : Int) := by omega
      have hz3 : (F : Int) + (pn : Int) = ((F + pn : Nat) : Int) := by omega
      have hz4 : ((F + pn : Nat) : Int) + (zn : Int) = ((F + pn + zn : Nat) : Int) := by omega
      have hb3 : F + pn ≤ 20000000 := by omega
      have hb4 : F + pn + zn ≤ 20000000 := by omega
      by_cases g3 : 4194304 < F + pn + zn
      · have HF' : Hid (∀ V, Nw wr V → P _ V) := HNo.out g3
        have hz5 : (4194304 : Int) < ((F + pn + zn : Nat) : Int) := by omega
        clear HNo HY
        generalize F + pn + zn = F2 at *
        generalize F + pn = F1 at *
        go_wp2_with fail
        go_quiet (fail)
        go_wp2
        exact HF'.out _ ((Fr.refl _ _).drewN _)
      have hz5 : ¬ (4194304 : Int) < ((F + pn + zn : Nat) : Int) := by omega
      generalize F + pn + zn = F2 at *
      generalize F + pn = F1 at *
      clear HNo
      go_wp2_with fail
      go_quiet (fail)
      go_wp2
      go_roundg (L - (I + 1))
      all_goals (first | omega | exact ⟨I + 1, F2, by omega, by omega, by first | rfl | (congr 1), rfl, by omega, hN.trans ((Fr.refl _ _).drewN _), HY.out⟩)
    · obtain rfl : I = L := by omega
      have hz : ¬ (I : Int) < (I : Int) := by omega
      have Hfit : Hid (tot l ≤ 4194304) := by
        have := HI.out.2
        rw [← hln'.out, List.take_length] at this
        show _ ≤ _
        omega
      have HI0 : Hid (Nw w (wr.alloc (.cells #[] 5)) ∧ Mine (fun k => k < w.heap.size) (.slice (some ⟨wr.heap.size, 0, none⟩) 0 0) (mkI (l.take 0)) (wr.alloc (.cells #[] 5))) := ⟨hN.alloc _, .inr ⟨wr.heap.size, by have := hN.size; omega, Ow.empty wr⟩⟩
      clear HI hlt HLong hkx
      go_wp2
      clear hz
      clear hN
      rename_i W9
      go_loopg [6, 7] I (fun kx b i wr => ∃ (J : Nat), J ≤ I ∧ I - J ≤ kx ∧ i = .int .i64 J ∧ Hid (Nw w wr ∧ Mine (fun k => k < w.heap.size) b (mkI (l.take J)) wr))
      case atStart => exact ⟨0, by omega, by omega, rfl, HI0.out⟩
      case round =>
        obtain ⟨J, hJ, hkx, rfl, HI⟩ := hrel
        clear HI0
        have hN := HI.out.1
        have hN2 := HI.out.2
        by_cases hlt : J < I
        · have hlt' : J < l.length := by rw [hln'.out]; omega
          obtain ⟨g, o, pa, pc, _, rfl, x0, x1, x2, hsl, hpl⟩ := (HL.out.nw hN).at J hlt'
          have hz : (J : Int) < (I : Int) := by omega
          have hst := tot_step l J hlt'
          have htk := tot_take l (J + 1)
          have hcnt := Hcan.out.count (J + 1) (by omega)
          have hmk := mkI_le Hcan.out J (by omega)
          have hft := Hfit.out
          have hps := Hcan.out.pos _ (List.getElem_mem hlt')
          have hok := Hcan.out.ok _ (List.getElem_mem hlt')
          have hz1 : (I : Int) - 1 = ((I - 1 : Nat) : Int) := by omega
          have hpb : l[J].p.length ≤ 10000000 := by omega
          have hmpb : min l[J].p.length 15 ≤ 15 := by omega
          have hlw1 := rlow_any
          by_cases hlast : J + 1 = I
          · have hbn : l[J].b = 0 ∧ l[J].n = 0 := by
              have := Hcan.out.2.2 (by omega)
              have e : l.length - 1 = J := by rw [hln'.out]; omega
              simp only [e] at this; exact this
            obtain ⟨a6, l6, c6, a1, l1, c1, W1, rfl, HAP1, ⟨u0, u1, u2⟩, hC⟩ := rmake_round w wr hN u6 _ hN2 (.slice pa l[J].p.length pc) l[J] hsl hpb (by omega) (by omega) hok 0 (.inl ⟨hbn.1, rfl⟩) (fun v' W' => Hid (P (.returned (.tuple #[v', .int .i64 0])) W')) (fun v' W' h1 h2 => HEnd.out hft _ _ (by
                rw [← mkI_take l J hlt', hlast, ← hln'.out, List.take_length] at h1; exact h1) h2)
            rw [if_pos hbn.1] at hC
            simp only [hbn.1, hbn.2] at HAP1 u1 u2 x1 x2 hC
            have HLo1 : Hid (∀ V, Calls Try.prog 37 #[.int .i64 l[J].p.length] V fun e w' => e = .returned (.int .i64 (min l[J].p.length 15 : Nat)) ∧ w' = V) := fun V => rlow_any V l[J].p.length
            have hw8 : ((16 * min l[J].p.length 15 + min 0 15 : Nat) : Int) % 256 = ((16 * min l[J].p.length 15 + min 0 15 : Nat) : Int) := by omega
            have hz3 : (16 : Int) * ((min l[J].p.length 15 : Nat) : Int) = ((16 * min l[J].p.length 15 + min 0 15 : Nat) : Int) := by omega
            have hT : 16 * min l[J].p.length 15 + min 0 15 ≤ 255 := by omega
            replace hz1 : (I : Int) - 1 = (J : Int) := by omega
            clear HI HL Hcan hst htk hcnt hmk hft hps hok hsl hpl HEnd hN hN2 hlw1 Hfit hbn
            generalize l[J].p.length = pn at *
            generalize 16 * min pn 15 + min 0 15 = T at *
            generalize min pn 15 = mp at *
            have hz15 : (pn : Int) - 15 = ((pn - 15 : Nat) : Int) ∨ pn < 15 := by omega
            obtain ⟨q1, hq1⟩ : ∃ q1, (wr.alloc (.cells #[.slice pa pn pc, .int .i64 0, .int .i64 0] 36)).heap.size = q1 := ⟨_, rfl⟩
            by_cases hp15 : pn < 15
            · have hzp : ¬ (15 : Int) ≤ (pn : Int) := by omega
              clear hz15
              rw [hq1] at HAP1
              obtain ⟨a3, l3, c3, W3, HAP3, ⟨z0, z1, z2⟩, HQ⟩ := hC.1 hp15
              clear hC
              go_wp2_with (first
                | (go_at_call 37; with_reducible refine (HLo1.out _).mono ?_; rintro e w1 ⟨rfl, rfl⟩)
                | (at_builtin; refine Lib.wpList_append_run _ rfl _ _ 22 22 rfl (.slice a6 l6 c6) (.slice (some ⟨q1, 0, none⟩) 1 1) (by simp [Act.eval]) (by simp [Act.eval]) _ _ (HAP1.out _) ?_)
                | (at_builtin; refine Lib.wpList_append_run _ rfl _ _ 22 22 rfl (.slice a1 l1 c1) (.slice pa pn pc) (by simp [Act.eval]) (by simp [Act.eval]) _ _ (HAP3.out _) ?_))
              exact HQ.out
            · replace hp15 : 15 ≤ pn := by omega
              have hzp : (15 : Int) ≤ (pn : Int) := by omega
              replace hz15 : (pn : Int) - 15 = ((pn - 15 : Nat) : Int) := by omega
              rw [hq1] at HAP1
              have HC1 := hC.2 hp15
              clear hC
              generalize pn - 15 = p5 at *
              go_wp2_with (first
                | (go_at_call 37; with_reducible refine (HLo1.out _).mono ?_; rintro e w1 ⟨rfl, rfl⟩)
                | (at_builtin; refine Lib.wpList_append_run _ rfl _ _ 22 22 rfl (.slice a6 l6 c6) (.slice (some ⟨q1, 0, none⟩) 1 1) (by simp [Act.eval]) (by simp [Act.eval]) _ _ (HAP1.out _) ?_)
                | (go_at_call 38; with_reducible refine (HC1.out).mono ?_; rintro e w2 ⟨an, ln, cn, rfl, ⟨y0, y1, y2⟩, a2, l2, c2, W2, HAPn, ⟨v0, v1, v2⟩, a3, l3, c3, W3, HAP3, ⟨z0, z1, z2⟩, HQ⟩)
                | (at_builtin; refine Lib.wpList_append_run _ rfl _ _ 22 22 rfl (.slice a1 l1 c1) (.slice an ln cn) (by simp [Act.eval]) (by simp [Act.eval]) _ _ (HAPn.out _) ?_)
                | (at_builtin; refine Lib.wpList_append_run _ rfl _ _ 22 22 rfl (.slice a2 l2 c2) (.slice pa pn pc) (by simp [Act.eval]) (by simp [Act.eval]) _ _ (HAP3.out _) ?_))
              exact HQ.out
          · have hcj : canI l[J] := Hcan.out.2.1 J (by rw [hln'.out]; omega)
            obtain ⟨a6, l6, c6, a1, l1, c1, W1, rfl, HAP1, ⟨u0, u1, u2⟩, hC⟩ := rmake_round w wr hN u6 _ hN2 (.slice pa l[J].p.length pc) l[J] hsl hpb (by omega) (by omega) hok (l[J].n.toNat - 4) (.inr ⟨hcj, rfl⟩) (fun v' W' => Hid (Nw w W' ∧ Mine (fun k => k < w.heap.size) v' (mkI (l.take (J + 1))) W')) (fun v' W' h1 h2 => ⟨h2, by rw [mkI_take l J hlt']; exact h1⟩)
            obtain ⟨hc1, hc2', hc3⟩ := hcj
            rw [if_neg (by omega)] at hC
            have HLo1 : Hid (∀ V, Calls Try.prog 37 #[.int .i64 l[J].p.length] V fun e w' => e = .returned (.int .i64 (min l[J].p.length 15 : Nat)) ∧ w' = V) := fun V => rlow_any V l[J].p.length
            have hnb : l[J].n ≤ 10000000 := by omega
            clear HI HL Hcan hst htk hcnt hmk hft hps hok hsl hpl HEnd hN hN2 hlw1 Hfit
            generalize l[J].p.length = pn at *
            generalize l[J].b = zb at *
            generalize l[J].n = zn at *
            obtain ⟨bk, rfl⟩ : ∃ k : Nat, zb = k := ⟨zb.toNat, by omega⟩
            obtain ⟨n, rfl⟩ : ∃ k : Nat, zn = k := ⟨zn.toNat, by omega⟩
            rw [Int.toNat_natCast] at HAP1 hC
            rw [Int.toNat_natCast] at hC
            have hz4 : (n : Int) - 4 = ((n - 4 : Nat) : Int) := by omega
            have hm4 : n - 4 ≤ 10000000 := by omega
            generalize n - 4 = m at *
            have HLo2 : Hid (∀ V, Calls Try.prog 37 #[.int .i64 m] V fun e w' => e = .returned (.int .i64 (min m 15 : Nat)) ∧ w' = V) := fun V => rlow_any V m
            have hw8 : ((16 * min pn 15 + min m 15 : Nat) : Int) % 256 = ((16 * min pn 15 + min m 15 : Nat) : Int) := by omega
            have hz3 : (16 : Int) * ((min pn 15 : Nat) : Int) + ((min m 15 : Nat) : Int) = ((16 * min pn 15 + min m 15 : Nat) : Int) := by omega
            have hT : 16 * min pn 15 + min m 15 ≤ 255 := by omega
            have hmm : min m 15 ≤ 15 := by omega
            have hx8 : Int.tmod (bk : Int) 256 = ((bk % 256 : Nat) : Int) := rfl
            have hx9 : ((bk % 256 : Nat) : Int) % 256 = ((bk % 256 : Nat) : Int) := by omega
            have hy8 : Int.tdiv (bk : Int) 256 = ((bk / 256 : Nat) : Int) := rfl
            have hy9 : ((bk / 256 : Nat) : Int) % 256 = ((bk / 256 : Nat) : Int) := by omega
            have hbx : bk % 256 ≤ 255 := by omega
            have hby : bk / 256 ≤ 255 := by omega
            replace hz1 : (I : Int) - 1 = ((I - 1 : Nat) : Int) := by omega
            have hz2 : ¬ (J : Int) = ((I - 1 : Nat) : Int) := by omega
            have hzl : ((J : Int) == ((I - 1 : Nat) : Int)) = false := by simp; omega
            dsimp only [CNum, CApp, CTwo] at hC
            generalize I - 1 = I1 at *
            generalize bk % 256 = bx at *
            generalize bk / 256 = by' at *
            generalize 16 * min pn 15 + min m 15 = T at *
            generalize min pn 15 = mp at *
            generalize min m 15 = mp2 at *
            obtain ⟨q1, hq1⟩ : ∃ q1, (wr.alloc (.cells #[.slice pa pn pc, .int .i64 bk, .int .i64 n] 36)).heap.size = q1 := ⟨_, rfl⟩
            rw [hq1] at HAP1
            clear hz
            have hz : (J : Int) < (I : Int) := by omega
            by_cases hp15 : pn < 15
            · have hzp : ¬ (15 : Int) ≤ (pn : Int) := by omega
              by_cases hm15 : m < 15
              · have hzm : ¬ (15 : Int) ≤ (m : Int) := by omega
                obtain ⟨a3, l3, c3, W3, HAP3, ⟨z0, z1, z2⟩, a4, l4, c4, W4, HAP4, ⟨t0, t1, t2⟩, HQ4⟩ := hC.1 hp15
                clear hC
                go_wp2_with (first
                  | (go_at_call 37; with_reducible refine (HLo1.out _).mono ?_; rintro e w1 ⟨rfl, rfl⟩)
                  | (go_at_call 37; with_reducible refine (HLo2.out _).mono ?_; rintro e w1 ⟨rfl, rfl⟩)
                  | (at_builtin; refine Lib.wpList_append_run _ rfl _ _ 22 22 rfl (.slice a6 l6 c6) (.slice (some ⟨q1, 0, none⟩) 1 1) (by simp [Act.eval]) (by simp [Act.eval]) _ _ (HAP1.out _) ?_)
                  | (at_builtin; refine Lib.wpList_append_run _ rfl _ _ 22 22 rfl (.slice a1 l1 c1) (.slice pa pn pc) (by simp [Act.eval]) (by simp [Act.eval]) _ _ (HAP3.out _) ?_)
                  | (at_builtin; refine Lib.wpList_append_run _ rfl _ _ 22 22 rfl (.slice a3 l3 c3) (.slice (some ⟨W3.heap.size, 0, none⟩) 2 2) (by simp [Act.eval]) (by simp [Act.eval]) _ _ (HAP4.out _) ?_))
                go_roundg (I - (J + 1))
                all_goals (first | omega | exact ⟨J + 1, by omega, by omega, by first | rfl | (congr 1), (HQ4.1 hm15).out⟩)
              · replace hm15 : 15 ≤ m := by omega
                have hzm : (15 : Int) ≤ (m : Int) := by omega
                have hzm5 : (m : Int) - 15 = ((m - 15 : Nat) : Int) := by omega
                obtain ⟨a3, l3, c3, W3, HAP3, ⟨z0, z1, z2⟩, a4, l4, c4, W4, HAP4, ⟨t0, t1, t2⟩, HQ4⟩ := hC.1 hp15
                clear hC
                go_wp2_with (first
                  | (go_at_call 37; with_reducible refine (HLo1.out _).mono ?_; rintro e w1 ⟨rfl, rfl⟩)
                  | (go_at_call 37; with_reducible refine (HLo2.out _).mono ?_; rintro e w1 ⟨rfl, rfl⟩)
                  | (at_builtin; refine Lib.wpList_append_run _ rfl _ _ 22 22 rfl (.slice a6 l6 c6) (.slice (some ⟨q1, 0, none⟩) 1 1) (by simp [Act.eval]) (by simp [Act.eval]) _ _ (HAP1.out _) ?_)
                  | (at_builtin; refine Lib.wpList_append_run _ rfl _ _ 22 22 rfl (.slice a1 l1 c1) (.slice pa pn pc) (by simp [Act.eval]) (by simp [Act.eval]) _ _ (HAP3.out _) ?_)
                  | (at_builtin; refine Lib.wpList_append_run _ rfl _ _ 22 22 rfl (.slice a3 l3 c3) (.slice (some ⟨W3.heap.size, 0, none⟩) 2 2) (by simp [Act.eval]) (by simp [Act.eval]) _ _ (HAP4.out _) ?_)
                  | (go_at_call 38; with_reducible refine ((HQ4.2 hm15).out).mono ?_; rintro e w5 ⟨am, lm, cm, rfl, ⟨r0, r1, r2⟩, a5, l5, c5, W5, HAPm, ⟨s0, s1, s2⟩, HQ⟩)
                  | (at_builtin; refine Lib.wpList_append_run _ rfl _ _ 22 22 rfl (.slice a4 l4 c4) (.slice am lm cm) (by simp [Act.eval]) (by simp [Act.eval]) _ _ (HAPm.out _) ?_))
                go_roundg (I - (J + 1))
                all_goals (first | omega | exact ⟨J + 1, by omega, by omega, by first | rfl | (congr 1), HQ.out⟩)
            · replace hp15 : 15 ≤ pn := by omega
              have hzp : (15 : Int) ≤ (pn : Int) := by omega
              have hz15 : (pn : Int) - 15 = ((pn - 15 : Nat) : Int) := by omega
              by_cases hm15 : m < 15
              · have hzm : ¬ (15 : Int) ≤ (m : Int) := by omega
                have HC1 := hC.2 hp15
                clear hC
                generalize pn - 15 = p5 at *
                go_wp2_with (first
                  | (go_at_call 37; with_reducible refine (HLo1.out _).mono ?_; rintro e w1 ⟨rfl, rfl⟩)
                  | (go_at_call 37; with_reducible refine (HLo2.out _).mono ?_; rintro e w1 ⟨rfl, rfl⟩)
                  | (at_builtin; refine Lib.wpList_append_run _ rfl _ _ 22 22 rfl (.slice a6 l6 c6) (.slice (some ⟨q1, 0, none⟩) 1 1) (by simp [Act.eval]) (by simp [Act.eval]) _ _ (HAP1.out _) ?_)
                  | (go_at_call 38; with_reducible refine (HC1.out).mono ?_; rintro e w2 ⟨an, ln, cn, rfl, ⟨y0, y1, y2⟩, a2, l2, c2, W2, HAPn, ⟨v0, v1, v2⟩, a3, l3, c3, W3, HAP3, ⟨z0, z1, z2⟩, a4, l4, c4, W4, HAP4, ⟨t0, t1, t2⟩, HQ4⟩)
                  | (at_builtin; refine Lib.wpList_append_run _ rfl _ _ 22 22 rfl (.slice a1 l1 c1) (.slice an ln cn) (by simp [Act.eval]) (by simp [Act.eval]) _ _ (HAPn.out _) ?_)
                  | (at_builtin; refine Lib.wpList_append_run _ rfl _ _ 22 22 rfl (.slice a2 l2 c2) (.slice pa pn pc) (by simp [Act.eval]) (by simp [Act.eval]) _ _ (HAP3.out _) ?_)
                  | (at_builtin; refine Lib.wpList_append_run _ rfl _ _ 22 22 rfl (.slice a3 l3 c3) (.slice (some ⟨W3.heap.size, 0, none⟩) 2 2) (by simp [Act.eval]) (by simp [Act.eval]) _ _ (HAP4.out _) ?_))
                go_roundg (I - (J + 1))
                all_goals (first | omega | exact ⟨J + 1, by omega, by omega, by first | rfl | (congr 1), (HQ4.1 hm15).out⟩)
              · replace hm15 : 15 ≤ m := by omega
                have hzm : (15 : Int) ≤ (m : Int) := by omega
                have hzm5 : (m : Int) - 15 = ((m - 15 : Nat) : Int) := by omega
                have HC1 := hC.2 hp15
                clear hC
                generalize pn - 15 = p5 at *
                go_wp2_with (first
                  | (go_at_call 37; with_reducible refine (HLo1.out _).mono ?_; rintro e w1 ⟨rfl, rfl⟩)
                  | (go_at_call 37; with_reducible refine (HLo2.out _).mono ?_; rintro e w1 ⟨rfl, rfl⟩)
                  | (at_builtin; refine Lib.wpList_append_run _ rfl _ _ 22 22 rfl (.slice a6 l6 c6) (.slice (some ⟨q1, 0, none⟩) 1 1) (by simp [Act.eval]) (by simp [Act.eval]) _ _ (HAP1.out _) ?_)
                  | (go_at_call 38; with_reducible refine (HC1.out).mono ?_; rintro e w2 ⟨an, ln, cn, rfl, ⟨y0, y1, y2⟩, a2, l2, c2, W2, HAPn, ⟨v0, v1, v2⟩, a3, l3, c3, W3, HAP3, ⟨z0, z1, z2⟩, a4, l4, c4, W4, HAP4, ⟨t0, t1, t2⟩, HQ4⟩)
                  | (at_builtin; refine Lib.wpList_append_run _ rfl _ _ 22 22 rfl (.slice a1 l1 c1) (.slice an ln cn) (by simp [Act.eval]) (by simp [Act.eval]) _ _ (HAPn.out _) ?_)
                  | (at_builtin; refine Lib.wpList_append_run _ rfl _ _ 22 22 rfl (.slice a2 l2 c2) (.slice pa pn pc) (by simp [Act.eval]) (by simp [Act.eval]) _ _ (HAP3.out _) ?_)
                  | (at_builtin; refine Lib.wpList_append_run _ rfl _ _ 22 22 rfl (.slice a3 l3 c3) (.slice (some ⟨W3.heap.size, 0, none⟩) 2 2) (by simp [Act.eval]) (by simp [Act.eval]) _ _ (HAP4.out _) ?_)
                  | (go_at_call 38; with_reducible refine ((HQ4.2 hm15).out).mono ?_; rintro e w5 ⟨am, lm, cm, rfl, ⟨r0, r1, r2⟩, a5, l5, c5, W5, HAPm, ⟨s0, s1, s2⟩, HQ⟩)
                  | (at_builtin; refine Lib.wpList_append_run _ rfl _ _ 22 22 rfl (.slice a4 l4 c4) (.slice am lm cm) (by simp [Act.eval]) (by simp [Act.eval]) _ _ (HAPm.out _) ?_))
                go_roundg (I - (J + 1))
                all_goals (first | omega | exact ⟨J + 1, by omega, by omega, by first | rfl | (congr 1), HQ.out⟩)
        · obtain rfl : J = I := by omega
          have HF' : Hid (P (.returned (.tuple #[u6, .int .i64 0])) wr) := HEnd.out Hfit.out _ _ (by
            have := hN2
            rw [← hln'.out, List.take_length] at this
            exact this) hN
          have hz : ¬ (J : Int) < (J : Int) := by omega
          obtain ⟨a6, c6, rfl, _, _⟩ := hN2.sl.form
          clear HI HL Hcan HEnd hN hN2 Hfit hlt
          generalize (mkI (l.take J)).length = l6 at *
          go_wp2
          exact HF'.out
end Go.Proofs.Ytpnacppmdlnjlaa

import Derived.Test.YtenkchhlaphocaaDoorNkJ
namespace Go.Proofs.YtenkchhlaphocaaDoor
open Go.RowKit
set_option linter.unusedVariables false
/-! ### The document's PutTime (written by tools/mknkl.py) -/
/-- Digits D taken from the end of A; M is left. -/
def dgI (A M : Nat) (D : Bs) : Prop := (D = [] ∧ M = A) ∨ (D ≠ [] ∧ dec A = if M = 0 then D else dec M ++ D)
theorem dgI_step {A M : Nat} {D : Bs} (h : dgI A M D) (hc : M ≠ 0 ∨ D = []) : dgI A (M / 10) (dec (M % 10) ++ D) := by
  have hne : dec (M % 10) ++ D ≠ [] := by
    intro e
    have := (List.append_eq_nil_iff.1 e).1
    exact dec_ne _ this
  refine .inr ⟨hne, ?_⟩
  by_cases h10 : M < 10
  · have h0 : M / 10 = 0 := by omega
    have h1 : M % 10 = M := by omega
    rw [h0, if_pos rfl, h1]
    rcases h with ⟨hD, hM⟩ | ⟨hD, hA⟩
    · rw [hD, hM, List.append_nil]
    · rw [hA, if_neg (by rcases hc with e | e; exact e; exact absurd e hD)]
  · have h0 : M / 10 ≠ 0 := by omega
    rw [if_neg h0]
    have hcut := dec_cut M h10
    rcases h with ⟨hD, hM⟩ | ⟨hD, hA⟩
    · rw [hD, ← hM, List.append_nil]; exact hcut
    · rw [hA, if_neg (by omega), hcut, List.append_assoc]
theorem dgI_end {A : Nat} {D : Bs} (h : dgI A 0 D) (hD : D ≠ []) : dec A = D := by
  rcases h with ⟨e, _⟩ | ⟨_, e⟩
  · exact absurd e hD
  · rw [e, if_pos rfl]
theorem dgI_len {A M : Nat} {D : Bs} (h : dgI A M D) : D.length ≤ (dec A).length := by
  rcases h with ⟨e, _⟩ | ⟨_, e⟩
  · rw [e]; simp
  · rw [e]
    split
    · exact Nat.le_refl _
    · rw [List.length_append]; omega
theorem trim9 (M : Nat) (h : M < 1000000000) (h0 : M ≠ 0) : trimZ ((dec (1000000000 + M)).drop 1) ≠ [] := by
  obtain ⟨d1, d2, _, _⟩ := dec9 M h
  intro e
  have := nano_trim _ d1
  rw [e, d2] at this
  exact h0 this.symm
set_option maxHeartbeats 40000000 in
set_option maxRecDepth 100000 in
theorem rputt_any (s n : Int) (h1 : -9223372036854775808 ≤ s) (h2 : s ≤ 9223372036854775807) (h3 : -2147483648 ≤ n) (h4 : n ≤ 2147483647) (w : World) : Calls Tryd.prog 23 #[.int .i64 s, .int .i32 n] w fun e w' => e = .returned (ptV s n) ∧ Nw w w' := by
  obtain ⟨P, hP⟩ : ∃ P : Ending → World → Prop, P = fun e w' => e = .returned (ptV s n) ∧ Nw w w' := ⟨_, rfl⟩
  rw [← hP]
  have HF : Hid (∀ x V, putV s n = x → Nw w V → P (.returned (.tuple #[.string (str x.1), .int .i64 (x.2 : Nat)])) V) := fun x V hx hV => by rw [hP]; unfold ptV; rw [hx]; exact ⟨rfl, hV⟩
  clear hP
  have hput : putV s n = putV s n := rfl
  conv at hput => rhs; unfold putV
  by_cases hn0 : n < 0
  · rw [if_pos (.inl hn0)] at hput
    have HF2 : Hid (P (.returned (.tuple #[.string ⟨#[]⟩, .int .i64 1])) w) := HF.out _ w hput (Fr.refl _ _)
    clear HF hput
    go_enter Tryd.func23, Tryd.ntmps23
    go_wp2_with fail
    first | exact HF2.out | (go_ret; exact HF2.out)
  · have hn0d : decide (n < 0) = false := decide_eq_false hn0
    by_cases hn9 : 999999999 < n
    · rw [if_pos (.inr (by omega))] at hput
      have HF2 : Hid (P (.returned (.tuple #[.string ⟨#[]⟩, .int .i64 1])) w) := HF.out _ w hput (Fr.refl _ _)
      clear HF hput
      go_enter Tryd.func23, Tryd.ntmps23
      go_wp2_with fail
      first | exact HF2.out | (go_ret; exact HF2.out)
    · have hn9d : decide (999999999 < n) = false := decide_eq_false hn9
      rw [if_neg (by omega)] at hput
      obtain ⟨N, rfl⟩ : ∃ N : Nat, n = (N : Int) := ⟨n.toNat, by omega⟩
      by_cases hs : 0 ≤ s
      · rw [if_pos hs] at hput
        obtain ⟨A, hA⟩ : ∃ A : Nat, s.natAbs = A := ⟨_, rfl⟩
        rw [show s.toNat = A by omega, Int.toNat_natCast] at hput
        have hsn : decide (s < 0) = false := decide_eq_false (by omega)
        obtain ⟨S1, hS1⟩ : ∃ S1 : Int, s = S1 := ⟨_, rfl⟩
        have hb1 : -9223372036854775808 ≤ S1 := by omega
        have hb2 : S1 ≤ 9223372036854775807 := by omega
        have hA1 : S1.natAbs = A := by omega
        have c0 : (⟨#[]⟩ : ByteArray) ++ str (dec A) = str ([] ++ dec A) := cat_e (dec A)
        by_cases hN : N = 0
        · subst hN
          have HF2 : Hid (∀ V, Nw w V → P (.returned (.tuple #[.string (str ([] ++ dec A)), .int .i64 0])) V) := fun V hV => HF.out ([] ++ dec A, 0) V (by rw [hput]; unfold dotV; rw [if_pos rfl, List.append_nil]; rfl) hV
          subst hS1
          clear HF hput
          have hAl : (dec A).length ≤ 22 := dec_short A (by omega)
          have HA1 := tHid hA1
          clear hA1
          go_enter Tryd.func23, Tryd.ntmps23
          go_upto_region 11 with fail
          go_loopg [7, 8] (A + 1) (fun kx d m wr => ∃ (D : Bs) (X : Int), Hid (dgI A X.natAbs D) ∧ (if D = [] then 1 else 0) + X.natAbs ≤ kx ∧ d = .string (str D) ∧ m = .int .i64 X ∧ -9223372036854775808 ≤ X ∧ X ≤ 9223372036854775807 ∧ D.length ≤ 22 ∧ Hid (Nw w wr))
          case atStart => exact ⟨[], _, .inl ⟨rfl, HA1.out⟩, by rw [if_pos rfl, HA1.out]; omega, rfl, rfl, hb1, hb2, by simp, Fr.refl _ _⟩
          case round =>
            obtain ⟨D, X, HI, hkx, rfl, rfl, hX1, hX2, hDl, HN⟩ := hrel
            have b0 := str_emp D
            have b1 := str_emp2 D
            have hDs := str_size D
            obtain ⟨R, hR⟩ : ∃ R, X.natAbs % 10 = R := ⟨_, rfl⟩
            obtain ⟨Q, hQ⟩ : ∃ Q : Int, X.tdiv 10 = Q := ⟨_, rfl⟩
            have hQa : Q.natAbs = X.natAbs / 10 := by rw [← hQ, Int.natAbs_tdiv]; rfl
            have hRa : (X.tmod 10).natAbs = R := by rw [← hR, Int.natAbs_tmod]; rfl
            have hR9 : R ≤ 9 := by omega
            have hQ1 : -9223372036854775808 ≤ Q := by omega
            have hQ2 : Q ≤ 9223372036854775807 := by omega
            have HD := tHid (fun V => rdec_any R (by omega) V)
            have hcat := str_app (dec R) D
            have hrs : (str (dec R)).size ≤ 22 := by rw [str_size]; exact dec_short _ (by omega)
            by_cases hX : X = 0
            · by_cases hD0 : D = []
              · have hst := dgI_step HI.out (.inr hD0)
                rw [hR, ← hQa] at hst
                rw [decide_eq_true hD0] at b0 b1
                subst hX
                rw [if_pos hD0] at hkx
                have hR0 : R = 0 := by rw [← hR]; rfl
                have hQ0 : Q = 0 := by rw [← hQ]; rfl
                subst hR0 hQ0
                have HD0 : Hid (∀ V, Calls Tryd.prog 32 #[.int .i64 0] V fun e w' => e = .returned (.string (str (dec 0))) ∧ Nw V w') := HD
                have hlen := dgI_len hst
                have HST := tHid hst
                have hdne : dec 0 ++ D ≠ [] := fun e => dec_ne _ (List.append_eq_nil_iff.1 e).1
                clear HI hD0 hst hR hQ hQa hRa HF2 HD
                obtain ⟨sE, hsE⟩ : ∃ x, str (dec 0 ++ D) = x := ⟨_, rfl⟩
                rw [hsE] at hcat
                have HSE := tHid hsE
                clear hsE
                generalize str (dec 0) = sr at *
                generalize str D = sD at *
                go_wp2_with (first | (go_at_call 32; with_reducible refine (HD0.out _).mono ?_; rintro e w1 ⟨rfl, K1⟩; have K1 := tHid K1))
                go_roundg 0
                case measure => omega
                case rel => exact ⟨dec 0 ++ D, 0, HST, by rw [if_neg hdne]; simp, by first | rfl | (rw [HSE.out])  | (rw [HSE.out, hcat]), rfl, by omega, by omega, by omega, HN.out.trans K1.out⟩
              · rw [decide_eq_false hD0] at b0 b1
                subst hX
                have hend : dec A = D := dgI_end HI.out hD0
                rw [← hend] at b0 b1 hDs
                have hDs2 : (str D).size ≤ 22 := by rw [str_size]; exact hDl
                rw [← hend] at hDs2 ⊢
                clear HI hD0 hR hQ hQa hRa HD hkx hcat hrs
                generalize str (([] : Bs) ++ dec A) = sA at *
                generalize str (dec A) = sD at *
                go_wp2_with fail
                first | exact HF2.out _ HN.out | (go_ret; exact HF2.out _ HN.out)
            · have hst := dgI_step HI.out (.inl (by omega : X.natAbs ≠ 0))
              rw [hR, ← hQa] at hst
              have hlen := dgI_len hst
              have HST := tHid hst
              have hdne : dec R ++ D ≠ [] := fun e => dec_ne _ (List.append_eq_nil_iff.1 e).1
              have hQlt : Q.natAbs < X.natAbs := by omega
              have hkx2 : Q.natAbs < gk := by split at hkx <;> omega
              by_cases hd : X.tmod 10 < 0
              · have hd2 : -(X.tmod 10) = (R : Int) := by omega
                obtain ⟨Y, hY⟩ : ∃ Y, X.tmod 10 = Y := ⟨_, rfl⟩
                rw [hY] at hd hd2
                have hY9 : -9 ≤ Y := by omega
                clear HI hst hR hQa hRa HF2 hkx
                obtain ⟨sE, hsE⟩ : ∃ x, str (dec R ++ D) = x := ⟨_, rfl⟩
                rw [hsE] at hcat
                have HSE := tHid hsE
                clear hsE
                generalize str (dec R) = sr at *
                generalize str D = sD at *
                go_wp2_with (first | (go_at_call 32; with_reducible refine (HD.out _).mono ?_; rintro e w1 ⟨rfl, K1⟩; have K1 := tHid K1))
                go_roundg Q.natAbs
                case measure => omega
                case rel => exact ⟨dec R ++ D, Q, HST, by rw [if_neg hdne, Nat.zero_add]; exact Nat.le_refl _, by first | rfl | (rw [HSE.out])  | (rw [HSE.out, hcat]), rfl, hQ1, hQ2, by omega, HN.out.trans K1.out⟩
              · have hd2 : X.tmod 10 = (R : Int) := by omega
                have hdd : ¬ ((R : Int) < 0) := by omega
                have hdd2 : decide ((R : Int) < 0) = false := decide_eq_false hdd
                clear HI hst hR hQa hRa HF2 hkx hd
                obtain ⟨sE, hsE⟩ : ∃ x, str (dec R ++ D) = x := ⟨_, rfl⟩
                rw [hsE] at hcat
                have HSE := tHid hsE
                clear hsE
                generalize str (dec R) = sr at *
                generalize str D = sD at *
                go_wp2_with (first | (go_at_call 32; with_reducible refine (HD.out _).mono ?_; rintro e w1 ⟨rfl, K1⟩; have K1 := tHid K1))
                go_roundg Q.natAbs
                case measure => omega
                case rel => exact ⟨dec R ++ D, Q, HST, by rw [if_neg hdne, Nat.zero_add]; exact Nat.le_refl _, by first | rfl | (rw [HSE.out])  | (rw [HSE.out, hcat]), rfl, hQ1, hQ2, by omega, HN.out.trans K1.out⟩
        · obtain ⟨M, rfl⟩ : ∃ M, M = N := ⟨_, rfl⟩
          have hM0 : M ≠ 0 := by omega
          have hM9 : M < 1000000000 := by omega
          have HF2 : Hid (∀ V, Nw w V → P (.returned (.tuple #[.string (str (([] ++ dec A) ++ dotV M)), .int .i64 0])) V) := fun V hV => HF.out _ V hput hV
          subst hS1
          clear HF hput
          have hAl : (dec A).length ≤ 22 := dec_short A (by omega)
          have HA1 := tHid hA1
          clear hA1
          go_enter Tryd.func23, Tryd.ntmps23
          go_upto_region 11 with fail
          go_loopg [7, 8] (A + 1) (fun kx d m wr => ∃ (D : Bs) (X : Int), Hid (dgI A X.natAbs D) ∧ (if D = [] then 1 else 0) + X.natAbs ≤ kx ∧ d = .string (str D) ∧ m = .int .i64 X ∧ -9223372036854775808 ≤ X ∧ X ≤ 9223372036854775807 ∧ D.length ≤ 22 ∧ Hid (Nw w wr))
          case atStart => exact ⟨[], _, .inl ⟨rfl, HA1.out⟩, by rw [if_pos rfl, HA1.out]; omega, rfl, rfl, hb1, hb2, by simp, Fr.refl _ _⟩
          case round =>
            obtain ⟨D, X, HI, hkx, rfl, rfl, hX1, hX2, hDl, HN⟩ := hrel
            have b0 := str_emp D
            have b1 := str_emp2 D
            have hDs := str_size D
            obtain ⟨R, hR⟩ : ∃ R, X.natAbs % 10 = R := ⟨_, rfl⟩
            obtain ⟨Q, hQ⟩ : ∃ Q : Int, X.tdiv 10 = Q := ⟨_, rfl⟩
            have hQa : Q.natAbs = X.natAbs / 10 := by rw [← hQ, Int.natAbs_tdiv]; rfl
            have hRa : (X.tmod 10).natAbs = R := by rw [← hR, Int.natAbs_tmod]; rfl
            have hR9 : R ≤ 9 := by omega
            have hQ1 : -9223372036854775808 ≤ Q := by omega
            have hQ2 : Q ≤ 9223372036854775807 := by omega
            have HD := tHid (fun V => rdec_any R (by omega) V)
            have hcat := str_app (dec R) D
            have hrs : (str (dec R)).size ≤ 22 := by rw [str_size]; exact dec_short _ (by omega)
            by_cases hX : X = 0
            · by_cases hD0 : D = []
              · have hst := dgI_step HI.out (.inr hD0)
                rw [hR, ← hQa] at hst
                rw [decide_eq_true hD0] at b0 b1
                subst hX
                rw [if_pos hD0] at hkx
                have hR0 : R = 0 := by rw [← hR]; rfl
                have hQ0 : Q = 0 := by rw [← hQ]; rfl
                subst hR0 hQ0
                have HD0 : Hid (∀ V, Calls Tryd.prog 32 #[.int .i64 0] V fun e w' => e = .returned (.string (str (dec 0))) ∧ Nw V w') := HD
                have hlen := dgI_len hst
                have HST := tHid hst
                have hdne : dec 0 ++ D ≠ [] := fun e => dec_ne _ (List.append_eq_nil_iff.1 e).1
                clear HI hD0 hst hR hQ hQa hRa HF2 HD
                obtain ⟨sE, hsE⟩ : ∃ x, str (dec 0 ++ D) = x := ⟨_, rfl⟩
                rw [hsE] at hcat
                have HSE := tHid hsE
                clear hsE
                generalize str (dec 0) = sr at *
                generalize str D = sD at *
                go_wp2_with (first | (go_at_call 32; with_reducible refine (HD0.out _).mono ?_; rintro e w1 ⟨rfl, K1⟩; have K1 := tHid K1))
                go_roundg 0
                case measure => omega
                case rel => exact ⟨dec 0 ++ D, 0, HST, by rw [if_neg hdne]; simp, by first | rfl | (rw [HSE.out])  | (rw [HSE.out, hcat]), rfl, by omega, by omega, by omega, HN.out.trans K1.out⟩
              · rw [decide_eq_false hD0] at b0 b1
                subst hX
                have hend : dec A = D := dgI_end HI.out hD0
                rw [← hend] at b0 b1 hDs
                have hDs2 : (str D).size ≤ 22 := by rw [str_size]; exact hDl
                rw [← hend] at hDs2 ⊢
                clear HI hD0 hR hQ hQa hRa HD hkx hcat hrs
                obtain ⟨d1, d2, d3, d4⟩ := dec9 M hM9
                have htr := trim9 M hM9 hM0
                have hdot : dotV M = 46#8 :: trimZ ((dec (1000000000 + M)).drop 1) := by unfold dotV; rw [if_neg hM0]
                rw [hdot] at HF2
                obtain ⟨G, hG⟩ : ∃ G, 1000000000 + M = G := ⟨_, rfl⟩
                have hGi : (1000000000 : Int) + (M : Int) = (G : Int) := by omega
                rw [hG] at d1 d3 htr HF2
                have hG31 : G < 2000000000 := by omega
                have HDG := tHid (fun V => rdec_any G (by omega) V)
                have hx : (str (dec G)).extract 1 (str (dec G)).size = str ((dec G).drop 1) := by
                  have := str_tail 49#8 ((dec G).drop 1)
                  rw [← d3] at this
                  exact this
                have hgs : (str (dec G)).size = 10 := by rw [str_size, d3, List.length_cons, d1]
                have hx2 : (str (dec G)).extract 1 10 = str ((dec G).drop 1) := by rw [← hgs]; exact hx
                have hMz : ¬ ((M : Int) = 0) := by omega
                have c1 := str_app (([] : Bs) ++ dec A) [46#8]
                rw [show str [46#8] = ⟨#[46]⟩ from rfl] at c1
                have z1 : (str (([] : Bs) ++ dec A)).size ≤ 23 := by rw [str_size, List.length_append]; simp; omega
                have z2 : (str ((([] : Bs) ++ dec A) ++ [46#8])).size ≤ 24 := by rw [str_size, List.length_append, List.length_append]; simp; omega
                have HFF : Hid (∀ (T : Bs) V, trimZ ((dec G).drop 1) = T → Nw w V → P (.returned (.tuple #[.string (str ((([] : Bs) ++ dec A) ++ [46#8]) ++ str T), .int .i64 0])) V) := fun T V hT hV => by
                  rw [str_app, ← hT, List.append_assoc]
                  exact HF2.out V hV
                clear HF2 hdot hG d2 d3 d4 hx
                generalize str ((([] : Bs) ++ dec A) ++ [46#8]) = sX at *
                generalize str (([] : Bs) ++ dec A) = sA at *
                generalize str (dec A) = sD at *
                obtain ⟨F9, hF9⟩ : ∃ F, (dec G).drop 1 = F := ⟨_, rfl⟩
                rw [hF9] at d1 htr HFF hx2
                clear hF9
                generalize str (dec G) = sG at *
                go_upto_region 21 with (first | (go_at_call 32; with_reducible refine (HDG.out _).mono ?_; rintro e w1 ⟨rfl, K1⟩; have K1 := tHid K1))
                try rw [hx2]
                have HN1 := tHid (HN.out.trans K1.out)
                go_loopg [10] F9.length (fun kx v wr => ∃ T : Bs, T.length ≤ kx ∧ T.length ≤ 9 ∧ v = .string (str T) ∧ Hid (trimZ F9 = trimZ T ∧ Nw w wr))
                case atStart => exact ⟨F9, Nat.le_refl _, by omega, by first | rfl | (rw [hx2]), rfl, HN1.out⟩
                case round =>
                  obtain ⟨T, hkt, hT9, rfl, HT⟩ := hrel
                  obtain ⟨ht, hNr⟩ := HT.out
                  have hT0 : T ≠ [] := fun e => by rw [e] at ht; exact htr ht
                  obtain ⟨m, c, rfl⟩ : ∃ m c, T = m ++ [c] := ⟨T.dropLast, T.getLast hT0, (List.dropLast_concat_getLast hT0).symm⟩
                  rw [trimZ_snoc] at ht
                  have hsz := str_size (m ++ [c])
                  rw [List.length_append, List.length_singleton] at hsz hkt hT9
                  have hx := str_last m c
                  have hq : ((c.toNat : Int) == 48) = decide (c = 48#8) := nth_eq c 48 (by decide)
                  obtain ⟨K, hK⟩ : ∃ K, m.length = K := ⟨_, rfl⟩
                  have hg : ∀ h : K < (str (m ++ [c])).size, ((str (m ++ [c]))[K]'h).toNat = c.toNat := by
                    intro h
                    subst hK
                    rw [str_get (m ++ [c]) m.length h, List.getElem_append_right (Nat.le_refl _)]
                    simp
                  have y1 : (0 : Int) < ((str (m ++ [c])).size : Int) := by omega
                  have y2 : ((str (m ++ [c])).size : Int) - 1 = (K : Int) := by omega
                  have y3 : (K : Int) < ((str (m ++ [c])).size : Int) := by omega
                  have y4 : K < (str (m ++ [c])).size := by omega
                  have y5 : (K : Int) ≤ ((str (m ++ [c])).size : Int) := by omega
                  have y6 : (str (m ++ [c])).size ≤ 9 := by omega
                  by_cases hc : c = 48#8
                  · rw [if_pos hc] at ht
                    rw [decide_eq_true hc] at hq
                    have HD2 : Hid (trimZ F9 = trimZ m ∧ Nw w wr) := ⟨ht, hNr⟩
                    clear HFF HT ht hc hT0 hNr HN1 HN
                    rw [hK] at hx
                    have hKl : K ≤ 9 := by omega
                    have hkx2 : K < gk := by omega
                    have HK := tHid hK
                    clear hK hsz hkt htr d1
                    generalize str (m ++ [c]) = st at *
                    generalize c.toNat = y at *
                    go_wp2_with fail
                    go_roundg K
                    case measure => omega
                    case rel => exact ⟨m, by rw [HK.out]; exact Nat.le_refl _, by rw [HK.out]; exact hKl, by first | rfl | (rw [← hx]), HD2⟩
                  · rw [if_neg hc] at ht
                    rw [decide_eq_false hc] at hq
                    have HF3 := tHid (HFF.out _ wr ht hNr)
                    clear HFF HT ht hc hT0 hNr HN1 HN
                    rw [hK] at hx
                    clear hK hsz hkt htr d1
                    generalize str (m ++ [c]) = st at *
                    generalize c.toNat = y at *
                    go_wp2_with fail
                    first | exact HF3.out | (go_ret; exact HF3.out)
            · have hst := dgI_step HI.out (.inl (by omega : X.natAbs ≠ 0))
              rw [hR, ← hQa] at hst
              have hlen := dgI_len hst
              have HST := tHid hst
              have hdne : dec R ++ D ≠ [] := fun e => dec_ne _ (List.append_eq_nil_iff.1 e).1
              have hQlt : Q.natAbs < X.natAbs := by omega
              have hkx2 : Q.natAbs < gk := by split at hkx <;> omega
              by_cases hd : X.tmod 10 < 0
              · have hd2 : -(X.tmod 10) = (R : Int) := by omega
                obtain ⟨Y, hY⟩ : ∃ Y, X.tmod 10 = Y := ⟨_, rfl⟩
                rw [hY] at hd hd2
                have hY9 : -9 ≤ Y := by omega
                clear HI hst hR hQa hRa HF2 hkx
                obtain ⟨sE, hsE⟩ : ∃ x, str (dec R ++ D) = x := ⟨_, rfl⟩
                rw [hsE] at hcat
                have HSE := tHid hsE
                clear hsE
                generalize str (dec R) = sr at *
                generalize str D = sD at *
                go_wp2_with (first | (go_at_call 32; with_reducible refine (HD.out _).mono ?_; rintro e w1 ⟨rfl, K1⟩; have K1 := tHid K1))
                go_roundg Q.natAbs
                case measure => omega
                case rel => exact ⟨dec R ++ D, Q, HST, by rw [if_neg hdne, Nat.zero_add]; exact Nat.le_refl _, by first | rfl | (rw [HSE.out])  | (rw [HSE.out, hcat]), rfl, hQ1, hQ2, by omega, HN.out.trans K1.out⟩
              · have hd2 : X.tmod 10 = (R : Int) := by omega
                have hdd : ¬ ((R : Int) < 0) := by omega
                have hdd2 : decide ((R : Int) < 0) = false := decide_eq_false hdd
                clear HI hst hR hQa hRa HF2 hkx hd
                obtain ⟨sE, hsE⟩ : ∃ x, str (dec R ++ D) = x := ⟨_, rfl⟩
                rw [hsE] at hcat
                have HSE := tHid hsE
                clear hsE
                generalize str (dec R) = sr at *
                generalize str D = sD at *
                go_wp2_with (first | (go_at_call 32; with_reducible refine (HD.out _).mono ?_; rintro e w1 ⟨rfl, K1⟩; have K1 := tHid K1))
                go_roundg Q.natAbs
                case measure => omega
                case rel => exact ⟨dec R ++ D, Q, HST, by rw [if_neg hdne, Nat.zero_add]; exact Nat.le_refl _, by first | rfl | (rw [HSE.out])  | (rw [HSE.out, hcat]), rfl, hQ1, hQ2, by omega, HN.out.trans K1.out⟩
      · rw [if_neg hs] at hput
        have hsn : s < 0 := by omega
        by_cases hN : 0 < (N : Int)
        · rw [if_pos hN, Int.toNat_natCast] at hput
          obtain ⟨S1, hS1⟩ : ∃ S1 : Int, s + 1 = S1 := ⟨_, rfl⟩
          obtain ⟨A, hA⟩ : ∃ A : Nat, s.natAbs - 1 = A := ⟨_, rfl⟩
          obtain ⟨M, hM⟩ : ∃ M, 1000000000 - N = M := ⟨_, rfl⟩
          have hMi : (1000000000 : Int) - (N : Int) = (M : Int) := by omega
          have hM0 : M ≠ 0 := by omega
          have hM9 : M < 1000000000 := by omega
          have hA1 : S1.natAbs = A := by omega
          have hb1 : -9223372036854775808 ≤ S1 := by omega
          have hb2 : S1 ≤ 9223372036854775807 := by omega
          rw [hM, hA] at hput
          have c0 : (⟨#[45]⟩ : ByteArray) ++ str (dec A) = str ([45#8] ++ dec A) := cat_m (dec A)
          have HF2 : Hid (∀ V, Nw w V → P (.returned (.tuple #[.string (str (([45#8] ++ dec A) ++ dotV M)), .int .i64 0])) V) := fun V hV => HF.out _ V hput hV
          clear HF hput hA hM
          have hAl : (dec A).length ≤ 22 := dec_short A (by omega)
          have HA1 := tHid hA1
          clear hA1
          go_enter Tryd.func23, Tryd.ntmps23
          go_upto_region 11 with fail
          go_loopg [7, 8] (A + 1) (fun kx d m wr => ∃ (D : Bs) (X : Int), Hid (dgI A X.natAbs D) ∧ (if D = [] then 1 else 0) + X.natAbs ≤ kx ∧ d = .string (str D) ∧ m = .int .i64 X ∧ -9223372036854775808 ≤ X ∧ X ≤ 9223372036854775807 ∧ D.length ≤ 22 ∧ Hid (Nw w wr))
          case atStart => exact ⟨[], _, .inl ⟨rfl, HA1.out⟩, by rw [if_pos rfl, HA1.out]; omega, rfl, rfl, hb1, hb2, by simp, Fr.refl _ _⟩
          case round =>
            obtain ⟨D, X, HI, hkx, rfl, rfl, hX1, hX2, hDl, HN⟩ := hrel
            have b0 := str_emp D
            have b1 := str_emp2 D
            have hDs := str_size D
            obtain ⟨R, hR⟩ : ∃ R, X.natAbs % 10 = R := ⟨_, rfl⟩
            obtain ⟨Q, hQ⟩ : ∃ Q : Int, X.tdiv 10 = Q := ⟨_, rfl⟩
            have hQa : Q.natAbs = X.natAbs / 10 := by rw [← hQ, Int.natAbs_tdiv]; rfl
            have hRa : (X.tmod 10).natAbs = R := by rw [← hR, Int.natAbs_tmod]; rfl
            have hR9 : R ≤ 9 := by omega
            have hQ1 : -9223372036854775808 ≤ Q := by omega
            have hQ2 : Q ≤ 9223372036854775807 := by omega
            have HD := tHid (fun V => rdec_any R (by omega) V)
            have hcat := str_app (dec R) D
            have hrs : (str (dec R)).size ≤ 22 := by rw [str_size]; exact dec_short _ (by omega)
            by_cases hX : X = 0
            · by_cases hD0 : D = []
              · have hst := dgI_step HI.out (.inr hD0)
                rw [hR, ← hQa] at hst
                rw [decide_eq_true hD0] at b0 b1
                subst hX
                rw [if_pos hD0] at hkx
                have hR0 : R = 0 := by rw [← hR]; rfl
                have hQ0 : Q = 0 := by rw [← hQ]; rfl
                subst hR0 hQ0
                have HD0 : Hid (∀ V, Calls Tryd.prog 32 #[.int .i64 0] V fun e w' => e = .returned (.string (str (dec 0))) ∧ Nw V w') := HD
                have hlen := dgI_len hst
                have HST := tHid hst
                have hdne : dec 0 ++ D ≠ [] := fun e => dec_ne _ (List.append_eq_nil_iff.1 e).1
                clear HI hD0 hst hR hQ hQa hRa HF2 HD
                obtain ⟨sE, hsE⟩ : ∃ x, str (dec 0 ++ D) = x := ⟨_, rfl⟩
                rw [hsE] at hcat
                have HSE := tHid hsE
                clear hsE
                generalize str (dec 0) = sr at *
                generalize str D = sD at *
                go_wp2_with (first | (go_at_call 32; with_reducible refine (HD0.out _).mono ?_; rintro e w1 ⟨rfl, K1⟩; have K1 := tHid K1))
                go_roundg 0
                case measure => omega
                case rel => exact ⟨dec 0 ++ D, 0, HST, by rw [if_neg hdne]; simp, by first | rfl | (rw [HSE.out])  | (rw [HSE.out, hcat]), rfl, by omega, by omega, by omega, HN.out.trans K1.out⟩
              · rw [decide_eq_false hD0] at b0 b1
                subst hX
                have hend : dec A = D := dgI_end HI.out hD0
                rw [← hend] at b0 b1 hDs
                have hDs2 : (str D).size ≤ 22 := by rw [str_size]; exact hDl
                rw [← hend] at hDs2 ⊢
                clear HI hD0 hR hQ hQa hRa HD hkx hcat hrs
                obtain ⟨d1, d2, d3, d4⟩ := dec9 M hM9
                have htr := trim9 M hM9 hM0
                have hdot : dotV M = 46#8 :: trimZ ((dec (1000000000 + M)).drop 1) := by unfold dotV; rw [if_neg hM0]
                rw [hdot] at HF2
                obtain ⟨G, hG⟩ : ∃ G, 1000000000 + M = G := ⟨_, rfl⟩
                have hGi : (1000000000 : Int) + (M : Int) = (G : Int) := by omega
                rw [hG] at d1 d3 htr HF2
                have hG31 : G < 2000000000 := by omega
                have HDG := tHid (fun V => rdec_any G (by omega) V)
                have hx : (str (dec G)).extract 1 (str (dec G)).size = str ((dec G).drop 1) := by
                  have := str_tail 49#8 ((dec G).drop 1)
                  rw [← d3] at this
                  exact this
                have hgs : (str (dec G)).size = 10 := by rw [str_size, d3, List.length_cons, d1]
                have hx2 : (str (dec G)).extract 1 10 = str ((dec G).drop 1) := by rw [← hgs]; exact hx
                have hMz : ¬ ((M : Int) = 0) := by omega
                have c1 := str_app ([45#8] ++ dec A) [46#8]
                rw [show str [46#8] = ⟨#[46]⟩ from rfl] at c1
                have z1 : (str ([45#8] ++ dec A)).size ≤ 23 := by rw [str_size, List.length_append]; simp; omega
                have z2 : (str (([45#8] ++ dec A) ++ [46#8])).size ≤ 24 := by rw [str_size, List.length_append, List.length_append]; simp; omega
                have HFF : Hid (∀ (T : Bs) V, trimZ ((dec G).drop 1) = T → Nw w V → P (.returned (.tuple #[.string (str (([45#8] ++ dec A) ++ [46#8]) ++ str T), .int .i64 0])) V) := fun T V hT hV => by
                  rw [str_app, ← hT, List.append_assoc]
                  exact HF2.out V hV
                clear HF2 hdot hG d2 d3 d4 hx
                generalize str (([45#8] ++ dec A) ++ [46#8]) = sX at *
                generalize str ([45#8] ++ dec A) = sA at *
                generalize str (dec A) = sD at *
                obtain ⟨F9, hF9⟩ : ∃ F, (dec G).drop 1 = F := ⟨_, rfl⟩
                rw [hF9] at d1 htr HFF hx2
                clear hF9
                generalize str (dec G) = sG at *
                go_upto_region 21 with (first | (go_at_call 32; with_reducible refine (HDG.out _).mono ?_; rintro e w1 ⟨rfl, K1⟩; have K1 := tHid K1))
                try rw [hx2]
                have HN1 := tHid (HN.out.trans K1.out)
                go_loopg [10] F9.length (fun kx v wr => ∃ T : Bs, T.length ≤ kx ∧ T.length ≤ 9 ∧ v = .string (str T) ∧ Hid (trimZ F9 = trimZ T ∧ Nw w wr))
                case atStart => exact ⟨F9, Nat.le_refl _, by omega, by first | rfl | (rw [hx2]), rfl, HN1.out⟩
                case round =>
                  obtain ⟨T, hkt, hT9, rfl, HT⟩ := hrel
                  obtain ⟨ht, hNr⟩ := HT.out
                  have hT0 : T ≠ [] := fun e => by rw [e] at ht; exact htr ht
                  obtain ⟨m, c, rfl⟩ : ∃ m c, T = m ++ [c] := ⟨T.dropLast, T.getLast hT0, (List.dropLast_concat_getLast hT0).symm⟩
                  rw [trimZ_snoc] at ht
                  have hsz := str_size (m ++ [c])
                  rw [List.length_append, List.length_singleton] at hsz hkt hT9
                  have hx := str_last m c
                  have hq : ((c.toNat : Int) == 48) = decide (c = 48#8) := nth_eq c 48 (by decide)
                  obtain ⟨K, hK⟩ : ∃ K, m.length = K := ⟨_, rfl⟩
                  have hg : ∀ h : K < (str (m ++ [c])).size, ((str (m ++ [c]))[K]'h).toNat = c.toNat := by
                    intro h
                    subst hK
                    rw [str_get (m ++ [c]) m.length h, List.getElem_append_right (Nat.le_refl _)]
                    simp
                  have y1 : (0 : Int) < ((str (m ++ [c])).size : Int) := by omega
                  have y2 : ((str (m ++ [c])).size : Int) - 1 = (K : Int) := by omega
                  have y3 : (K : Int) < ((str (m ++ [c])).size : Int) := by omega
                  have y4 : K < (str (m ++ [c])).size := by omega
                  have y5 : (K : Int) ≤ ((str (m ++ [c])).size : Int) := by omega
                  have y6 : (str (m ++ [c])).size ≤ 9 := by omega
                  by_cases hc : c = 48#8
                  · rw [if_pos hc] at ht
                    rw [decide_eq_true hc] at hq
                    have HD2 : Hid (trimZ F9 = trimZ m ∧ Nw w wr) := ⟨ht, hNr⟩
                    clear HFF HT ht hc hT0 hNr HN1 HN
                    rw [hK] at hx
                    have hKl : K ≤ 9 := by omega
                    have hkx2 : K < gk := by omega
                    have HK := tHid hK
                    clear hK hsz hkt htr d1
                    generalize str (m ++ [c]) = st at *
                    generalize c.toNat = y at *
                    go_wp2_with fail
                    go_roundg K
                    case measure => omega
                    case rel => exact ⟨m, by rw [HK.out]; exact Nat.le_refl _, by rw [HK.out]; exact hKl, by first | rfl | (rw [← hx]), HD2⟩
                  · rw [if_neg hc] at ht
                    rw [decide_eq_false hc] at hq
                    have HF3 := tHid (HFF.out _ wr ht hNr)
                    clear HFF HT ht hc hT0 hNr HN1 HN
                    rw [hK] at hx
                    clear hK hsz hkt htr d1
                    generalize str (m ++ [c]) = st at *
                    generalize c.toNat = y at *
                    go_wp2_with fail
                    first | exact HF3.out | (go_ret; exact HF3.out)
            · have hst := dgI_step HI.out (.inl (by omega : X.natAbs ≠ 0))
              rw [hR, ← hQa] at hst
              have hlen := dgI_len hst
              have HST := tHid hst
              have hdne : dec R ++ D ≠ [] := fun e => dec_ne _ (List.append_eq_nil_iff.1 e).1
              have hQlt : Q.natAbs < X.natAbs := by omega
              have hkx2 : Q.natAbs < gk := by split at hkx <;> omega
              by_cases hd : X.tmod 10 < 0
              · have hd2 : -(X.tmod 10) = (R : Int) := by omega
                obtain ⟨Y, hY⟩ : ∃ Y, X.tmod 10 = Y := ⟨_, rfl⟩
                rw [hY] at hd hd2
                have hY9 : -9 ≤ Y := by omega
                clear HI hst hR hQa hRa HF2 hkx
                obtain ⟨sE, hsE⟩ : ∃ x, str (dec R ++ D) = x := ⟨_, rfl⟩
                rw [hsE] at hcat
                have HSE := tHid hsE
                clear hsE
                generalize str (dec R) = sr at *
                generalize str D = sD at *
                go_wp2_with (first | (go_at_call 32; with_reducible refine (HD.out _).mono ?_; rintro e w1 ⟨rfl, K1⟩; have K1 := tHid K1))
                go_roundg Q.natAbs
                case measure => omega
                case rel => exact ⟨dec R ++ D, Q, HST, by rw [if_neg hdne, Nat.zero_add]; exact Nat.le_refl _, by first | rfl | (rw [HSE.out])  | (rw [HSE.out, hcat]), rfl, hQ1, hQ2, by omega, HN.out.trans K1.out⟩
              · have hd2 : X.tmod 10 = (R : Int) := by omega
                have hdd : ¬ ((R : Int) < 0) := by omega
                have hdd2 : decide ((R : Int) < 0) = false := decide_eq_false hdd
                clear HI hst hR hQa hRa HF2 hkx hd
                obtain ⟨sE, hsE⟩ : ∃ x, str (dec R ++ D) = x := ⟨_, rfl⟩
                rw [hsE] at hcat
                have HSE := tHid hsE
                clear hsE
                generalize str (dec R) = sr at *
                generalize str D = sD at *
                go_wp2_with (first | (go_at_call 32; with_reducible refine (HD.out _).mono ?_; rintro e w1 ⟨rfl, K1⟩; have K1 := tHid K1))
                go_roundg Q.natAbs
                case measure => omega
                case rel => exact ⟨dec R ++ D, Q, HST, by rw [if_neg hdne, Nat.zero_add]; exact Nat.le_refl _, by first | rfl | (rw [HSE.out])  | (rw [HSE.out, hcat]), rfl, hQ1, hQ2, by omega, HN.out.trans K1.out⟩
        · rw [if_neg hN] at hput
          obtain rfl : N = 0 := by omega
          obtain ⟨A, hA⟩ : ∃ A : Nat, s.natAbs = A := ⟨_, rfl⟩
          rw [hA] at hput
          obtain ⟨S1, hS1⟩ : ∃ S1 : Int, s = S1 := ⟨_, rfl⟩
          have hb1 : -9223372036854775808 ≤ S1 := by omega
          have hb2 : S1 ≤ 9223372036854775807 := by omega
          have hA1 : S1.natAbs = A := by omega
          have c0 : (⟨#[45]⟩ : ByteArray) ++ str (dec A) = str ([45#8] ++ dec A) := cat_m (dec A)
          have HF2 : Hid (∀ V, Nw w V → P (.returned (.tuple #[.string (str ([45#8] ++ dec A)), .int .i64 0])) V) := fun V hV => HF.out _ V hput hV
          subst hS1
          clear HF hput hA hn0 hn0d hn9 hn9d h3 h4 hN
          have hAl : (dec A).length ≤ 22 := dec_short A (by omega)
          have HA1 := tHid hA1
          clear hA1
          go_enter Tryd.func23, Tryd.ntmps23
          go_upto_region 11 with fail
          go_loopg [7, 8] (A + 1) (fun kx d m wr => ∃ (D : Bs) (X : Int), Hid (dgI A X.natAbs D) ∧ (if D = [] then 1 else 0) + X.natAbs ≤ kx ∧ d = .string (str D) ∧ m = .int .i64 X ∧ -9223372036854775808 ≤ X ∧ X ≤ 9223372036854775807 ∧ D.length ≤ 22 ∧ Hid (Nw w wr))
          case atStart => exact ⟨[], _, .inl ⟨rfl, HA1.out⟩, by rw [if_pos rfl, HA1.out]; omega, rfl, rfl, hb1, hb2, by simp, Fr.refl _ _⟩
          case round =>
            obtain ⟨D, X, HI, hkx, rfl, rfl, hX1, hX2, hDl, HN⟩ := hrel
            have b0 := str_emp D
            have b1 := str_emp2 D
            have hDs := str_size D
            obtain ⟨R, hR⟩ : ∃ R, X.natAbs % 10 = R := ⟨_, rfl⟩
            obtain ⟨Q, hQ⟩ : ∃ Q : Int, X.tdiv 10 = Q := ⟨_, rfl⟩
            have hQa : Q.natAbs = X.natAbs / 10 := by rw [← hQ, Int.natAbs_tdiv]; rfl
            have hRa : (X.tmod 10).natAbs = R := by rw [← hR, Int.natAbs_tmod]; rfl
            have hR9 : R ≤ 9 := by omega
            have hQ1 : -9223372036854775808 ≤ Q := by omega
            have hQ2 : Q ≤ 9223372036854775807 := by omega
            have HD := tHid (fun V => rdec_any R (by omega) V)
            have hcat := str_app (dec R) D
            have hrs : (str (dec R)).size ≤ 22 := by rw [str_size]; exact dec_short _ (by omega)
            by_cases hX : X = 0
            · by_cases hD0 : D = []
              · have hst := dgI_step HI.out (.inr hD0)
                rw [hR, ← hQa] at hst
                rw [decide_eq_true hD0] at b0 b1
                subst hX
                rw [if_pos hD0] at hkx
                have hR0 : R = 0 := by rw [← hR]; rfl
                have hQ0 : Q = 0 := by rw [← hQ]; rfl
                subst hR0 hQ0
                have HD0 : Hid (∀ V, Calls Tryd.prog 32 #[.int .i64 0] V fun e w' => e = .returned (.string (str (dec 0))) ∧ Nw V w') := HD
                have hlen := dgI_len hst
                have HST := tHid hst
                have hdne : dec 0 ++ D ≠ [] := fun e => dec_ne _ (List.append_eq_nil_iff.1 e).1
                clear HI hD0 hst hR hQ hQa hRa HF2 HD
                obtain ⟨sE, hsE⟩ : ∃ x, str (dec 0 ++ D) = x := ⟨_, rfl⟩
                rw [hsE] at hcat
                have HSE := tHid hsE
                clear hsE
                generalize str (dec 0) = sr at *
                generalize str D = sD at *
                go_wp2_with (first | (go_at_call 32; with_reducible refine (HD0.out _).mono ?_; rintro e w1 ⟨rfl, K1⟩; have K1 := tHid K1))
                go_roundg 0
                case measure => omega
                case rel => exact ⟨dec 0 ++ D, 0, HST, by rw [if_neg hdne]; simp, by first | rfl | (rw [HSE.out])  | (rw [HSE.out, hcat]), rfl, by omega, by omega, by omega, HN.out.trans K1.out⟩
              · rw [decide_eq_false hD0] at b0 b1
                subst hX
                have hend : dec A = D := dgI_end HI.out hD0
                rw [← hend] at b0 b1 hDs
                have hDs2 : (str D).size ≤ 22 := by rw [str_size]; exact hDl
                rw [← hend] at hDs2 ⊢
                clear HI hD0 hR hQ hQa hRa HD hkx hcat hrs
                generalize str ([45#8] ++ dec A) = sA at *
                generalize str (dec A) = sD at *
                go_wp2_with fail
                first | exact HF2.out _ HN.out | (go_ret; exact HF2.out _ HN.out)
            · have hst := dgI_step HI.out (.inl (by omega : X.natAbs ≠ 0))
              rw [hR, ← hQa] at hst
              have hlen := dgI_len hst
              have HST := tHid hst
              have hdne : dec R ++ D ≠ [] := fun e => dec_ne _ (List.append_eq_nil_iff.1 e).1
              have hQlt : Q.natAbs < X.natAbs := by omega
              have hkx2 : Q.natAbs < gk := by split at hkx <;> omega
              by_cases hd : X.tmod 10 < 0
              · have hd2 : -(X.tmod 10) = (R : Int) := by omega
                obtain ⟨Y, hY⟩ : ∃ Y, X.tmod 10 = Y := ⟨_, rfl⟩
                rw [hY] at hd hd2
                have hY9 : -9 ≤ Y := by omega
                clear HI hst hR hQa hRa HF2 hkx
                obtain ⟨sE, hsE⟩ : ∃ x, str (dec R ++ D) = x := ⟨_, rfl⟩
                rw [hsE] at hcat
                have HSE := tHid hsE
                clear hsE
                generalize str (dec R) = sr at *
                generalize str D = sD at *
                go_wp2_with (first | (go_at_call 32; with_reducible refine (HD.out _).mono ?_; rintro e w1 ⟨rfl, K1⟩; have K1 := tHid K1))
                go_roundg Q.natAbs
                case measure => omega
                case rel => exact ⟨dec R ++ D, Q, HST, by rw [if_neg hdne, Nat.zero_add]; exact Nat.le_refl _, by first | rfl | (rw [HSE.out])  | (rw [HSE.out, hcat]), rfl, hQ1, hQ2, by omega, HN.out.trans K1.out⟩
              · have hd2 : X.tmod 10 = (R : Int) := by omega
                have hdd : ¬ ((R : Int) < 0) := by omega
                have hdd2 : decide ((R : Int) < 0) = false := decide_eq_false hdd
                clear HI hst hR hQa hRa HF2 hkx hd
                obtain ⟨sE, hsE⟩ : ∃ x, str (dec R ++ D) = x := ⟨_, rfl⟩
                rw [hsE] at hcat
                have HSE := tHid hsE
                clear hsE
                generalize str (dec R) = sr at *
                generalize str D = sD at *
                go_wp2_with (first | (go_at_call 32; with_reducible refine (HD.out _).mono ?_; rintro e w1 ⟨rfl, K1⟩; have K1 := tHid K1))
                go_roundg Q.natAbs
                case measure => omega
                case rel => exact ⟨dec R ++ D, Q, HST, by rw [if_neg hdne, Nat.zero_add]; exact Nat.le_refl _, by first | rfl | (rw [HSE.out])  | (rw [HSE.out, hcat]), rfl, hQ1, hQ2, by omega, HN.out.trans K1.out⟩
end Go.Proofs.YtenkchhlaphocaaDoor

import Derived.Test.YtfmghmidklpdaaaPxA
namespace Go.Proofs.Ytfmghmidklpdaaa
open Go.RowKit
set_option linter.unusedVariables false
theorem clean_ab (V : World) : Calls Try.prog 11 #[.string ⟨#[97, 47, 47, 46, 47, 98, 47]⟩] V fun e w' => e = .returned (.tuple #[.string ⟨#[97, 47, 98]⟩, .int .i64 0]) ∧ Hid (Nw V w') := by
  refine (pclean_any V [97, 47, 47, 46, 47, 98, 47] (by simp)).mono ?_
  rintro e w' ⟨rfl, h⟩
  have h1 : splE [97, 47, 47, 46, 47, 98, 47] = 0 := by decide
  have h2 : (clnF [97, 47, 47, 46, 47, 98, 47]).1 = [97, 47, 98] := by decide
  rw [h1, h2]
  exact ⟨rfl, h⟩
theorem clean_again {l : Tx} (h : splE l = 0) (V : World) : Calls Try.prog 11 #[.string (mk (jn (cps l)))] V fun e w' => e = .returned (.tuple #[.string (mk (jn (cps l))), .int .i64 0]) ∧ Hid (Nw V w') := by
  have hf := spl_ft h
  have hs := jn_split hf
  have hlen := ((splE_zero _).1 hs).1
  refine (pclean_any V (jn (cps l)) (by omega)).mono ?_
  rintro e w' ⟨rfl, k⟩
  rw [cln_ok hs, jn_cps hf, hs]
  exact ⟨rfl, k⟩
namespace pathForm
set_option maxHeartbeats 16000000 in
set_option maxRecDepth 100000 in
theorem walk (w : World) (a b : Tx) (hla : a.length ≤ 140737488351232) (hlb : b.length ≤ 140737488351232) :
    Calls Try.prog 7 #[.string (mk a), .string (mk b)] w fun e w' => e = .returned (.bool true) ∧ Nw w w' := by
  obtain ⟨P, hP⟩ : ∃ P : Ending → World → Prop, P = fun e w' => e = .returned (.bool true) ∧ Nw w w' := ⟨_, rfl⟩
  rw [← hP]
  have HF : Hid (∀ V, Nw w V → P (.returned (.bool true)) V) := fun V hV => by rw [hP]; exact ⟨rfl, hV⟩
  have HAB := tHid clean_ab
  have HA : Hid (∀ V, Calls Try.prog 11 #[.string (mk a)] V fun e w' => e = .returned (.tuple #[.string (mk (clnF a).1), .int .i64 ((splE a : Nat) : Int)]) ∧ Hid (Nw V w')) := fun V => pclean_any V a hla
  have HB : Hid (∀ V, Calls Try.prog 11 #[.string (mk b)] V fun e w' => e = .returned (.tuple #[.string (mk (clnF b).1), .int .i64 ((splE b : Nat) : Int)]) ∧ Hid (Nw V w')) := fun V => pclean_any V b hlb
  have HT : Hid (∀ V V' V'', Nw w V → Nw V V' → Nw V' V'' → Nw w V'') := fun _ _ _ h k m => (h.trans k).trans m
  clear hP
  by_cases ha : splE a = 0
  · have HAG := tHid (fun V => clean_again ha V)
    have hca : (clnF a).1 = jn (cps a) := by rw [cln_ok ha]
    have hne := (jn_head (spl_ft ha)).2
    have hnb : ((mk (jn (cps a))).toList == ([] : List UInt8)) = false := by rw [tx_eq, decide_eq_false hne]
    have hee : ((mk (jn (cps a))).toList == (mk (jn (cps a))).toList) = true := beq_self_eq_true _
    rw [ha, hca] at HA
    by_cases hb : splE b = 0
    · have hcb : (clnF b).1 = jn (cps b) := by rw [cln_ok hb]
      rw [hb, hcb] at HB
      have HSA : Hid (∀ V, Calls Try.prog 9 #[.string (mk a)] V fun e w' => ∃ x n c, e = .returned (.tuple #[.slice x n c, .int .i64 0]) ∧ n ≤ c ∧ c < 9223372036854775808 ∧ Hid (SlR RS (fun _ => False) (.slice x n c) (cps a) w' ∧ Nw V w')) := fun V => (psplit_any V a hla).mono (fun e w' ⟨x, n, c, h1, h2⟩ => by
        obtain ⟨_, q1, q2⟩ := h2.len
        obtain ⟨og, k1, k2, k3⟩ := h2
        rw [splF_ok ha] at k1
        exact ⟨x, n, c, by rw [h1, ha]; rfl, q1, q2, (k1.slr rsOk).any, k3⟩)
      have HSB : Hid (∀ V, Calls Try.prog 9 #[.string (mk b)] V fun e w' => ∃ x n c, e = .returned (.tuple #[.slice x n c, .int .i64 0]) ∧ n ≤ c ∧ c < 9223372036854775808 ∧ Hid (SlR RS (fun _ => False) (.slice x n c) (cps b) w' ∧ Nw V w')) := fun V => (psplit_any V b hlb).mono (fun e w' ⟨x, n, c, h1, h2⟩ => by
        obtain ⟨_, q1, q2⟩ := h2.len
        obtain ⟨og, k1, k2, k3⟩ := h2
        rw [splF_ok hb] at k1
        exact ⟨x, n, c, by rw [h1, hb]; rfl, q1, q2, (k1.slr rsOk).any, k3⟩)
      have hxy : ((mk (jn (cps a))).toList == (mk (jn (cps b))).toList) = decide (cps a = cps b) := by
        rw [mk_eq]
        apply decide_eq_decide.2
        exact ⟨fun h => jn_inj (spl_ft ha) (spl_ft hb) h, fun h => by rw [h]⟩
      have HSM : Hid (∀ v u V, SlR RS (fun _ => False) v (cps a) V → SlR RS (fun _ => False) u (cps b) V → Calls Try.prog 13 #[v, u] V fun e w' => e = .returned (.bool (decide (cps a = cps b))) ∧ Hid (Nw V w')) := fun v u V h1 h2 => usame_any V v u _ _ h1 h2
      have HCM : Hid (∀ v u V, SlR RS (fun _ => False) v (cps a) V → SlR RS (fun _ => False) u (cps b) V → Calls Try.prog 17 #[v, u] V fun e w' => ∃ z : Int, e = .returned (.int .i64 z) ∧ (z == 0) = decide (cps a = cps b) ∧ Hid (Nw V w')) := fun v u V h1 h2 => (pcompare_any V v u _ _ h1 h2).mono (fun e w' ⟨k1, k2⟩ => ⟨cmL (cps a) (cps b), k1, by
        by_cases h : cps a = cps b
        · rw [decide_eq_true h, (cmL_zero _ _).2 h]; rfl
        · rw [decide_eq_false h, beq_eq_false_iff_ne]; exact fun e => h ((cmL_zero _ _).1 e), k2⟩)
      obtain ⟨Q1, hQ1⟩ : ∃ Q1 : Value → World → Prop, Q1 = fun v V => SlR RS (fun _ => False) v (cps a) V := ⟨_, rfl⟩
      obtain ⟨Q2, hQ2⟩ : ∃ Q2 : Value → World → Prop, Q2 = fun v V => SlR RS (fun _ => False) v (cps b) V := ⟨_, rfl⟩
      have HQ : Hid ((∀ v V V', Q1 v V → Nw V V' → Q1 v V') ∧ (∀ v V V', Q2 v V → Nw V V' → Q2 v V')) := by
        rw [hQ1, hQ2]; exact ⟨fun v V V' h k => h.nw k, fun v V V' h k => h.nw k⟩
      have HSA' : Hid (∀ V, Calls Try.prog 9 #[.string (mk a)] V fun e w' => ∃ x n c, e = .returned (.tuple #[.slice x n c, .int .i64 0]) ∧ n ≤ c ∧ c < 9223372036854775808 ∧ Hid (Q1 (.slice x n c) w' ∧ Nw V w')) := by rw [hQ1]; exact HSA
      have HSB' : Hid (∀ V, Calls Try.prog 9 #[.string (mk b)] V fun e w' => ∃ x n c, e = .returned (.tuple #[.slice x n c, .int .i64 0]) ∧ n ≤ c ∧ c < 9223372036854775808 ∧ Hid (Q2 (.slice x n c) w' ∧ Nw V w')) := by rw [hQ2]; exact HSB
      have HSM' : Hid (∀ v u V, Q1 v V → Q2 u V → Calls Try.prog 13 #[v, u] V fun e w' => e = .returned (.bool (decide (cps a = cps b))) ∧ Hid (Nw V w')) := by rw [hQ1, hQ2]; exact HSM
      have HCM' : Hid (∀ v u V, Q1 v V → Q2 u V → Calls Try.prog 17 #[v, u] V fun e w' => ∃ z : Int, e = .returned (.int .i64 z) ∧ (z == 0) = decide (cps a = cps b) ∧ Hid (Nw V w')) := by rw [hQ1, hQ2]; exact HCM
      clear HSA HSB HSM HCM hQ1 hQ2 hla hlb ha hb hca hcb hne HAB
      generalize decide (cps a = cps b) = D at *
      generalize mk (jn (cps a)) = x at *
      generalize mk (jn (cps b)) = y at *
      generalize mk a = s at *
      generalize mk b = t at *
      have hDD : (D == D) = true := beq_self_eq_true _
      go_enter Try.func7, Try.ntmps7
      go_upto_region 12 with (first
        | (go_at_call 11; with_reducible refine (HA.out w).mono ?_; rintro e w1 ⟨rfl, H1⟩)
        | (go_at_call 11; with_reducible refine (HB.out w1).mono ?_; rintro e w2 ⟨rfl, H2⟩)
        | (go_at_call 11; with_reducible refine (HAG.out w2).mono ?_; rintro e w3 ⟨rfl, H3⟩)
        | (go_at_call 9; with_reducible refine (HSA'.out w3).mono ?_; rintro e w4 ⟨a4, n4, c4, rfl, f1, f2, H4⟩)
        | (go_at_call 9; with_reducible refine (HSB'.out w4).mono ?_; rintro e w5 ⟨a5, n5, c5, rfl, f3, f4, H5⟩))
      have HM5 := tHid (HSM'.out _ _ _ (HQ.out.1 _ _ _ H4.out.1 H5.out.2) H5.out.1)
      have HM6 : Hid (∀ V, Nw w5 V → Calls Try.prog 17 #[.slice a4 n4 c4, .slice a5 n5 c5] V fun e w' => ∃ z : Int, e = .returned (.int .i64 z) ∧ (z == 0) = D ∧ Hid (Nw V w')) := fun V hV => HCM'.out _ _ V (HQ.out.1 _ _ _ (HQ.out.1 _ _ _ H4.out.1 H5.out.2) hV) (HQ.out.2 _ _ _ H5.out.1 hV)
      have HT5 : Hid (Nw w w5) := HT.out _ _ _ (HT.out _ _ _ H1.out H2.out H3.out) H4.out.2 H5.out.2
      clear HA HB HAG HSA' HSB' HSM' HCM' H1 H2 H3 H4 H5 HQ
      go_wp2_with (first
        | (go_at_call 13; with_reducible refine HM5.out.mono ?_; rintro e w6 ⟨rfl, H6⟩)
        | (go_at_call 17; with_reducible refine (HM6.out _ H6.out).mono ?_; rintro e w7 ⟨z, rfl, hz, H7⟩))
      exact HF.out _ (HT.out _ _ _ HT5.out H6.out H7.out)
    · have hb1 : (((splE b : Nat) : Int) == 0) = false := by rw [beq_eq_false_iff_ne]; omega
      have hb2 : ¬ ((splE b : Nat) : Int) = 0 := by omega
      clear hla hlb ha hb hca hne
      generalize mk (jn (cps a)) = x at *
      generalize mk (clnF b).1 = y at *
      generalize splE b = Y at *
      generalize mk a = s at *
      generalize mk b = t at *
      go_enter Try.func7, Try.ntmps7
      go_wp2_with (first
        | (go_at_call 11; with_reducible refine (HA.out w).mono ?_; rintro e w1 ⟨rfl, H1⟩)
        | (go_at_call 11; with_reducible refine (HB.out w1).mono ?_; rintro e w2 ⟨rfl, H2⟩)
        | (go_at_call 11; with_reducible refine (HAG.out w2).mono ?_; rintro e w3 ⟨rfl, H3⟩)
        | (go_at_call 11; with_reducible refine (HAB.out w3).mono ?_; rintro e w4 ⟨rfl, H4⟩))
      exact HF.out _ (HT.out _ _ _ (HT.out _ _ _ H1.out H2.out H3.out) H4.out (Fr.refl _ _))
  · have ha1 : (((splE a : Nat) : Int) == 0) = false := by rw [beq_eq_false_iff_ne]; omega
    have ha2 : ¬ ((splE a : Nat) : Int) = 0 := by omega
    clear hla hlb ha
    generalize mk (clnF a).1 = x at *
    generalize splE a = X at *
    generalize mk (clnF b).1 = y at *
    generalize splE b = Y at *
    generalize mk a = s at *
    generalize mk b = t at *
    go_enter Try.func7, Try.ntmps7
    go_wp2_with (first
      | (go_at_call 11; with_reducible refine (HA.out w).mono ?_; rintro e w1 ⟨rfl, H1⟩)
      | (go_at_call 11; with_reducible refine (HB.out w1).mono ?_; rintro e w2 ⟨rfl, H2⟩)
      | (go_at_call 11; with_reducible refine (HAB.out w2).mono ?_; rintro e w3 ⟨rfl, H3⟩))
    exact HF.out _ (HT.out _ _ _ H1.out H2.out H3.out)
end pathForm
end Go.Proofs.Ytfmghmidklpdaaa

import Derived.Test.YtiinalgflmgnaaaDoorNfR
namespace Go.Proofs.YtiinalgflmgnaaaDoor
open Go.RowKit
set_option linter.unusedVariables false
theorem binE_zero (b : List By) (h : binE b = 0) : isB b = true ∧ inI (binV b) = true ∧ binN b = binV b := by
  unfold binE at h
  unfold binN
  split at h
  · rename_i h1
    split at h
    · rename_i h2
      rw [if_pos h1, if_pos h2]
      exact ⟨h1, h2, rfl⟩
    · cases h
  · cases h
/-- What Binary reads is the one form of its number. -/
theorem pb_form (b : List By) (h : binE b = 0) (hl : b.length ≤ 512) : pbE (binN b) (b.length : Int) = 0 ∧ pbL (binN b) (b.length : Int) = b := by
  obtain ⟨h1, h2, h3⟩ := binE_zero b h
  obtain ⟨h4, h5⟩ := of_decide_eq_true h1
  rw [h3]
  cases b with
  | nil => simp at h4
  | cons x l =>
    obtain ⟨q1, q2⟩ := bfd_binV x l h5
    have e : ((x :: l).length : Int).toNat - 1 = l.length := by simp
    unfold pbE pbL
    rw [e, if_pos (by simp at h4 hl ⊢; omega), q1, q2]
    exact ⟨rfl, rfl⟩
theorem octE_cases2 (b : List By) : octE b = 0 ∨ (octE b ≠ 0 ∧ octN b = 0) := by
  rcases octE_cases b with h | ⟨h, h2⟩
  · exact .inl h
  · exact .inr ⟨by omega, h2⟩
theorem poE_in (m : Nat) (d : Int) (h1 : 2 ≤ d) (h2 : d ≤ 512) : poE (m : Int) d = 0 ∨ poE (m : Int) d = 122 := by
  unfold poE
  rw [if_pos ⟨h1, h2⟩, if_neg (by omega)]
  split
  · exact .inl rfl
  · exact .inr rfl
theorem bin_bd (b : List By) : -9223372036854775808 ≤ binN b ∧ binN b ≤ 9223372036854775807 := by
  unfold binN
  split
  · split
    · rename_i h; exact (inI_iff _).1 h
    · omega
  · omega
theorem last_zero (l : List By) (k : Nat) (hk : l.length = k) (h : k < (l ++ [0#8]).length) : (l ++ [0#8])[k] = 0#8 := by
  subst hk; simp
theorem poL_last (n d : Int) (h : 2 ≤ d) (hl : d.toNat - 1 < (poL n d).length) : (poL n d)[d.toNat - 1] = 0#8 :=
  last_zero _ _ (ol_length _ _) hl
namespace fieldForm
set_option maxHeartbeats 16000000 in
set_option maxRecDepth 100000 in
theorem walk (w : World) (a : Option Addr) (n c : Nat) (b : List By) (hb : Old w (.slice a n c) b) :
    Calls Tryd.prog 6 #[.slice a n c] w fun e w' => e = .returned (.bool true) ∧ Nw w w' := by
  obtain ⟨P, hP⟩ : ∃ P : Ending → World → Prop, P = fun e w' => e = .returned (.bool true) ∧ Nw w w' := ⟨_, rfl⟩
  rw [← hP]
  have HF : Hid (∀ W, Nw w W → P (.returned (.bool true)) W) := fun W hW => by rw [hP]; exact ⟨rfl, hW⟩
  clear hP
  obtain ⟨hbn, k1, k2⟩ := sl_len hb
  have HSB : Hid (∀ V, Nw w V → Old V (.slice a n c) b) := fun V hV => Sl.later hb hV
  obtain ⟨E, hE⟩ : ∃ E, binE b = E := ⟨_, rfl⟩
  obtain ⟨N, hN⟩ : ∃ N, binN b = N := ⟨_, rfl⟩
  obtain ⟨F, hF⟩ : ∃ F, octE b = F := ⟨_, rfl⟩
  obtain ⟨M, hM⟩ : ∃ M, octN b = M := ⟨_, rfl⟩
  have HL : Hid (Calls Tryd.prog 24 #[] w fun e w' => e = .returned (.bool true) ∧ Hid (Nw w w')) := lives_any w
  have HB : Hid (∀ V, Nw w V → Calls Tryd.prog 10 #[.slice a n c] V fun e w' => e = .returned (.tuple #[.int .i64 N, .int .i64 (E : Nat)]) ∧ V = w') := fun V hV => by
    refine (binary_any V a n c b (HSB.out V hV)).mono ?_
    rintro e w' ⟨rfl, h⟩
    unfold binA
    rw [hN, hE]
    exact ⟨rfl, h⟩
  have HO : Hid (∀ V, Nw w V → Calls Tryd.prog 8 #[.slice a n c] V fun e w' => e = .returned (.tuple #[.int .i64 (M : Nat), .int .i64 (F : Nat)]) ∧ Hid (Nw V w')) := fun V hV => by
    refine (octal_any V a n c b (HSB.out V hV)).mono ?_
    rintro e w' ⟨rfl, h⟩
    unfold octV
    rw [hM, hF]
    exact ⟨rfl, h⟩
  have HPB : Hid (E = 0 → n ≤ 512 → ∀ V, Calls Tryd.prog 27 #[.int .i64 N, .int .i64 (n : Int)] V fun e w' => ∃ a m c, e = .returned (.tuple #[.slice a m c, .int .i64 0]) ∧ (convert 22 9 (.slice a m c)).run Tryd.prog w' = .ok (.string (str b)) w' ∧ Hid (Nw V w')) := fun h0 h5 V => by
    have hbd := bin_bd b
    rw [hN] at hbd
    obtain ⟨q1, q2⟩ := pb_form b (by rw [hE]; exact h0) (by omega)
    rw [hN, hbn] at q1 q2
    refine (putBinary_any N n V hbd.1 hbd.2).mono ?_
    rintro e w' ⟨a, m, c, rfl, j1, j2⟩
    rw [q1, q2] at j2
    rw [q1]
    obtain ⟨g, ea, hO, e1, e2, e3⟩ := put_sl j2 rfl
    subst ea
    exact ⟨_, m, c, rfl, conv_any hO.old, j1⟩
  have HCV : Hid (∀ V, Nw w V → (convert 22 9 (.slice a n c)).run Tryd.prog V = .ok (.string (str b)) V) := fun V hV => conv_any (HSB.out V hV)
  have HOM : Hid (F ≠ 0 → M = 0) := fun h => by
    rcases octE_cases2 b with e | ⟨_, e⟩
    · exact absurd (hF.symm.trans e) h
    · rw [← hM]; exact e
  obtain ⟨G, hG⟩ : ∃ G, poE (M : Int) (n : Int) = G := ⟨_, rfl⟩
  have HG : Hid (2 ≤ n → n ≤ 512 → G = 0 ∨ G = 122) := fun h5 h6 => by rw [← hG]; exact poE_in M n (by omega) (by omega)
  have HPO : Hid (2 ≤ n → ∀ V, Calls Tryd.prog 28 #[.int .i64 (M : Nat), .int .i64 (n : Int)] V fun e w' => ∃ a m c, e = .returned (.tuple #[.slice a m c, .int .i64 (G : Nat)]) ∧ Hid (Nw V w' ∧ (G = 0 → m = n ∧ m ≤ c ∧ c < 9223372036854775808 ∧ ∃ g, a = some ⟨g, 0, none⟩ ∧ (Calls Tryd.prog 8 #[.slice (some ⟨g, 0, none⟩) m c] w' fun e w2 => e = .returned (.tuple #[.int .i64 (M : Nat), .int .i64 0]) ∧ Hid (Nw w' w2)) ∧ (∀ U, Nw w' U → U.cell? ⟨g, n - 1, none⟩ = some (.int .u8 0))))) := fun h5 V => by
    have hmx := octN_mx b
    rw [hM, mx_eq] at hmx
    refine (putOctal_any M n V (by omega) (by omega)).mono ?_
    rintro e w' ⟨a, m, c, rfl, j1, j2⟩
    rw [hG] at j2 ⊢
    refine ⟨a, m, c, rfl, j1, fun h0 => ?_⟩
    obtain ⟨g, ea, hO, e1, e2, e3⟩ := put_sl j2 h0
    have hlen := poL_length (M : Int) (n : Int) (by omega)
    refine ⟨by omega, e2, e3, g, ea, ?_, fun U hU => ?_⟩
    · refine (octal_any w' _ m c _ hO.old).mono ?_
      rintro e w2 ⟨rfl, h⟩
      rw [poL_oct M n (by omega) (by rw [hG]; exact h0)]
      exact ⟨rfl, h⟩
    · have hn1 : ((n : Int)).toNat - 1 = n - 1 := by omega
      have hlt : ((n : Int)).toNat - 1 < (poL (M : Int) (n : Int)).length := by omega
      have := ((hO.nw hU).at _ hlt).1
      rw [poL_last _ _ (by omega) hlt, hn1] at this
      exact this
  have HNM : Hid (M ≤ 9223372036854775807) := by have := octN_mx b; rw [hM, mx_eq] at this; exact this
  clear hE hN hF hM hG hb HSB hbn
  go_enter Tryd.func6, Tryd.ntmps6
  go_upto_region 3 with (first
    | (go_at_call 24; with_reducible refine HL.out.mono ?_; rintro e w1 ⟨rfl, K1⟩))
  have HB1 := tHid (HB.out w1 K1.out)
  go_upto_region 4 with (first
    | (go_at_call 10; with_reducible refine HB1.out.mono ?_; rintro e w2 ⟨rfl, rfl⟩))
  clear HL HB HB1
  go_cut [26] (fun v wx => ∃ B : Bool, v = .bool B ∧ Hid (B = true → E = 0 ∧ n ≤ 512) ∧ wx = w1)
  case first =>
    clear HF HO HPB HCV HOM HG HPO HNM K1
    by_cases hz : E = 0
    · subst hz
      by_cases h5 : (n : Int) ≤ 512
      · have d5 : decide ((n : Int) ≤ 512) = true := decide_eq_true h5
        go_wp2_with fail
        go_meet
        exact ⟨true, rfl, (fun _ => ⟨by first | trivial | rfl, by omega⟩), rfl⟩
      · have d5 : decide ((n : Int) ≤ 512) = false := decide_eq_false h5
        go_wp2_with fail
        go_meet
        exact ⟨false, rfl, (fun h => by cases h), rfl⟩
    · have hz2 : ((E : Int) == 0) = false := by rw [beq_eq_false_iff_ne]; omega
      go_wp2_with fail
      go_meet
      exact ⟨false, rfl, (fun h => by cases h), rfl⟩
  case rest =>
  obtain ⟨B, rfl, HBB, hw⟩ := hcut
  have hw' := hw.symm
  subst hw'
  clear hw
  go_upto_if 26 with fail
  go_cut [5, 6] from 26 to 42 (fun v5 v6 wx => Hid (Nw w wx))
  case first =>
    cases B with
    | true =>
      obtain ⟨hz, h5⟩ := HBB.out rfl
      have HP2 := tHid (HPB.out hz h5 w1)
      have HC2 := tHid (fun V h => HCV.out V (K1.out.trans h))
      have HK := tHid (fun V (h : Nw w1 V) => K1.out.trans h)
      have hsl : ((str b).toList != (str b).toList) = false := by simp
      clear HF HO HPB HCV HOM HG HPO HNM K1 HBB hz h5
      go_upto_region 6 with (first
        | (go_at_call 27; with_reducible refine HP2.out.mono ?_; rintro e w2 ⟨a2, m2, c2, rfl, hcv, K2⟩))
      have hcv2 := HC2.out w2 K2.out
      have HM := tHid (HK.out w2 K2.out)
      clear HC2 HP2 HK K2
      generalize str b = S at *
      go_wp2_with fail
      go_meet
      exact HM
    | false =>
      clear HF HO HPB HCV HOM HG HPO HNM HBB
      go_wp2_with fail
      go_meet
      exact K1
  case rest =>
  obtain ⟨W2, hW2⟩ : ∃ z, z = wc := ⟨_, rfl⟩
  subst hW2
  have HK2 : Hid (Nw w W2) := hcut
  have HO2 := tHid (HO.out W2 hcut.out)
  clear hcut K1 HBB HPB HCV HO
  go_upto_region 9 with (first
    | (go_at_call 8; with_reducible refine HO2.out.mono ?_; rintro e w3 ⟨rfl, K3⟩))
  have HK3 := tHid (HK2.out.trans K3.out)
  clear HK2 K3 HO2
  by_cases hF : F = 0
  · subst hF
    have hM0 : (0 : Int) ≤ (M : Int) := by omega
    have HF3 := tHid (HF.out w3 HK3.out)
    by_cases g1 : (n : Int) < 2
    · have d1 : decide ((n : Int) < 2) = true := decide_eq_true g1
      clear HF HOM HG HPO HK3 HNM
      go_wp2_with fail
      exact HF3.out
    · have d1 : decide ((n : Int) < 2) = false := decide_eq_false g1
      by_cases g2 : 512 < (n : Int)
      · have d2 : decide (512 < (n : Int)) = true := decide_eq_true g2
        clear HF HOM HG HPO HK3 HNM
        go_wp2_with fail
        exact HF3.out
      · have d2 : decide (512 < (n : Int)) = false := decide_eq_false g2
        have hg := HG.out (by omega) (by omega)
        have HP3 := tHid (HPO.out (by omega) w3)
        have hnm := HNM.out
        clear HOM HG HPO HNM HF3
        go_upto_region 14 with (first
          | (go_at_call 28; with_reducible refine HP3.out.mono ?_; rintro e w4 ⟨a4, m4, c4, rfl, K4⟩))
        obtain ⟨n4, k4⟩ := K4.out
        have HK4 := tHid (HK3.out.trans n4)
        rcases hg with rfl | rfl
        · obtain ⟨rfl, hmc, hc9, g, rfl, ho, hcell⟩ := k4 rfl
          have HO4 := tHid ho
          have HC4 := tHid hcell
          clear HP3 HK3 K4 n4 k4 ho hcell
          go_upto_region 17 with (first
            | (go_at_call 8; with_reducible refine HO4.out.mono ?_; rintro e w5 ⟨rfl, K5⟩))
          have hc5 := HC4.out w5 K5.out
          have HF5 := tHid (HF.out w5 (HK4.out.trans K5.out))
          obtain ⟨q, rfl⟩ : ∃ q, m4 = q + 1 := ⟨m4 - 1, by omega⟩
          rw [Nat.add_sub_cancel] at hc5
          have hq : ((q + 1 : Nat) : Int) - 1 = (q : Int) := by omega
          have hMM : ((M : Int) == (M : Int)) = true := by simp
          clear HC4 HO4 HK4 K5 HF
          go_wp2_with fail
          exact HF5.out
        · have HF4 := tHid (HF.out w4 HK4.out)
          clear HP3 HK3 HK4 K4 n4 k4 HF
          go_wp2_with fail
          exact HF4.out
  · have hM : M = 0 := HOM.out hF
    subst hM
    have hz2 : ((F : Int) != 0) = true := by simp; omega
    have HF3 := tHid (HF.out w3 HK3.out)
    clear HF HOM HG HPO HK3 HNM
    go_wp2_with fail
    exact HF3.out
end fieldForm
end Go.Proofs.YtiinalgflmgnaaaDoor

import Derived.Test.YtoegbaenheeogaaGreatDoorNfG
namespace Go.Proofs.YtoegbaenheeogaaGreatDoor
open Go.RowKit
set_option linter.unusedVariables false
theorem and128 : ∀ x : By, bits .and .u8 (x.toNat : Int) 128 = if 128 ≤ x.toNat then 128 else 0 := by decide +kernel
theorem anot128 : ∀ x : By, 128 ≤ x.toNat → bits .andNot .u8 (x.toNat : Int) 128 = (x.toNat : Int) - 128 := by decide +kernel
def binA (b : List By) : Value := .tuple #[.int .i64 (binN b), .int .i64 (binE b : Nat)]
theorem binA_of (b : List By) (n : Int) (e : Nat) (h1 : binN b = n) (h2 : binE b = e) : binA b = .tuple #[.int .i64 n, .int .i64 (e : Nat)] := by unfold binA; rw [h1, h2]
theorem binA_no (b : List By) (h : isB b = false) : binA b = .tuple #[.int .i64 0, .int .i64 120] := binA_of b 0 120 (by unfold binN; rw [h]; rfl) (by unfold binE; rw [h]; rfl)
theorem binA_big (b : List By) (h : isB b = true) (h2 : inI (binV b) = false) : binA b = .tuple #[.int .i64 0, .int .i64 121] := binA_of b 0 121 (by unfold binN; rw [h, h2]; rfl) (by unfold binE; rw [h, h2]; rfl)
theorem binA_ok (b : List By) (h : isB b = true) (h2 : inI (binV b) = true) : binA b = .tuple #[.int .i64 (binV b), .int .i64 0] := binA_of b (binV b) 0 (by unfold binN; rw [h, h2]; rfl) (by unfold binE; rw [h, h2]; rfl)
theorem inI_iff (n : Int) : inI n = true ↔ (-9223372036854775808 ≤ n ∧ n ≤ 9223372036854775807) := by unfold inI; simp
theorem vb_take (n : Int) (l : List By) (I : Nat) (h : I < l.length) : vb n (l.take (I + 1)) = vb n (l.take I) * 256 + (l[I].toNat : Int) := by
  rw [take_snoc l I h, vb_app, vb_cons]; rfl
set_option maxHeartbeats 8000000 in
set_option maxRecDepth 100000 in
theorem binary_any {X : Nat → Prop} (w : World) (a : Option Addr) (n c : Nat) (b : List By) (hb : Sl X (.slice a n c) b w) :
    Calls Tryz.prog 61 #[.slice a n c] w fun e w' => e = .returned (binA b) ∧ w = w' := by
  obtain ⟨P, hP⟩ : ∃ P : Ending → World → Prop, P = fun e w' => e = .returned (binA b) ∧ w = w' := ⟨_, rfl⟩
  rw [← hP]
  have HF : Hid (P (.returned (binA b)) w) := by rw [hP]; exact ⟨rfl, rfl⟩
  clear hP
  obtain ⟨hbn, k1, k2⟩ := sl_len hb
  by_cases h2 : (n : Int) < 2
  · rw [binA_no b (decide_eq_false (by rw [hbn]; omega))] at HF
    have d2 : decide ((n : Int) < 2) = true := decide_eq_true h2
    clear hb hbn
    go_enter Tryz.func61, Tryz.ntmps61
    go_wp2_with fail
    exact HF.out
  · have d2 : decide ((n : Int) < 2) = false := decide_eq_false h2
    cases b with
    | nil => simp at hbn; omega
    | cons x l =>
      obtain ⟨g, o, rfl, hn, hc, _, x0, _, hs2⟩ := sl_cons hb
      have hS := hs2 (by omega)
      by_cases hx : 128 ≤ x.toNat
      · have e1 := and128 x
        rw [if_pos hx] at e1
        have e2 := anot128 x hx
        have hB : isB (x :: l) = true := decide_eq_true ⟨by rw [hbn]; omega, hx⟩
        obtain ⟨m, rfl⟩ : ∃ m, n = m + 1 := ⟨n - 1, by omega⟩
        rw [Nat.add_sub_cancel] at hS
        have HR : Hid (∀ I, (hI : I < l.length) → w.cell? ⟨g, o + 1 + I, none⟩ = some (.int .u8 l[I].toNat)) := fun I hI => by
          rcases hS with ⟨_, e, e2⟩ | ⟨g, _, o, _, e, e1, e2, hr⟩
          · rw [e2] at hI; simp at hI
          · injection e with e _ ec
            injection e with e
            injection e with ea eo
            rw [ea, eo]
            exact hr I hI
        obtain ⟨f, hf⟩ : ∃ f, fb x = f := ⟨_, rfl⟩
        obtain ⟨hf1, hf2⟩ := fb_range x hx
        rw [hf] at hf1 hf2
        have hfe : f = if (x.toNat : Int) - 128 > 63 then (x.toNat : Int) - 256 else (x.toNat : Int) - 128 := hf.symm
        have HD : Hid (isB (x :: l) = true ∧ l.length = m ∧ binV (x :: l) = vb f l) := ⟨hB, by omega, by rw [← hf]; rfl⟩
        have hx255 := x.isLt
        have hc1 : 1 < c := by omega
        have hc1' : ¬ c = 1 := by omega
        clear hb hn hs2 hS hB hbn hf
        generalize x.toNat = xx at *
        go_enter Tryz.func61, Tryz.ntmps61
        go_upto_if 23 with fail
        go_cut [4] from 23 to 25 (fun v wx => v = .int .i64 f ∧ wx = w)
        case first =>
          by_cases h63 : (63 : Int) < (xx : Int) - 128
          · have hfx : f = (xx : Int) - 128 + -128 := by rw [hfe, if_pos (by omega)]; omega
            clear HF HR HD hfe
            subst hfx
            go_wp2_with fail
            go_meet
            refine ⟨?_, ?_⟩ <;> first | rfl | (congr 1; omega) | trace_state
          · have hfx : f = (xx : Int) - 128 := by rw [hfe, if_neg (by omega)]
            clear HF HR HD hfe
            subst hfx
            go_wp2_with fail
            go_meet
            exact ⟨rfl, rfl⟩
        case rest =>
        obtain ⟨rfl, hw⟩ := hcut
        have hw' := hw.symm
        subst hw'
        clear hw hfe e1 e2 x0 d2 h2 hx hx255
        go_wp2_with fail
        go_loopg [4, 29] m (fun kx v i wr => ∃ (I : Nat) (N : Int), I ≤ m ∧ m - I ≤ kx ∧ i = .int .i64 I ∧ v = .int .i64 N ∧ -9223372036854775808 ≤ N ∧ N ≤ 9223372036854775807 ∧ wr = w ∧ Hid (N = vb f (l.take I)))
        case atStart => exact ⟨0, f, by omega, by omega, rfl, rfl, by omega, by omega, rfl, rfl⟩
        case round =>
          obtain ⟨I, N, hI, hkx, rfl, rfl, hN1, hN2, rfl, HV⟩ := hrel
          obtain ⟨hB, hlm, hbv⟩ := HD.out
          by_cases hlt : I < m
          · have hlt' : I < l.length := by omega
            have hcell := HR.out I hlt'
            have hsn := vb_take f l I hlt'
            rw [← HV.out] at hsn
            have hy := l[I].isLt
            by_cases hfit : -36028797018963968 ≤ N ∧ N ≤ 36028797018963967
            · have hor := i64_or 8 N (l[I].toNat : Int) (by omega) (by omega) (by omega) (by omega) (by omega)
              rw [show (2 : Int) ^ 8 = 256 from rfl] at hor
              have hdiv : N * 256 / 256 = N := by omega
              obtain ⟨N2, hN2'⟩ : ∃ N2, N * 256 + (l[I].toNat : Int) = N2 := ⟨_, rfl⟩
              rw [hN2'] at hor hsn
              have HV2 : Hid (N2 = vb f (l.take (I + 1))) := hsn.symm
              have b1 : -9223372036854775808 ≤ N2 := by omega
              have b2 : N2 ≤ 9223372036854775807 := by omega
              obtain ⟨hf3, hf4⟩ := hfit
              have hself : (N == N) = true := by simp
              clear HF HR HD HV hsn hB hlm hbv hN2'
              generalize l[I].toNat = y at *
              go_wp2_with fail
              go_roundg (m - (I + 1))
              case measure => omega
              case rel => exact ⟨I + 1, N2, by omega, by omega, by first | rfl | (congr 1), rfl, b1, b2, rfl, HV2⟩
            · have hout : inI (N * 256 + (l[I].toNat : Int)) = false := by
                unfold inI; exact decide_eq_false (by omega)
              have hbad : inI (binV (x :: l)) = false := by
                rw [hbv, ← List.take_append_drop (I + 1) l, vb_app, hsn]
                exact vb_out _ _ hout
              rw [binA_big _ hB hbad] at HF
              have hq2 : (wrap64 (N * 256) / 256 != N) = true := by rw [bne_iff_ne]; unfold wrap64; omega
              clear HR HD HV hsn hB hlm hbv hbad hout
              generalize l[I].toNat = y at *
              go_wp2_with fail
              exact HF.out
          · have hNv : N = binV (x :: l) := by
              rw [hbv, HV.out, List.take_of_length_le (by omega)]
            rw [binA_ok _ hB (by rw [inI_iff, ← hNv]; exact ⟨hN1, hN2⟩), ← hNv] at HF
            clear HR HD HV hB hlm hbv hNv
            go_wp2_with fail
            exact HF.out
      · have e1 := and128 x
        rw [if_neg hx] at e1
        rw [binA_no _ (decide_eq_false (fun h => hx (h : _ ∧ 128 ≤ x.toNat).2))] at HF
        clear hb hn hs2 hS hbn
        generalize x.toNat = xx at *
        go_enter Tryz.func61, Tryz.ntmps61
        go_wp2_with fail
        exact HF.out
end Go.Proofs.YtoegbaenheeogaaGreatDoor

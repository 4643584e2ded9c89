import Derived.Test.YtffhpoilifgcdaaDoorVaf
namespace Go.Proofs.YtffhpoilifgcdaaDoor
open Go.RowKit
set_option linter.unusedVariables false
theorem mx_eq : mx = 9223372036854775807 := by unfold mx; rfl
/-- n * 2^k or d, d below 2^k. -/
theorem i64_or (k : Nat) (n d : Int) (hk : k ≤ 8) (hd : 0 ≤ d) (hd2 : d < 2 ^ k) (h1 : -9223372036854775808 ≤ n * 2 ^ k + d) (h2 : n * 2 ^ k + d ≤ 9223372036854775807) : bits .or .i64 (n * 2 ^ k) d = n * 2 ^ k + d := by
  obtain ⟨D, rfl⟩ := Int.eq_ofNat_of_zero_le hd
  have hp : (2 : Int) ^ k = ((2 ^ k : Nat) : Int) := by norm_cast
  have hp2 : 2 ^ k ≤ 2 ^ 8 := Nat.pow_le_pow_right (by decide) hk
  have hpos : 0 < 2 ^ k := Nat.pow_pos (by decide)
  have hdiv : 2 ^ 64 = 2 ^ k * 2 ^ (64 - k) := by rw [← Nat.pow_add]; congr 1; omega
  show IntKind.i64.wrap ((BitVec.ofInt 64 (n * 2 ^ k) ||| BitVec.ofInt 64 (D : Int)).toNat : Nat) = _
  rw [BitVec.toNat_or, BitVec.toNat_ofInt, BitVec.toNat_ofInt]
  have eD : ((D : Int) % ((2 ^ 64 : Nat) : Int)).toNat = D := by
    rw [hp] at hd2
    omega
  rw [eD]
  have eN : ((n * 2 ^ k) % ((2 ^ 64 : Nat) : Int)).toNat = 2 ^ k * ((n % ((2 ^ (64 - k) : Nat) : Int)).toNat) := by
    rw [hdiv, hp]
    push_cast
    rw [Int.mul_comm n, Int.mul_emod_mul_of_pos _ _ (by rw [hp]; omega)]
    have : 0 ≤ n % (2 : Int) ^ (64 - k) := Int.emod_nonneg _ (by have : (0 : Int) < 2 ^ (64 - k) := Int.pow_pos (by decide); omega)
    obtain ⟨z, hz⟩ := Int.eq_ofNat_of_zero_le this
    rw [hz, hp]
    norm_cast
  rw [eN, nat_join k _ _ (Nat.mul_mod_right _ _) (by rw [hp] at hd2; omega), ← eN, IntKind.wrap_i64]
  clear eN eD hdiv hd2 hp2 hpos hp hd
  generalize n * 2 ^ k = m at *
  have e : (((m % ((2 ^ 64 : Nat) : Int)).toNat + D : Nat) : Int) = m % 18446744073709551616 + (D : Int) := by omega
  rw [e]
  omega
theorem oct_or (N d : Nat) (hN : N ≤ 1152921504606846975) (hd : d < 8) : bits .or .i64 ((N : Int) * 8) (d : Int) = ((8 * N + d : Nat) : Int) := by
  have := i64_or 3 (N : Int) (d : Int) (by omega) (by omega) (by omega) (by omega) (by omega)
  rw [show (2 : Int) ^ 3 = 8 from rfl] at this
  rw [this]; omega
/-- What Octal answers. -/
def octV (b : List By) : Value := .tuple #[.int .i64 (octN b : Nat), .int .i64 (octE b : Nat)]
theorem octV_of (b : List By) (n e : Nat) (h1 : octN b = n) (h2 : octE b = e) : octV b = .tuple #[.int .i64 (n : Nat), .int .i64 (e : Nat)] := by unfold octV; rw [h1, h2]
set_option maxHeartbeats 8000000 in
set_option maxRecDepth 100000 in
theorem octal_any {X : Nat → Prop} (w : World) (a : Option Addr) (n c : Nat) (b : List By) (hb : Sl X (.slice a n c) b w) :
    Calls Tryd.prog 58 #[.slice a n c] w fun e w' => e = .returned (octV b) ∧ Nw w w' := by
  obtain ⟨P, hP⟩ : ∃ P : Ending → World → Prop, P = fun e w' => e = .returned (octV b) ∧ Nw w w' := ⟨_, rfl⟩
  rw [← hP]
  have HF : Hid (∀ W, Nw w W → P (.returned (octV b)) W) := fun W hW => by rw [hP]; exact ⟨rfl, hW⟩
  clear hP
  have HL := tHid (triml_any w a n c b hb)
  have HR : Hid (∀ a' n' c', Sl X (.slice a' n' c') (b.dropWhile isBl) w → Calls Tryd.prog 68 #[.slice a' n' c', .string ⟨#[32, 0]⟩] w fun e w' => ∃ M : Nat, e = .returned (.slice a' M c') ∧ Hid (Nw w w' ∧ Sl X (.slice a' M c') (trR (b.dropWhile isBl)) w' ∧ M ≤ c' ∧ c' < 9223372036854775808)) := fun a' n' c' h => by
    refine (trimr2_any w a' n' c' _ h).mono ?_
    rintro e w' ⟨M, rfl, H1, H2⟩
    have q := sl_take (h.nw H2.out) M H1.out.1
    rw [H1.out.2] at q
    exact ⟨M, rfl, H2.out, q, (sl_len q).2⟩
  obtain ⟨_, k1, k2⟩ := sl_len hb
  clear hb
  go_enter Tryd.func58, Tryd.ntmps58
  go_upto_region 2 with (first
    | (go_at_call 69; with_reducible refine HL.out.mono ?_; rintro e w1 ⟨a', n', c', rfl, H1, rfl⟩)
    | (go_at_call 68; with_reducible refine (HR.out _ _ _ H1.out).mono ?_; rintro e w2 ⟨M, rfl, H2⟩))
  obtain ⟨hN, hS, hc1, hc2⟩ := H2.out
  have HC := tHid (containsFB_any w2 a' M c' _ hS)
  clear HL HR H1
  cases hr : (rst b).all isBz with
  | false =>
    have hn := trR_not b hr
    rw [hn] at HC
    have hv := octV_of b 0 120 (by unfold octN; rw [hr]; rfl) (by unfold octE; rw [hr]; rfl)
    have HF2 := tHid (HF.out w2 hN)
    rw [hv] at HF2
    clear HF hN hS hr hn hv H2
    go_wp2_with (first | (go_at_call 70; with_reducible refine HC.out.mono ?_; rintro e w3 ⟨rfl, rfl⟩))
    exact HF2.out
  | true =>
    have hn := trR_is b hr
    rw [hn] at HC hS
    rw [dgs_all b] at HC
    have hbn := (sl_len hS).1
    have HR : Hid (∀ I, (hI : I < (dgs b).length) → ∃ g o, a' = some ⟨g, o, none⟩ ∧ w2.cell? ⟨g, o + I, none⟩ = some (.int .u8 (dgs b)[I].toNat)) := fun I hI => by
      rcases hS with ⟨_, e, e2⟩ | ⟨g, _, o, _, e, e1, e2, hr⟩
      · rw [e2] at hI; simp at hI
      · injection e with e _ ec
        exact ⟨g, o, e, hr I hI⟩
    have HD := tHid (And.intro (dgs_all b) (And.intro hbn (And.intro hr hN)))
    clear hS hr hn H2 hbn hN
    go_wp2_with (first | (go_at_call 70; with_reducible refine HC.out.mono ?_; rintro e w3 ⟨rfl, rfl⟩))
    go_loopg [5, 15] M (fun kx v i wr => ∃ (I N : Nat), I ≤ M ∧ M - I ≤ kx ∧ i = .int .i64 I ∧ v = .int .i64 N ∧ N ≤ 9223372036854775807 ∧ wr = w2 ∧ Hid (N = v8 0 ((dgs b).take I)))
    case atStart => exact ⟨0, 0, by omega, by omega, rfl, rfl, by omega, rfl, rfl⟩
    case round =>
      obtain ⟨I, N, hI, hkx, rfl, rfl, hN9, rfl, HV⟩ := hrel
      obtain ⟨hall, hbn, hr, hN⟩ := HD.out
      by_cases hlt : I < M
      · have hlt' : I < (dgs b).length := by omega
        obtain ⟨g, o, rfl, hcell⟩ := HR.out I hlt'
        have hdig := List.all_eq_true.1 hall _ (List.getElem_mem hlt')
        have hd2 := of_decide_eq_true hdig
        have hsn : v8 0 ((dgs b).take (I + 1)) = 8 * N + ((dgs b)[I].toNat - 48) := by
          rw [take_snoc _ _ hlt', v8_app, ← HV.out, v8_cons, v8_nil]
        by_cases hbig : (1152921504606846975 : Int) < (N : Int)
        · have hno : ¬ v8 0 (dgs b) ≤ mx := by
            have h9 := v8_ge (v8 0 ((dgs b).take (I + 1))) ((dgs b).drop (I + 1))
            rw [← v8_app, List.take_append_drop, hsn] at h9
            rw [mx_eq]; omega
          have hv := octV_of b 0 121 (by unfold octN; rw [hr, if_pos rfl, if_neg hno]) (by unfold octE; rw [hr, if_pos rfl, if_neg hno])
          have HF2 := tHid (HF.out wr hN)
          rw [hv] at HF2
          clear HF HR HD HV hall hbn hr hN hdig hd2 hsn hno hv HC
          generalize (dgs b)[I].toNat = x at *
          go_wp2_with fail
          exact HF2.out
        · obtain ⟨d, hd⟩ : ∃ d, (dgs b)[I].toNat = 48 + d := ⟨(dgs b)[I].toNat - 48, by omega⟩
          rw [hd] at hcell hsn hd2
          have hor := oct_or N d (by omega) (by omega)
          have HV2 : Hid (8 * N + d = v8 0 ((dgs b).take (I + 1))) := by show _ = _; rw [hsn]; omega
          obtain ⟨N2, hN2⟩ : ∃ N2, 8 * N + d = N2 := ⟨_, rfl⟩
          rw [hN2] at hor HV2
          have hN29 : N2 ≤ 9223372036854775807 := by omega
          have hd8 : (d : Int) < 8 := by omega
          obtain ⟨y, hy⟩ : ∃ y, y = 48 + d := ⟨_, rfl⟩
          rw [← hy] at hcell
          have hyd : (y : Int) - 48 = (d : Int) := by omega
          have hy1 : (48 : Int) ≤ (y : Int) := by omega
          have hy2 : (y : Int) ≤ 55 := by omega
          clear HF HR HD HV hall hbn hr hN hdig hsn HC hd hd2 hN2 hy
          go_wp2_with fail
          go_roundg (M - (I + 1))
          case measure => omega
          case rel => exact ⟨I + 1, N2, by omega, by omega, by first | rfl | (congr 1), by first | rfl | (rw [hor]), hN29, rfl, HV2⟩
      · have hN0 : N = v8 0 (dgs b) := by
          have := HV.out
          rw [List.take_of_length_le (by omega)] at this
          exact this
        have hyes : v8 0 (dgs b) ≤ mx := by rw [mx_eq, ← hN0]; exact hN9
        have hv := octV_of b N 0 (by unfold octN; rw [hr, if_pos rfl, if_pos hyes, hN0]) (by unfold octE; rw [hr, if_pos rfl, if_pos hyes])
        have HF2 := tHid (HF.out wr hN)
        rw [hv] at HF2
        clear HF HR HD HV hall hbn hr hN HC hv hN0 hyes
        go_wp2_with fail
        exact HF2.out
end Go.Proofs.YtffhpoilifgcdaaDoor

namespace Go.Proofs.YtffhpoilifgcdaaDoor
open Go.RowKit
set_option linter.unusedVariables false
theorem and128 : ∀ x : By, bits .and .u8 (x.toNat : Int) 128 = if 128 ≤ x.toNat then 128 else 0 := by decide +kernel
theorem anot128 : ∀ x : By, 128 ≤ x.toNat → bits .andNot .u8 (x.toNat : Int) 128 = (x.toNat : Int) - 128 := by decide +kernel
def binA (b : List By) : Value := .tuple #[.int .i64 (binN b), .int .i64 (binE b : Nat)]
theorem binA_of (b : List By) (n : Int) (e : Nat) (h1 : binN b = n) (h2 : binE b = e) : binA b = .tuple #[.int .i64 n, .int .i64 (e : Nat)] := by unfold binA; rw [h1, h2]
theorem binA_no (b : List By) (h : isB b = false) : binA b = .tuple #[.int .i64 0, .int .i64 120] := binA_of b 0 120 (by unfold binN; rw [h]; rfl) (by unfold binE; rw [h]; rfl)
theorem binA_big (b : List By) (h : isB b = true) (h2 : inI (binV b) = false) : binA b = .tuple #[.int .i64 0, .int .i64 121] := binA_of b 0 121 (by unfold binN; rw [h, h2]; rfl) (by unfold binE; rw [h, h2]; rfl)
theorem binA_ok (b : List By) (h : isB b = true) (h2 : inI (binV b) = true) : binA b = .tuple #[.int .i64 (binV b), .int .i64 0] := binA_of b (binV b) 0 (by unfold binN; rw [h, h2]; rfl) (by unfold binE; rw [h, h2]; rfl)
theorem inI_iff (n : Int) : inI n = true ↔ (-9223372036854775808 ≤ n ∧ n ≤ 9223372036854775807) := by unfold inI; simp
theorem vb_take (n : Int) (l : List By) (I : Nat) (h : I < l.length) : vb n (l.take (I + 1)) = vb n (l.take I) * 256 + (l[I].toNat : Int) := by
  rw [take_snoc l I h, vb_app, vb_cons]; rfl
set_option maxHeartbeats 8000000 in
set_option maxRecDepth 100000 in
theorem binary_any {X : Nat → Prop} (w : World) (a : Option Addr) (n c : Nat) (b : List By) (hb : Sl X (.slice a n c) b w) :
    Calls Tryd.prog 57 #[.slice a n c] w fun e w' => e = .returned (binA b) ∧ w = w' := by
  obtain ⟨P, hP⟩ : ∃ P : Ending → World → Prop, P = fun e w' => e = .returned (binA b) ∧ w = w' := ⟨_, rfl⟩
  rw [← hP]
  have HF : Hid (P (.returned (binA b)) w) := by rw [hP]; exact ⟨rfl, rfl⟩
  clear hP
  obtain ⟨hbn, k1, k2⟩ := sl_len hb
  by_cases h2 : (n : Int) < 2
  · rw [binA_no b (decide_eq_false (by rw [hbn]; omega))] at HF
    have d2 : decide ((n : Int) < 2) = true := decide_eq_true h2
    clear hb hbn
    go_enter Tryd.func57, Tryd.ntmps57
    go_wp2_with fail
    exact HF.out
  · have d2 : decide ((n : Int) < 2) = false := decide_eq_false h2
    cases b with
    | nil => simp at hbn; omega
    | cons x l =>
      obtain ⟨g, o, rfl, hn, hc, _, x0, _, hs2⟩ := sl_cons hb
      have hS := hs2 (by omega)
      by_cases hx : 128 ≤ x.toNat
      · have e1 := and128 x
        rw [if_pos hx] at e1
        have e2 := anot128 x hx
        have hB : isB (x :: l) = true := decide_eq_true ⟨by rw [hbn]; omega, hx⟩
        obtain ⟨m, rfl⟩ : ∃ m, n = m + 1 := ⟨n - 1, by omega⟩
        rw [Nat.add_sub_cancel] at hS
        have HR : Hid (∀ I, (hI : I < l.length) → w.cell? ⟨g, o + 1 + I, none⟩ = some (.int .u8 l[I].toNat)) := fun I hI => by
          rcases hS with ⟨_, e, e2⟩ | ⟨g, _, o, _, e, e1, e2, hr⟩
          · rw [e2] at hI; simp at hI
          · injection e with e _ ec
            injection e with e
            injection e with ea eo
            rw [ea, eo]
            exact hr I hI
        obtain ⟨f, hf⟩ : ∃ f, fb x = f := ⟨_, rfl⟩
        obtain ⟨hf1, hf2⟩ := fb_range x hx
        rw [hf] at hf1 hf2
        have hfe : f = if (x.toNat : Int) - 128 > 63 then (x.toNat : Int) - 256 else (x.toNat : Int) - 128 := hf.symm
        have HD : Hid (isB (x :: l) = true ∧ l.length = m ∧ binV (x :: l) = vb f l) := ⟨hB, by omega, by rw [← hf]; rfl⟩
        have hx255 := x.isLt
        have hc1 : 1 < c := by omega
        have hc1' : ¬ c = 1 := by omega
        clear hb hn hs2 hS hB hbn hf
        generalize x.toNat = xx at *
        go_enter Tryd.func57, Tryd.ntmps57
        go_upto_if 23 with fail
        go_cut [4] from 23 to 25 (fun v wx => v = .int .i64 f ∧ wx = w)
        case first =>
          by_cases h63 : (63 : Int) < (xx : Int) - 128
          · have hfx : f = (xx : Int) - 128 + -128 := by rw [hfe, if_pos (by omega)]; omega
            clear HF HR HD hfe
            subst hfx
            go_wp2_with fail
            go_meet
            refine ⟨?_, ?_⟩ <;> first | rfl | (congr 1; omega) | trace_state
          · have hfx : f = (xx : Int) - 128 := by rw [hfe, if_neg (by omega)]
            clear HF HR HD hfe
            subst hfx
            go_wp2_with fail
            go_meet
            exact ⟨rfl, rfl⟩
        case rest =>
        obtain ⟨rfl, hw⟩ := hcut
        have hw' := hw.symm
        subst hw'
        clear hw hfe e1 e2 x0 d2 h2 hx hx255
        go_wp2_with fail
        go_loopg [4, 29] m (fun kx v i wr => ∃ (I : Nat) (N : Int), I ≤ m ∧ m - I ≤ kx ∧ i = .int .i64 I ∧ v = .int .i64 N ∧ -9223372036854775808 ≤ N ∧ N ≤ 9223372036854775807 ∧ wr = w ∧ Hid (N = vb f (l.take I)))
        case atStart => exact ⟨0, f, by omega, by omega, rfl, rfl, by omega, by omega, rfl, rfl⟩
        case round =>
          obtain ⟨I, N, hI, hkx, rfl, rfl, hN1, hN2, rfl, HV⟩ := hrel
          obtain ⟨hB, hlm, hbv⟩ := HD.out
          by_cases hlt : I < m
          · have hlt' : I < l.length := by omega
            have hcell := HR.out I hlt'
            have hsn := vb_take f l I hlt'
            rw [← HV.out] at hsn
            have hy := l[I].isLt
            by_cases hfit : -36028797018963968 ≤ N ∧ N ≤ 36028797018963967
            · have hor := i64_or 8 N (l[I].toNat : Int) (by omega) (by omega) (by omega) (by omega) (by omega)
              rw [show (2 : Int) ^ 8 = 256 from rfl] at hor
              have hdiv : N * 256 / 256 = N := by omega
              obtain ⟨N2, hN2'⟩ : ∃ N2, N * 256 + (l[I].toNat : Int) = N2 := ⟨_, rfl⟩
              rw [hN2'] at hor hsn
              have HV2 : Hid (N2 = vb f (l.take (I + 1))) := hsn.symm
              have b1 : -9223372036854775808 ≤ N2 := by omega
              have b2 : N2 ≤ 9223372036854775807 := by omega
              obtain ⟨hf3, hf4⟩ := hfit
              have hself : (N == N) = true := by simp
              clear HF HR HD HV hsn hB hlm hbv hN2'
              generalize l[I].toNat = y at *
              go_wp2_with fail
              go_roundg (m - (I + 1))
              case measure => omega
              case rel => exact ⟨I + 1, N2, by omega, by omega, by first | rfl | (congr 1), rfl, b1, b2, rfl, HV2⟩
            · have hout : inI (N * 256 + (l[I].toNat : Int)) = false := by
                unfold inI; exact decide_eq_false (by omega)
              have hbad : inI (binV (x :: l)) = false := by
                rw [hbv, ← List.take_append_drop (I + 1) l, vb_app, hsn]
                exact vb_out _ _ hout
              rw [binA_big _ hB hbad] at HF
              have hq2 : (wrap64 (N * 256) / 256 != N) = true := by rw [bne_iff_ne]; unfold wrap64; omega
              clear HR HD HV hsn hB hlm hbv hbad hout
              generalize l[I].toNat = y at *
              go_wp2_with fail
              exact HF.out
          · have hNv : N = binV (x :: l) := by
              rw [hbv, HV.out, List.take_of_length_le (by omega)]
            rw [binA_ok _ hB (by rw [inI_iff, ← hNv]; exact ⟨hN1, hN2⟩), ← hNv] at HF
            clear HR HD HV hB hlm hbv hNv
            go_wp2_with fail
            exact HF.out
      · have e1 := and128 x
        rw [if_neg hx] at e1
        rw [binA_no _ (decide_eq_false (fun h => hx (h : _ ∧ 128 ≤ x.toNat).2))] at HF
        clear hb hn hs2 hS hbn
        generalize x.toNat = xx at *
        go_enter Tryd.func57, Tryd.ntmps57
        go_wp2_with fail
        exact HF.out
end Go.Proofs.YtffhpoilifgcdaaDoor

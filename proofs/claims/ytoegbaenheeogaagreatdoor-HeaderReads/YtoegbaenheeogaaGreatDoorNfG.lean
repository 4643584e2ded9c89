import Derived.Test.YtoegbaenheeogaaGreatDoorNfF
namespace Go.Proofs.YtoegbaenheeogaaGreatDoor
open Go.RowKit
set_option linter.unusedVariables false
theorem mx_eq : mx = 9223372036854775807 := by unfold mx; rfl
/-- n * 2^k or d, d below 2^k. -/
theorem i64_or (k : Nat) (n d : Int) (hk : k ≤ 8) (hd : 0 ≤ d) (hd2 : d < 2 ^ k) (h1 : -9223372036854775808 ≤ n * 2 ^ k + d) (h2 : n * 2 ^ k + d ≤ 9223372036854775807) : bits .or .i64 (n * 2 ^ k) d = n * 2 ^ k + d := by
  obtain ⟨D, rfl⟩ := Int.eq_ofNat_of_zero_le hd
  have hp : (2 : Int) ^ k = ((2 ^ k : Nat) : Int) := by norm_cast
  have hp2 : 2 ^ k ≤ 2 ^ 8 := Nat.pow_le_pow_right (by decide) hk
  have hpos : 0 < 2 ^ k := Nat.pow_pos (by decide)
  have hdiv : 2 ^ 64 = 2 ^ k * 2 ^ (64 - k) := by rw [← Nat.pow_add]; congr 1; omega
  show IntKind.i64.wrap ((BitVec.ofInt 64 (n * 2 ^ k) ||| BitVec.ofInt 64 (D : Int)).toNat : Nat) = _
  rw [BitVec.toNat_or, BitVec.toNat_ofInt, BitVec.toNat_ofInt]
  have eD : ((D : Int) % ((2 ^ 64 : Nat) : Int)).toNat = D := by
    rw [hp] at hd2
    omega
  rw [eD]
  have eN : ((n * 2 ^ k) % ((2 ^ 64 : Nat) : Int)).toNat = 2 ^ k * ((n % ((2 ^ (64 - k) : Nat) : Int)).toNat) := by
    rw [hdiv, hp]
    push_cast
    rw [Int.mul_comm n, Int.mul_emod_mul_of_pos _ _ (by rw [hp]; omega)]
    have : 0 ≤ n % (2 : Int) ^ (64 - k) := Int.emod_nonneg _ (by have : (0 : Int) < 2 ^ (64 - k) := Int.pow_pos (by decide); omega)
    obtain ⟨z, hz⟩ := Int.eq_ofNat_of_zero_le this
    rw [hz, hp]
    norm_cast
  rw [eN, nat_join k _ _ (Nat.mul_mod_right _ _) (by rw [hp] at hd2; omega), ← eN, IntKind.wrap_i64]
  clear eN eD hdiv hd2 hp2 hpos hp hd
  generalize n * 2 ^ k = m at *
  have e : (((m % ((2 ^ 64 : Nat) : Int)).toNat + D : Nat) : Int) = m % 18446744073709551616 + (D : Int) := by omega
  rw [e]
  omega
theorem oct_or (N d : Nat) (hN : N ≤ 1152921504606846975) (hd : d < 8) : bits .or .i64 ((N : Int) * 8) (d : Int) = ((8 * N + d : Nat) : Int) := by
  have := i64_or 3 (N : Int) (d : Int) (by omega) (by omega) (by omega) (by omega) (by omega)
  rw [show (2 : Int) ^ 3 = 8 from rfl] at this
  rw [this]; omega
/-- What Octal answers. -/
def octV (b : List By) : Value := .tuple #[.int .i64 (octN b : Nat), .int .i64 (octE b : Nat)]
theorem octV_of (b : List By) (n e : Nat) (h1 : octN b = n) (h2 : octE b = e) : octV b = .tuple #[.int .i64 (n : Nat), .int .i64 (e : Nat)] := by unfold octV; rw [h1, h2]
set_option maxHeartbeats 8000000 in
set_option maxRecDepth 100000 in
theorem octal_any {X : Nat → Prop} (w : World) (a : Option Addr) (n c : Nat) (b : List By) (hb : Sl X (.slice a n c) b w) :
    Calls Tryz.prog 29 #[.slice a n c] w fun e w' => e = .returned (octV b) ∧ Nw w w' := by
  obtain ⟨P, hP⟩ : ∃ P : Ending → World → Prop, P = fun e w' => e = .returned (octV b) ∧ Nw w w' := ⟨_, rfl⟩
  rw [← hP]
  have HF : Hid (∀ W, Nw w W → P (.returned (octV b)) W) := fun W hW => by rw [hP]; exact ⟨rfl, hW⟩
  clear hP
  have HL := tHid (triml_any w a n c b hb)
  have HR : Hid (∀ a' n' c', Sl X (.slice a' n' c') (b.dropWhile isBl) w → Calls Tryz.prog 54 #[.slice a' n' c', .string ⟨#[32, 0]⟩] w fun e w' => ∃ M : Nat, e = .returned (.slice a' M c') ∧ Hid (Nw w w' ∧ Sl X (.slice a' M c') (trR (b.dropWhile isBl)) w' ∧ M ≤ c' ∧ c' < 9223372036854775808)) := fun a' n' c' h => by
    refine (trimr2_any w a' n' c' _ h).mono ?_
    rintro e w' ⟨M, rfl, H1, H2⟩
    have q := sl_take (h.nw H2.out) M H1.out.1
    rw [H1.out.2] at q
    exact ⟨M, rfl, H2.out, q, (sl_len q).2⟩
  obtain ⟨_, k1, k2⟩ := sl_len hb
  clear hb
  go_enter Tryz.func29, Tryz.ntmps29
  go_upto_region 2 with (first
    | (go_at_call 55; with_reducible refine HL.out.mono ?_; rintro e w1 ⟨a', n', c', rfl, H1, rfl⟩)
    | (go_at_call 54; with_reducible refine (HR.out _ _ _ H1.out).mono ?_; rintro e w2 ⟨M, rfl, H2⟩))
  obtain ⟨hN, hS, hc1, hc2⟩ := H2.out
  have HC := tHid (containsFB_any w2 a' M c' _ hS)
  clear HL HR H1
  cases hr : (rst b).all isBz with
  | false =>
    have hn := trR_not b hr
    rw [hn] at HC
    have hv := octV_of b 0 120 (by unfold octN; rw [hr]; rfl) (by unfold octE; rw [hr]; rfl)
    have HF2 := tHid (HF.out w2 hN)
    rw [hv] at HF2
    clear HF hN hS hr hn hv H2
    go_wp2_with (first | (go_at_call 56; with_reducible refine HC.out.mono ?_; rintro e w3 ⟨rfl, rfl⟩))
    exact HF2.out
  | true =>
    have hn := trR_is b hr
    rw [hn] at HC hS
    rw [dgs_all b] at HC
    have hbn := (sl_len hS).1
    have HR : Hid (∀ I, (hI : I < (dgs b).length) → ∃ g o, a' = some ⟨g, o, none⟩ ∧ w2.cell? ⟨g, o + I, none⟩ = some (.int .u8 (dgs b)[I].toNat)) := fun I hI => by
      rcases hS with ⟨_, e, e2⟩ | ⟨g, _, o, _, e, e1, e2, hr⟩
      · rw [e2] at hI; simp at hI
      · injection e with e _ ec
        exact ⟨g, o, e, hr I hI⟩
    have HD := tHid (And.intro (dgs_all b) (And.intro hbn (And.intro hr hN)))
    clear hS hr hn H2 hbn hN
    go_wp2_with (first | (go_at_call 56; with_reducible refine HC.out.mono ?_; rintro e w3 ⟨rfl, rfl⟩))
    go_loopg [5, 15] M (fun kx v i wr => ∃ (I N : Nat), I ≤ M ∧ M - I ≤ kx ∧ i = .int .i64 I ∧ v = .int .i64 N ∧ N ≤ 9223372036854775807 ∧ wr = w2 ∧ Hid (N = v8 0 ((dgs b).take I)))
    case atStart => exact ⟨0, 0, by omega, by omega, rfl, rfl, by omega, rfl, rfl⟩
    case round =>
      obtain ⟨I, N, hI, hkx, rfl, rfl, hN9, rfl, HV⟩ := hrel
      obtain ⟨hall, hbn, hr, hN⟩ := HD.out
      by_cases hlt : I < M
      · have hlt' : I < (dgs b).length := by omega
        obtain ⟨g, o, rfl, hcell⟩ := HR.out I hlt'
        have hdig := List.all_eq_true.1 hall _ (List.getElem_mem hlt')
        have hd2 := of_decide_eq_true hdig
        have hsn : v8 0 ((dgs b).take (I + 1)) = 8 * N + ((dgs b)[I].toNat - 48) := by
          rw [take_snoc _ _ hlt', v8_app, ← HV.out, v8_cons, v8_nil]
        by_cases hbig : (1152921504606846975 : Int) < (N : Int)
        · have hno : ¬ v8 0 (dgs b) ≤ mx := by
            have h9 := v8_ge (v8 0 ((dgs b).take (I + 1))) ((dgs b).drop (I + 1))
            rw [← v8_app, List.take_append_drop, hsn] at h9
            rw [mx_eq]; omega
          have hv := octV_of b 0 121 (by unfold octN; rw [hr, if_pos rfl, if_neg hno]) (by unfold octE; rw [hr, if_pos rfl, if_neg hno])
          have HF2 := tHid (HF.out wr hN)
          rw [hv] at HF2
          clear HF HR HD HV hall hbn hr hN hdig hd2 hsn hno hv HC
          generalize (dgs b)[I].toNat = x at *
          go_wp2_with fail
          exact HF2.out
        · obtain ⟨d, hd⟩ : ∃ d, (dgs b)[I].toNat = 48 + d := ⟨(dgs b)[I].toNat - 48, by omega⟩
          rw [hd] at hcell hsn hd2
          have hor := oct_or N d (by omega) (by omega)
          have HV2 : Hid (8 * N + d = v8 0 ((dgs b).take (I + 1))) := by show _ = _; rw [hsn]; omega
          obtain ⟨N2, hN2⟩ : ∃ N2, 8 * N + d = N2 := ⟨_, rfl⟩
          rw [hN2] at hor HV2
          have hN29 : N2 ≤ 9223372036854775807 := by omega
          have hd8 : (d : Int) < 8 := by omega
          obtain ⟨y, hy⟩ : ∃ y, y = 48 + d := ⟨_, rfl⟩
          rw [← hy] at hcell
          have hyd : (y : Int) - 48 = (d : Int) := by omega
          have hy1 : (48 : Int) ≤ (y : Int) := by omega
          have hy2 : (y : Int) ≤ 55 := by omega
          clear HF HR HD HV hall hbn hr hN hdig hsn HC hd hd2 hN2 hy
          go_wp2_with fail
          go_roundg (M - (I + 1))
          case measure => omega
          case rel => exact ⟨I + 1, N2, by omega, by omega, by first | rfl | (congr 1), by first | rfl | (rw [hor]), hN29, rfl, HV2⟩
      · have hN0 : N = v8 0 (dgs b) := by
          have := HV.out
          rw [List.take_of_length_le (by omega)] at this
          exact this
        have hyes : v8 0 (dgs b) ≤ mx := by rw [mx_eq, ← hN0]; exact hN9
        have hv := octV_of b N 0 (by unfold octN; rw [hr, if_pos rfl, if_pos hyes, hN0]) (by unfold octE; rw [hr, if_pos rfl, if_pos hyes])
        have HF2 := tHid (HF.out wr hN)
        rw [hv] at HF2
        clear HF HR HD HV hall hbn hr hN HC hv hN0 hyes
        go_wp2_with fail
        exact HF2.out
end Go.Proofs.YtoegbaenheeogaaGreatDoor

import Derived.Test.YtiinalgflmgnaaaNgI
namespace Go.Proofs.Ytiinalgflmgnaaa
open Go.RowKit
set_option linter.unusedVariables false
/-! ### The document's PutBinary -/
theorem mod256 (x : Int) : x % 18446744073709551616 % 256 = x % 256 := by omega
theorem ushift (x : Int) (h1 : -9223372036854775808 ≤ x) (h2 : x ≤ 9223372036854775807) : (0 ≤ x → x % 18446744073709551616 / 256 = (x / 256) % 18446744073709551616) ∧ (x < 0 → x % 18446744073709551616 / 256 + 18374686479671623680 = (x / 256) % 18446744073709551616) := by
  constructor
  · intro h; omega
  · intro h; omega
theorem div_sign (n : Int) (j : Nat) : (0 ≤ n → 0 ≤ n / 256 ^ j) ∧ (n < 0 → n / 256 ^ j < 0) := by
  induction j with
  | zero => simp
  | succ j ih => rw [← div_succ]; constructor <;> intro h
                 · have := ih.1 h; omega
                 · have := ih.2 h; omega
/-- The first byte as it is laid. -/
def fst (n : Int) (k : Nat) : By := if 0 ≤ n ∧ (lb (n / 256 ^ k)).toNat < 64 then lb (n / 256 ^ k) + 128#8 else lb (n / 256 ^ k)
def outB (n : Int) (k : Nat) : List By := fst n k :: bl n k
theorem outB_fits (n : Int) (k : Nat) (h : fits n k = true) : outB n k = bfd n k := by
  obtain ⟨h1, h2⟩ := of_decide_eq_true h
  unfold outB bfd
  congr 1
  have hs := div_sign n k
  have hl := lb_toNat (n / 256 ^ k)
  have hh := hb_toNat (n / 256 ^ k) h1 h2
  unfold fst
  apply BitVec.eq_of_toNat_eq
  generalize hz : n / 256 ^ k = z at *
  by_cases hn : 0 ≤ n
  · have := hs.1 hn
    rw [if_neg (by omega)] at hh
    rw [if_pos ⟨hn, by omega⟩, BitVec.toNat_add]
    have e : (128#8 : By).toNat = 128 := rfl
    omega
  · have := hs.2 (by omega)
    rw [if_pos (by omega)] at hh
    rw [if_neg (fun h => hn h.1)]
    omega
theorem outB_no (n : Int) (k : Nat) (h : fits n k = false) : binE (outB n k) ≠ 0 ∨ binN (outB n k) ≠ n := by
  by_cases he : binE (outB n k) = 0
  · right
    intro hn
    unfold binE at he
    split at he
    · rename_i hB
      split at he
      · rename_i hI
        have hx := (of_decide_eq_true hB).2
        obtain ⟨q1, _⟩ := bfd_binV (fst n k) (bl n k) hx
        have e : binV (fst n k :: bl n k) = n := by
          have : binN (outB n k) = binV (outB n k) := by unfold binN; rw [if_pos hB, if_pos hI]
          rw [hn] at this
          exact this.symm
        rw [e, bl_length, h] at q1
        cases q1
      · cases he
    · cases he
  · exact .inl he
theorem outB_ok (n : Int) (k : Nat) (hk : 0 < k) (h1 : -9223372036854775808 ≤ n) (h2 : n ≤ 9223372036854775807) (h : fits n k = true) : binE (outB n k) = 0 ∧ binN (outB n k) = n := by
  rw [outB_fits n k h]
  obtain ⟨q1, q2⟩ := binV_bfd n k h
  have hB := q2 hk
  have hI : inI (binV (bfd n k)) = true := by rw [q1, inI_iff]; exact ⟨h1, h2⟩
  unfold binE binN
  rw [if_pos hB, if_pos hI, if_pos hB, if_pos hI, q1]
  exact ⟨rfl, rfl⟩
theorem bl_set2 (n : Int) (k j : Nat) (h : j ≤ k) : (List.replicate (k + 1 - j) 0#8 ++ bl n j).set (k - j) (lb (n / 256 ^ j)) = List.replicate (k + 1 - (j + 1)) 0#8 ++ bl n (j + 1) := by
  have e1 : k + 1 - j = (k - j) + 1 := by omega
  have e2 : k + 1 - (j + 1) = k - j := by omega
  rw [e1, e2, List.replicate_succ', List.append_assoc, List.singleton_append, bl]
  have := set_mid 0#8 (lb (n / 256 ^ j)) (List.replicate (k - j) 0#8) (bl n j)
  rw [List.length_replicate] at this
  exact this
set_option maxHeartbeats 8000000 in
set_option maxRecDepth 100000 in
theorem rputBinary_any (n d : Int) (w : World) (hn1 : -9223372036854775808 ≤ n) (hn2 : n ≤ 9223372036854775807) :
    Calls Try.prog 7 #[.int .i64 n, .int .i64 d] w (PutA (pbE n d) (pbL n d) w) := by
  obtain ⟨P, hP⟩ : ∃ P : Ending → World → Prop, P = PutA (pbE n d) (pbL n d) w := ⟨_, rfl⟩
  rw [← hP]
  have HC := tHid (rwidth_any d w)
  by_cases hd : 2 ≤ d ∧ d ≤ 512
  · rw [decide_eq_true hd] at HC
    obtain ⟨k, rfl⟩ : ∃ k : Nat, d = (k : Int) + 1 := ⟨(d - 1).toNat, by omega⟩
    obtain ⟨hd1, hd2⟩ := hd
    have hdk : ((k : Int) + 1).toNat - 1 = k := by omega
    obtain ⟨W0, hmk, hO, hN⟩ := makeB (k + 1) (by omega) w
    have hmk2 : (Instr.makeSlice 22 (.int .i64 ((k : Int) + 1)) (.int .i64 ((k : Int) + 1))).run Try.prog w = .ok (.slice (some ⟨w.heap.size, 0, none⟩) (k + 1) (k + 1)) W0 := hmk
    have HBAD : Hid (fits n k = false → ∀ W, Nw w W → P (.returned (.tuple #[.slice none 0 0, .int .i64 122])) W) := fun h W hW => by
      have hE : pbE n ((k : Int) + 1) = 122 := by unfold pbE; rw [if_pos ⟨hd1, hd2⟩, hdk, h]; rfl
      rw [hP, hE]; exact ⟨none, 0, 0, rfl, hW, .inl ⟨by decide, rfl, rfl, rfl⟩⟩
    have HOK : Hid (fits n k = true → ∀ W, Nw w W → Ow w.heap.size (.slice (some ⟨w.heap.size, 0, none⟩) (k + 1) (k + 1)) (outB n k) W → P (.returned (.tuple #[.slice (some ⟨w.heap.size, 0, none⟩) (k + 1) (k + 1), .int .i64 0])) W) := fun h W hW hOW => by
      have hE : pbE n ((k : Int) + 1) = 0 := by unfold pbE; rw [if_pos ⟨hd1, hd2⟩, hdk, h]; rfl
      rw [hP, hE]
      refine ⟨_, _, _, rfl, hW, .inr ⟨rfl, w.heap.size, Nat.le_refl _, ?_⟩⟩
      unfold pbL
      rw [hdk, ← outB_fits n k h]
      exact hOW
    have HST : Hid (Ow w.heap.size (.slice (some ⟨w.heap.size, 0, none⟩) (k + 1) (k + 1)) (List.replicate (k + 1 - 0) 0#8 ++ bl n 0) W0 ∧ Nw w W0) := by
      refine ⟨?_, hN⟩
      have : List.replicate (k + 1 - 0) 0#8 ++ bl n 0 = List.replicate (k + 1) 0#8 := List.append_nil _
      rw [this]; exact hO
    have HRB : Hid (∀ V, Ow w.heap.size (.slice (some ⟨w.heap.size, 0, none⟩) (k + 1) (k + 1)) (outB n k) V → Calls Try.prog 15 #[.slice (some ⟨w.heap.size, 0, none⟩) (k + 1) (k + 1)] V fun e w' => e = .returned (.tuple #[.int .i64 (binN (outB n k)), .int .i64 (binE (outB n k) : Nat)]) ∧ Hid (Nw V w')) := fun V hV => rbinary_any V _ _ _ _ hV.old (by omega)
    have hk0 : 0 < k := by omega
    generalize hG : w.heap.size = G at *
    have HG := tHid hG
    have hu0 : IntKind.u64.wrap n = n % 18446744073709551616 := IntKind.wrap_u64 n
    clear hP hmk hO hN hdk hG
    go_enter Try.func7, Try.ntmps7
    go_upto_block 0 with (first | (go_at_call 14; with_reducible refine HC.out.mono ?_; rintro e w1 ⟨rfl, rfl⟩))
    go_cut [7, 8] from 20 to 34 (fun v7 v8 wx => Hid (Ow G (.slice (some ⟨G, 0, none⟩) (k + 1) (k + 1)) (lb (n / 256 ^ k) :: bl n k) wx ∧ Nw w wx))
    case first =>
      clear HBAD HOK HRB
      go_wp2_with fail
      go_loopg [7, 8] (k + 1) (fun kx v7 v8 wr => ∃ (j U : Nat), j ≤ k + 1 ∧ k + 1 ≤ j + kx ∧ v7 = .int .u64 (U : Nat) ∧ v8 = .int .i64 ((k : Int) - (j : Int)) ∧ U < 18446744073709551616 ∧ Hid ((U : Int) = n / 256 ^ j % 18446744073709551616 ∧ Ow G (.slice (some ⟨G, 0, none⟩) (k + 1) (k + 1)) (List.replicate (k + 1 - j) 0#8 ++ bl n j) wr ∧ Nw w wr))
      case atStart =>
        obtain ⟨U0, hU0⟩ : ∃ U0 : Nat, n % 18446744073709551616 = (U0 : Int) := ⟨(n % 18446744073709551616).toNat, by omega⟩
        refine ⟨0, U0, by omega, by omega, ?_, ?_, by omega, ?_, HST.out⟩
        · rw [hU0]
        · first | rfl | (congr 1; omega) | congr 1
        · rw [← hU0]; simp
      case round =>
        obtain ⟨j, U, hj, hkx, rfl, rfl, hUb, HI⟩ := hrel
        obtain ⟨hU, hO, hN⟩ := HI.out
        have hlen : (List.replicate (k + 1 - j) 0#8 ++ bl n j).length = k + 1 := by
          rw [List.length_append, List.length_replicate, bl_length]; omega
        obtain ⟨hr1, hr2⟩ := div_rng n hn1 hn2 j
        by_cases hlt : j ≤ k
        · obtain ⟨I, hI⟩ : ∃ I, k - j = I := ⟨_, rfl⟩
          have hIe : (k : Int) - (j : Int) = (I : Int) := by omega
          obtain ⟨cv, hc1, hc2⟩ : ∃ cv, wr.cell? ⟨G, I, none⟩ = some (.int .u8 cv) ∧ wr.frozen? ⟨G, I, none⟩ = false := ⟨_, hO.at I (by rw [hlen]; omega)⟩
          have hb := hO.put I (by rw [hlen]; omega) (lb (n / 256 ^ j)) ((U : Int) % 256) (by rw [lb_toNat, hU, mod256])
          rw [← hI, bl_set2 n k j hlt] at hb
          have hdv := div_succ n j
          have hsg := div_sign n j
          obtain ⟨s1, s2⟩ := ushift (n / 256 ^ j) hr1 hr2
          have HNX : Hid (Ow G (.slice (some ⟨G, 0, none⟩) (k + 1) (k + 1)) (List.replicate (k + 1 - (j + 1)) 0#8 ++ bl n (j + 1)) (wr.setCell ⟨G, I, none⟩ (.int .u8 ((U : Int) % 256))) ∧ Nw w (wr.setCell ⟨G, I, none⟩ (.int .u8 ((U : Int) % 256)))) := by
            rw [hI] at hb
            exact ⟨hb, hN.setCell _ _ (.inr (by rw [HG.out]; exact Nat.le_refl _))⟩
          have hI0 : (0 : Int) ≤ (I : Int) := by omega
          have hI2 : (I : Int) < (k : Int) + 1 := by omega
          have hI3 : I < k + 1 := by omega
          have HKJ := tHid hI
          rw [← hU, hdv] at s1 s2
          have HDR := tHid (div_rng n hn1 hn2 (j + 1))
          rw [hIe]
          by_cases hsn : n < 0
          · obtain ⟨U2, hU2⟩ : ∃ U2 : Nat, U / 256 + 18374686479671623680 = U2 := ⟨_, rfl⟩
            have hs := s2 (hsg.2 hsn)
            have HU2 : Hid ((U2 : Int) = n / 256 ^ (j + 1) % 18446744073709551616) := by rw [← hs]; show (U2 : Int) = _; omega
            have hU3 : (U : Int) / 256 + 18374686479671623680 = (U2 : Int) := by omega
            have hU4 : U2 < 18446744073709551616 := by omega
            have d1 : decide (n < 0) = true := decide_eq_true hsn
            clear HI HST hU hO hN hlen hb hdv hsg s1 s2 hI hU2 hs HDR HG
            generalize n / 256 ^ j = M at *
            go_wp2_with fail
            go_roundg (k - j)
            case measure => omega
            case rel => exact ⟨j + 1, U2, by omega, by omega, by first | rfl | (rw [hU3]), by congr 1; omega, hU4, HU2.out, HNX.out⟩
          · obtain ⟨U2, hU2⟩ : ∃ U2 : Nat, U / 256 = U2 := ⟨_, rfl⟩
            have hs := s1 (hsg.1 (by omega))
            have HU2 : Hid ((U2 : Int) = n / 256 ^ (j + 1) % 18446744073709551616) := by rw [← hs]; show (U2 : Int) = _; omega
            have hU3 : (U : Int) / 256 = (U2 : Int) := by omega
            have hU4 : U2 < 18446744073709551616 := by omega
            have d1 : decide (n < 0) = false := decide_eq_false hsn
            clear HI HST hU hO hN hlen hb hdv hsg s1 s2 hI hU2 hs HDR HG
            generalize n / 256 ^ j = M at *
            go_wp2_with fail
            go_roundg (k - j)
            case measure => omega
            case rel => exact ⟨j + 1, U2, by omega, by omega, by first | rfl | (rw [hU3]), by congr 1; omega, hU4, HU2.out, HNX.out⟩
        · obtain rfl : j = k + 1 := by omega
          have e0 : k + 1 - (k + 1) = 0 := by omega
          rw [e0, List.replicate_zero, List.nil_append] at hO
          have HM : Hid (Ow G (.slice (some ⟨G, 0, none⟩) (k + 1) (k + 1)) (lb (n / 256 ^ k) :: bl n k) wr ∧ Nw w wr) := ⟨hO, hN⟩
          have hneg : (k : Int) - ((k + 1 : Nat) : Int) = -1 := by omega
          rw [hneg]
          clear HI HST hU hO hN hlen hr1 hr2 HG
          go_wp2_with fail
          go_meet
          exact HM
    case rest =>
    obtain ⟨W2, hW2⟩ : ∃ z, z = wc := ⟨_, rfl⟩
    subst hW2
    obtain ⟨hO2, hN2⟩ := hcut.out
    clear HST hcut
    obtain ⟨z0, hz0⟩ : ∃ z0, (lb (n / 256 ^ k)).toNat = z0 := ⟨_, rfl⟩
    have hzl := (lb (n / 256 ^ k)).isLt
    rw [hz0] at hzl
    have hlen2 : (lb (n / 256 ^ k) :: bl n k).length = k + 1 := by rw [List.length_cons, bl_length]
    obtain ⟨hc1, hc2⟩ : W2.cell? ⟨G, 0, none⟩ = some (.int .u8 z0) ∧ W2.frozen? ⟨G, 0, none⟩ = false := by
      have := hO2.at 0 (by omega)
      rw [← hz0]; exact this
    go_upto_region 12 with fail
    go_cut [42] (fun v wx => v = .bool (decide (0 ≤ n ∧ z0 < 64)) ∧ wx = W2)
    case first =>
      clear HBAD HOK HRB hO2 hN2 hz0
      by_cases g1 : 0 ≤ n
      · have d1 : decide (0 ≤ n) = true := decide_eq_true g1
        by_cases g2 : (z0 : Int) < 64
        · have d2 : decide ((z0 : Int) < 64) = true := decide_eq_true g2
          have d3 : decide (z0 < 64) = true := decide_eq_true (by omega)
          have HX : Hid (decide (0 ≤ n ∧ z0 < 64) = true) := decide_eq_true ⟨g1, by omega⟩
          go_wp2_with fail
          go_meet
          exact ⟨by rw [HX.out], rfl⟩
        · have d2 : decide ((z0 : Int) < 64) = false := decide_eq_false g2
          have d3 : decide (z0 < 64) = false := decide_eq_false (by omega)
          have HX : Hid (decide (0 ≤ n ∧ z0 < 64) = false) := decide_eq_false (fun h => by have := h.2; omega)
          go_wp2_with fail
          go_meet
          exact ⟨by rw [HX.out], rfl⟩
      · have d1 : decide (0 ≤ n) = false := decide_eq_false g1
        have HX : Hid (decide (0 ≤ n ∧ z0 < 64) = false) := decide_eq_false (fun h => g1 h.1)
        go_wp2_with fail
        go_meet
        exact ⟨by rw [HX.out], rfl⟩
    case rest =>
    obtain ⟨rfl, hw⟩ := hcut
    have hw' := hw.symm
    subst hw'
    clear hw
    obtain ⟨B, hB⟩ : ∃ B, decide (0 ≤ n ∧ z0 < 64) = B := ⟨_, rfl⟩
    have HBB := tHid hB
    rw [hB]
    clear hB
    go_upto_if 42 with fail
    go_cut [42] from 42 to 48 (fun v wx => Hid (Ow G (.slice (some ⟨G, 0, none⟩) (k + 1) (k + 1)) (outB n k) wx ∧ Nw w wx))
    case first =>
      clear HBAD HOK HRB
      cases B with
      | true =>
        obtain ⟨g1, g2⟩ := of_decide_eq_true HBB.out
        have hput := hO2.put 0 (by omega) (lb (n / 256 ^ k) + 128#8) ((z0 : Int) + 128) (by rw [BitVec.toNat_add, hz0]; have e : (128#8 : By).toNat = 128 := rfl; omega)
        have HM : Hid (Ow G (.slice (some ⟨G, 0, none⟩) (k + 1) (k + 1)) (outB n k) (W2.setCell ⟨G, 0, none⟩ (.int .u8 ((z0 : Int) + 128))) ∧ Nw w (W2.setCell ⟨G, 0, none⟩ (.int .u8 ((z0 : Int) + 128)))) := by
          refine ⟨?_, hN2.setCell _ _ (.inr (by rw [HG.out]; exact Nat.le_refl _))⟩
          unfold outB fst
          rw [if_pos ⟨g1, by rw [hz0]; exact g2⟩]
          exact hput
        clear hO2 hN2 hz0 hput HBB HG hlen2
        go_wp2_with fail
        go_meet
        exact HM
      | false =>
        have hno := of_decide_eq_false HBB.out
        have HM : Hid (Ow G (.slice (some ⟨G, 0, none⟩) (k + 1) (k + 1)) (outB n k) W2 ∧ Nw w W2) := by
          refine ⟨?_, hN2⟩
          unfold outB fst
          rw [if_neg (by rw [hz0]; exact hno)]
          exact hO2
        clear hO2 hN2 hz0 HBB HG hno hlen2
        go_wp2_with fail
        go_meet
        exact HM
    case rest =>
    obtain ⟨W3, hW3⟩ : ∃ z, z = wc := ⟨_, rfl⟩
    subst hW3
    obtain ⟨hO3, hN3⟩ := hcut.out
    have HR3 := tHid (HRB.out W3 hO3)
    clear hcut HRB hO2 hN2 hc1 hc2 HBB hz0 hzl hlen2
    go_upto_region 15 with (first
      | (go_at_call 15; with_reducible refine HR3.out.mono ?_; rintro e w4 ⟨rfl, K4⟩))
    have hN4 := hN3.trans K4.out
    have hO4 := hO3.nw K4.out
    cases hf : fits n k with
    | true =>
      obtain ⟨q1, q2⟩ := outB_ok n k hk0 hn1 hn2 hf
      rw [q1, q2]
      have HF4 := tHid (HOK.out hf w4 hN4 hO4)
      have hnn : (n != n) = false := by simp
      clear HBAD HOK hO3 hN3 HR3 K4 hN4 hO4 hf q1 q2 HG
      go_wp2_with fail
      exact HF4.out
    | false =>
      have hno := outB_no n k hf
      have HF4 := tHid (HBAD.out hf w4 hN4)
      clear HBAD HOK hO3 hN3 HR3 K4 hN4 hO4 hf HG
      generalize binE (outB n k) = E at *
      generalize binN (outB n k) = N at *
      by_cases hE : E = 0
      · subst hE
        have hNn : N ≠ n := by
          rcases hno with h | h
          · exact absurd rfl h
          · exact h
        have hb : (N != n) = true := by simpa using hNn
        clear hno
        go_wp2_with fail
        exact HF4.out
      · have hb : ((E : Int) != 0) = true := by simp; omega
        clear hno
        go_wp2_with fail
        exact HF4.out
  · rw [decide_eq_false hd] at HC
    have hE : pbE n d = 1 := by unfold pbE; rw [if_neg hd]
    have HF : Hid (P (.returned (.tuple #[.slice none 0 0, .int .i64 1])) w) := by
      show P _ _
      rw [hP, hE]; exact ⟨none, 0, 0, rfl, Fr.refl _ _, .inl ⟨by decide, rfl, rfl, rfl⟩⟩
    clear hP
    go_enter Try.func7, Try.ntmps7
    go_wp2_with (first | (go_at_call 14; with_reducible refine HC.out.mono ?_; rintro e w1 ⟨rfl, rfl⟩))
    exact HF.out
end Go.Proofs.Ytiinalgflmgnaaa

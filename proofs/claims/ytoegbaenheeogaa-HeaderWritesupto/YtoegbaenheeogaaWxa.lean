import Derived.Test.YtoegbaenheeogaaNfM
import Derived.Test.YtoegbaenheeogaaNfV
namespace Go.Proofs.Ytoegbaenheeogaa
open Go.RowKit
set_option linter.unusedVariables false
set_option maxHeartbeats 1000000 in
set_option maxRecDepth 100000 in
theorem rwidth_any (d : Int) (w : World) : Calls Try.prog 67 #[.int .i64 d] w fun e w' => e = .returned (.bool (decide (2 ≤ d ∧ d ≤ 512))) ∧ w = w' := by
  obtain ⟨P, hP⟩ : ∃ P : Ending → World → Prop, P = fun e w' => e = .returned (.bool (decide (2 ≤ d ∧ d ≤ 512))) ∧ w = w' := ⟨_, rfl⟩
  rw [← hP]
  have HF : Hid (P (.returned (.bool (decide (2 ≤ d ∧ d ≤ 512)))) w) := by rw [hP]; exact ⟨rfl, rfl⟩
  clear hP
  by_cases h1 : (2 : Int) ≤ d
  · have d1 : decide ((2 : Int) ≤ d) = true := decide_eq_true h1
    by_cases h2 : d ≤ 512
    · rw [decide_eq_true ⟨h1, h2⟩] at HF
      have d2 : decide (d ≤ 512) = true := decide_eq_true h2
      go_enter Try.func67, Try.ntmps67
      go_wp2
      exact HF.out
    · rw [decide_eq_false (fun h => h2 h.2)] at HF
      have d2 : decide (d ≤ 512) = false := decide_eq_false h2
      go_enter Try.func67, Try.ntmps67
      go_wp2
      exact HF.out
  · rw [decide_eq_false (fun h => h1 h.1)] at HF
    have d1 : decide ((2 : Int) ≤ d) = false := decide_eq_false h1
    go_enter Try.func67, Try.ntmps67
    go_wp2
    exact HF.out
set_option maxHeartbeats 4000000 in
set_option maxRecDepth 100000 in
theorem rputOctal_any (n d : Int) (w : World) (hn1 : -9223372036854775808 ≤ n) (hn2 : n ≤ 9223372036854775807) :
    Calls Try.prog 44 #[.int .i64 n, .int .i64 d] w (PutA (poE n d) (poL n d) w) := by
  obtain ⟨P, hP⟩ : ∃ P : Ending → World → Prop, P = PutA (poE n d) (poL n d) w := ⟨_, rfl⟩
  rw [← hP]
  have HC := tHid (rwidth_any d w)
  by_cases hd : 2 ≤ d ∧ d ≤ 512
  · rw [decide_eq_true hd] at HC
    by_cases h0 : n < 0
    · have hE : poE n d = 122 := by unfold poE; rw [if_pos hd, if_pos h0]
      have HF : Hid (P (.returned (.tuple #[.slice none 0 0, .int .i64 122])) w) := by
        show P _ _
        rw [hP, hE]; exact ⟨none, 0, 0, rfl, Fr.refl _ _, .inl ⟨by decide, rfl, rfl, rfl⟩⟩
      clear hP
      go_enter Try.func44, Try.ntmps44
      go_wp2_with (first | (go_at_call 67; with_reducible refine HC.out.mono ?_; rintro e w1 ⟨rfl, rfl⟩))
      exact HF.out
    · obtain ⟨N, rfl⟩ : ∃ N : Nat, n = N := ⟨n.toNat, by omega⟩
      obtain ⟨k, rfl⟩ : ∃ k : Nat, d = (k : Int) + 2 := ⟨(d - 2).toNat, by omega⟩
      obtain ⟨hd1, hd2⟩ := hd
      have hdk : ((k : Int) + 2).toNat - 1 = k + 1 := by omega
      obtain ⟨W0, hmk, hO, hN⟩ := makeB (k + 2) (by omega) w
      have hmk2 : (Instr.makeSlice 52 (.int .i64 ((k : Int) + 2)) (.int .i64 ((k : Int) + 2))).run Try.prog w = .ok (.slice (some ⟨w.heap.size, 0, none⟩) (k + 2) (k + 2)) W0 := hmk
      have HBAD : Hid (¬ N / 8 ^ (k + 1) = 0 → ∀ W, Nw w W → P (.returned (.tuple #[.slice none 0 0, .int .i64 122])) W) := fun h W hW => by
        have hE : poE (N : Int) ((k : Int) + 2) = 122 := by unfold poE; rw [if_pos ⟨hd1, hd2⟩, if_neg h0, hdk, Int.toNat_natCast, if_neg h]
        rw [hP, hE]; exact ⟨none, 0, 0, rfl, hW, .inl ⟨by decide, rfl, rfl, rfl⟩⟩
      have HOK : Hid (N / 8 ^ (k + 1) = 0 → ∀ W, Nw w W → Ow w.heap.size (.slice (some ⟨w.heap.size, 0, none⟩) (k + 2) (k + 2)) (ol N (k + 1) ++ [0#8]) W → P (.returned (.tuple #[.slice (some ⟨w.heap.size, 0, none⟩) (k + 2) (k + 2), .int .i64 0])) W) := fun h W hW hOW => by
        have hE : poE (N : Int) ((k : Int) + 2) = 0 := by unfold poE; rw [if_pos ⟨hd1, hd2⟩, if_neg h0, hdk, Int.toNat_natCast, if_pos h]
        rw [hP, hE]
        refine ⟨_, _, _, rfl, hW, .inr ⟨rfl, w.heap.size, Nat.le_refl _, ?_⟩⟩
        unfold poL
        rw [hdk, Int.toNat_natCast]
        exact hOW
      have HST : Hid (Ow w.heap.size (.slice (some ⟨w.heap.size, 0, none⟩) (k + 2) (k + 2)) (List.replicate (k + 1 - 0) 0#8 ++ (ol N 0 ++ [0#8])) W0 ∧ Nw w W0) := by
        refine ⟨?_, hN⟩
        have : List.replicate (k + 1 - 0) 0#8 ++ (ol N 0 ++ [0#8]) = List.replicate (k + 2) 0#8 := by
          rw [List.replicate_succ' (n := k + 1)]; rfl
        rw [this]; exact hO
      generalize hG : w.heap.size = G at *
      have HG := tHid hG
      clear hP hmk hO hN hdk hG
      go_enter Try.func44, Try.ntmps44
      go_wp2_with (first | (go_at_call 67; with_reducible refine HC.out.mono ?_; rintro e w1 ⟨rfl, rfl⟩))
      go_loopg [0, 7] (k + 1) (fun kx v0 v7 wr => ∃ j : Nat, j ≤ k + 1 ∧ k + 1 ≤ j + kx ∧ v0 = .int .i64 ((N / 8 ^ j : Nat) : Int) ∧ v7 = .int .i64 ((k : Int) - (j : Int)) ∧ Hid (Ow G (.slice (some ⟨G, 0, none⟩) (k + 2) (k + 2)) (List.replicate (k + 1 - j) 0#8 ++ (ol N j ++ [0#8])) wr ∧ Nw w wr))
      case atStart =>
        refine ⟨0, by omega, by omega, ?_, ?_, HST.out⟩
        · first | rfl | (congr 1; simp)
        · first | rfl | (congr 1; omega) | congr 1
      case round =>
        obtain ⟨j, hj, hkx, rfl, rfl, HI⟩ := hrel
        obtain ⟨hO, hN⟩ := HI.out
        have hlen : (List.replicate (k + 1 - j) 0#8 ++ (ol N j ++ [0#8])).length = k + 2 := by
          rw [List.length_append, List.length_append, List.length_replicate, ol_length, List.length_singleton]; omega
        by_cases hlt : j ≤ k
        · obtain ⟨I, hI⟩ : ∃ I, k - j = I := ⟨_, rfl⟩
          have hIe : (k : Int) - (j : Int) = (I : Int) := by omega
          obtain ⟨cv, hc1, hc2⟩ : ∃ cv, wr.cell? ⟨G, I, none⟩ = some (.int .u8 cv) ∧ wr.frozen? ⟨G, I, none⟩ = false := ⟨_, hO.at I (by rw [hlen]; omega)⟩
          have hb := hO.put I (by rw [hlen]; omega) (dg (N / 8 ^ j)) (48 + ((N / 8 ^ j : Nat) : Int) % 8) (by rw [dg_toNat]; omega)
          rw [← hI, ol_set N k j hlt] at hb
          have hdv : N / 8 ^ j / 8 = N / 8 ^ (j + 1) := by rw [Nat.div_div_eq_div_mul, Nat.pow_succ]
          generalize hM : N / 8 ^ j = M at *
          have hMn : M ≤ 9223372036854775807 := by rw [← hM]; exact Nat.le_trans (Nat.div_le_self _ _) (by omega)
          have hmod : (M : Int).tmod 8 = (M : Int) % 8 := Int.tmod_eq_emod_of_nonneg (by omega)
          have hdiv : (M : Int).tdiv 8 = ((M / 8 : Nat) : Int) := by rw [Int.tdiv_eq_ediv_of_nonneg (by omega)]; omega
          have HNX : Hid (Ow G (.slice (some ⟨G, 0, none⟩) (k + 2) (k + 2)) (List.replicate (k + 1 - (j + 1)) 0#8 ++ (ol N (j + 1) ++ [0#8])) (wr.setCell ⟨G, I, none⟩ (.int .u8 (48 + (M : Int) % 8))) ∧ Nw w (wr.setCell ⟨G, I, none⟩ (.int .u8 (48 + (M : Int) % 8)))) := by
            rw [hI] at hb
            exact ⟨hb, hN.setCell _ _ (.inr (by rw [HG.out]; exact Nat.le_refl _))⟩
          have HDV := tHid hdv
          have hI0 : (0 : Int) ≤ (I : Int) := by omega
          have hI2 : (I : Int) < (k : Int) + 2 := by omega
          have hI3 : I < k + 2 := by omega
          have HKJ := tHid hI
          clear HI HBAD HOK HST hO hN hlen hb hdv hM hI
          rw [hIe]
          go_wp2_with fail
          go_roundg (k - j)
          case measure => omega
          case rel =>
            refine ⟨j + 1, by omega, by omega, ?_, ?_, HNX⟩
            · rw [← HDV.out]; first | rfl | (congr 1)
            · congr 1; omega
        · obtain rfl : j = k + 1 := by omega
          have e0 : k + 1 - (k + 1) = 0 := by omega
          rw [e0, List.replicate_zero, List.nil_append] at hO
          have hneg : (k : Int) - ((k + 1 : Nat) : Int) = -1 := by omega
          rw [hneg]
          by_cases hz : N / 8 ^ (k + 1) = 0
          · have HF2 := tHid (HOK.out hz wr hN hO)
            clear HI HBAD HOK HST hO hN hlen
            rw [hz]
            go_wp2_with fail
            exact HF2.out
          · have HF2 := tHid (HBAD.out hz wr hN)
            clear HI HBAD HOK HST hO hN hlen
            generalize N / 8 ^ (k + 1) = M at *
            have hz2 : (0 : Int) < (M : Int) := by omega
            have hz4 : 0 < M := by omega
            go_wp2_with fail
            exact HF2.out
  · rw [decide_eq_false hd] at HC
    have hE : poE n d = 1 := by unfold poE; rw [if_neg hd]
    have HF : Hid (P (.returned (.tuple #[.slice none 0 0, .int .i64 1])) w) := by
      show P _ _
      rw [hP, hE]; exact ⟨none, 0, 0, rfl, Fr.refl _ _, .inl ⟨by decide, rfl, rfl, rfl⟩⟩
    clear hP
    go_enter Try.func44, Try.ntmps44
    go_wp2_with (first | (go_at_call 67; with_reducible refine HC.out.mono ?_; rintro e w1 ⟨rfl, rfl⟩))
    exact HF.out
end Go.Proofs.Ytoegbaenheeogaa

namespace Go.Proofs.Ytoegbaenheeogaa
open Go.RowKit
set_option linter.unusedVariables false
/-! ### The document's PutBinary -/
theorem mod256 (x : Int) : x % 18446744073709551616 % 256 = x % 256 := by omega
theorem ushift (x : Int) (h1 : -9223372036854775808 ≤ x) (h2 : x ≤ 9223372036854775807) : (0 ≤ x → x % 18446744073709551616 / 256 = (x / 256) % 18446744073709551616) ∧ (x < 0 → x % 18446744073709551616 / 256 + 18374686479671623680 = (x / 256) % 18446744073709551616) := by
  constructor
  · intro h; omega
  · intro h; omega
theorem div_sign (n : Int) (j : Nat) : (0 ≤ n → 0 ≤ n / 256 ^ j) ∧ (n < 0 → n / 256 ^ j < 0) := by
  induction j with
  | zero => simp
  | succ j ih => rw [← div_succ]; constructor <;> intro h
                 · have := ih.1 h; omega
                 · have := ih.2 h; omega
/-- The first byte as it is laid. -/
def fst (n : Int) (k : Nat) : By := if 0 ≤ n ∧ (lb (n / 256 ^ k)).toNat < 64 then lb (n / 256 ^ k) + 128#8 else lb (n / 256 ^ k)
def outB (n : Int) (k : Nat) : List By := fst n k :: bl n k
theorem outB_fits (n : Int) (k : Nat) (h : fits n k = true) : outB n k = bfd n k := by
  obtain ⟨h1, h2⟩ := of_decide_eq_true h
  unfold outB bfd
  congr 1
  have hs := div_sign n k
  have hl := lb_toNat (n / 256 ^ k)
  have hh := hb_toNat (n / 256 ^ k) h1 h2
  unfold fst
  apply BitVec.eq_of_toNat_eq
  generalize hz : n / 256 ^ k = z at *
  by_cases hn : 0 ≤ n
  · have := hs.1 hn
    rw [if_neg (by omega)] at hh
    rw [if_pos ⟨hn, by omega⟩, BitVec.toNat_add]
    have e : (128#8 : By).toNat = 128 := rfl
    omega
  · have := hs.2 (by omega)
    rw [if_pos (by omega)] at hh
    rw [if_neg (fun h => hn h.1)]
    omega
theorem outB_no (n : Int) (k : Nat) (h : fits n k = false) : binE (outB n k) ≠ 0 ∨ binN (outB n k) ≠ n := by
  by_cases he : binE (outB n k) = 0
  · right
    intro hn
    unfold binE at he
    split at he
    · rename_i hB
      split at he
      · rename_i hI
        have hx := (of_decide_eq_true hB).2
        obtain ⟨q1, _⟩ := bfd_binV (fst n k) (bl n k) hx
        have e : binV (fst n k :: bl n k) = n := by
          have : binN (outB n k) = binV (outB n k) := by unfold binN; rw [if_pos hB, if_pos hI]
          rw [hn] at this
          exact this.symm
        rw [e, bl_length, h] at q1
        cases q1
      · cases he
    · cases he
  · exact .inl he
theorem outB_ok (n : Int) (k : Nat) (hk : 0 < k) (h1 : -9223372036854775808 ≤ n) (h2 : n ≤ 9223372036854775807) (h : fits n k = true) : binE (outB n k) = 0 ∧ binN (outB n k) = n := by
  rw [outB_fits n k h]
  obtain ⟨q1, q2⟩ := binV_bfd n k h
  have hB := q2 hk
  have hI : inI (binV (bfd n k)) = true := by rw [q1, inI_iff]; exact ⟨h1, h2⟩
  unfold binE binN
  rw [if_pos hB, if_pos hI, if_pos hB, if_pos hI, q1]
  exact ⟨rfl, rfl⟩
theorem bl_set2 (n : Int) (k j : Nat) (h : j ≤ k) : (List.replicate (k + 1 - j) 0#8 ++ bl n j).set (k - j) (lb (n / 256 ^ j)) = List.replicate (k + 1 - (j + 1)) 0#8 ++ bl n (j + 1) := by
  have e1 : k + 1 - j = (k - j) + 1 := by omega
  have e2 : k + 1 - (j + 1) = k - j := by omega
  rw [e1, e2, List.replicate_succ', List.append_assoc, List.singleton_append, bl]
  have := set_mid 0#8 (lb (n / 256 ^ j)) (List.replicate (k - j) 0#8) (bl n j)
  rw [List.length_replicate] at this
  exact this
set_option maxHeartbeats 8000000 in
set_option maxRecDepth 100000 in
theorem rputBinary_any (n d : Int) (w : World) (hn1 : -9223372036854775808 ≤ n) (hn2 : n ≤ 9223372036854775807) :
    Calls Try.prog 66 #[.int .i64 n, .int .i64 d] w (PutA (pbE n d) (pbL n d) w) := by
  obtain ⟨P, hP⟩ : ∃ P : Ending → World → Prop, P = PutA (pbE n d) (pbL n d) w := ⟨_, rfl⟩
  rw [← hP]
  have HC := tHid (rwidth_any d w)
  by_cases hd : 2 ≤ d ∧ d ≤ 512
  · rw [decide_eq_true hd] at HC
    obtain ⟨k, rfl⟩ : ∃ k : Nat, d = (k : Int) + 1 := ⟨(d - 1).toNat, by omega⟩
    obtain ⟨hd1, hd2⟩ := hd
    have hdk : ((k : Int) + 1).toNat - 1 = k := by omega
    obtain ⟨W0, hmk, hO, hN⟩ := makeB (k + 1) (by omega) w
    have hmk2 : (Instr.makeSlice 52 (.int .i64 ((k : Int) + 1)) (.int .i64 ((k : Int) + 1))).run Try.prog w = .ok (.slice (some ⟨w.heap.size, 0, none⟩) (k + 1) (k + 1)) W0 := hmk
    have HBAD : Hid (fits n k = false → ∀ W, Nw w W → P (.returned (.tuple #[.slice none 0 0, .int .i64 122])) W) := fun h W hW => by
      have hE : pbE n ((k : Int) + 1) = 122 := by unfold pbE; rw [if_pos ⟨hd1, hd2⟩, hdk, h]; rfl
      rw [hP, hE]; exact ⟨none, 0, 0, rfl, hW, .inl ⟨by decide, rfl, rfl, rfl⟩⟩
    have HOK : Hid (fits n k = true → ∀ W, Nw w W → Ow w.heap.size (.slice (some ⟨w.heap.size, 0, none⟩) (k + 1) (k + 1)) (outB n k) W → P (.returned (.tuple #[.slice (some ⟨w.heap.size, 0, none⟩) (k + 1) (k + 1), .int .i64 0])) W) := fun h W hW hOW => by
      have hE : pbE n ((k : Int) + 1) = 0 := by unfold pbE; rw [if_pos ⟨hd1, hd2⟩, hdk, h]; rfl
      rw [hP, hE]
      refine ⟨_, _, _, rfl, hW, .inr ⟨rfl, w.heap.size, Nat.le_refl _, ?_⟩⟩
      unfold pbL
      rw [hdk, ← outB_fits n k h]
      exact hOW
    have HST : Hid (Ow w.heap.size (.slice (some ⟨w.heap.size, 0, none⟩) (k + 1) (k + 1)) (List.replicate (k + 1 - 0) 0#8 ++ bl n 0) W0 ∧ Nw w W0) := by
      refine ⟨?_, hN⟩
      have : List.replicate (k + 1 - 0) 0#8 ++ bl n 0 = List.replicate (k + 1) 0#8 := List.append_nil _
      rw [this]; exact hO
    have HRB : Hid (∀ V, Ow w.heap.size (.slice (some ⟨w.heap.size, 0, none⟩) (k + 1) (k + 1)) (outB n k) V → Calls Try.prog 76 #[.slice (some ⟨w.heap.size, 0, none⟩) (k + 1) (k + 1)] V fun e w' => e = .returned (.tuple #[.int .i64 (binN (outB n k)), .int .i64 (binE (outB n k) : Nat)]) ∧ Hid (Nw V w')) := fun V hV => rbinary_any V _ _ _ _ hV.old (by omega)
    have hk0 : 0 < k := by omega
    generalize hG : w.heap.size = G at *
    have HG := tHid hG
    have hu0 : IntKind.u64.wrap n = n % 18446744073709551616 := IntKind.wrap_u64 n
    clear hP hmk hO hN hdk hG
    go_enter Try.func66, Try.ntmps66
    go_upto_block 0 with (first | (go_at_call 67; with_reducible refine HC.out.mono ?_; rintro e w1 ⟨rfl, rfl⟩))
    go_cut [7, 8] from 20 to 34 (fun v7 v8 wx => Hid (Ow G (.slice (some ⟨G, 0, none⟩) (k + 1) (k + 1)) (lb (n / 256 ^ k) :: bl n k) wx ∧ Nw w wx))
    case first =>
      clear HBAD HOK HRB
      go_wp2_with fail
      go_loopg [7, 8] (k + 1) (fun kx v7 v8 wr => ∃ (j U : Nat), j ≤ k + 1 ∧ k + 1 ≤ j + kx ∧ v7 = .int .u64 (U : Nat) ∧ v8 = .int .i64 ((k : Int) - (j : Int)) ∧ U < 18446744073709551616 ∧ Hid ((U : Int) = n / 256 ^ j % 18446744073709551616 ∧ Ow G (.slice (some ⟨G, 0, none⟩) (k + 1) (k + 1)) (List.replicate (k + 1 - j) 0#8 ++ bl n j) wr ∧ Nw w wr))
      case atStart =>
        obtain ⟨U0, hU0⟩ : ∃ U0 : Nat, n % 18446744073709551616 = (U0 : Int) := ⟨(n % 18446744073709551616).toNat, by omega⟩
        refine ⟨0, U0, by omega, by omega, ?_, ?_, by omega, ?_, HST.out⟩
        · rw [hU0]
        · first | rfl | (congr 1; omega) | congr 1
        · rw [← hU0]; simp
      case round =>
        obtain ⟨j, U, hj, hkx, rfl, rfl, hUb, HI⟩ := hrel
        obtain ⟨hU, hO, hN⟩ := HI.out
        have hlen : (List.replicate (k + 1 - j) 0#8 ++ bl n j).length = k + 1 := by
          rw [List.length_append, List.length_replicate, bl_length]; omega
        obtain ⟨hr1, hr2⟩ := div_rng n hn1 hn2 j
        by_cases hlt : j ≤ k
        · obtain ⟨I, hI⟩ : ∃ I, k - j = I := ⟨_, rfl⟩
          have hIe : (k : Int) - (j : Int) = (I : Int) := by omega
          obtain ⟨cv, hc1, hc2⟩ : ∃ cv, wr.cell? ⟨G, I, none⟩ = some (.int .u8 cv) ∧ wr.frozen? ⟨G, I, none⟩ = false := ⟨_, hO.at I (by rw [hlen]; omega)⟩
          have hb := hO.put I (by rw [hlen]; omega) (lb (n / 256 ^ j)) ((U : Int) % 256) (by rw [lb_toNat, hU, mod256])
          rw [← hI, bl_set2 n k j hlt] at hb
          have hdv := div_succ n j
          have hsg := div_sign n j
          obtain ⟨s1, s2⟩ := ushift (n / 256 ^ j) hr1 hr2
          have HNX : Hid (Ow G (.slice (some ⟨G, 0, none⟩) (k + 1) (k + 1)) (List.replicate (k + 1 - (j + 1)) 0#8 ++ bl n (j + 1)) (wr.setCell ⟨G, I, none⟩ (.int .u8 ((U : Int) % 256))) ∧ Nw w (wr.setCell ⟨G, I, none⟩ (.int .u8 ((U : Int) % 256)))) := by
            rw [hI] at hb
            exact ⟨hb, hN.setCell _ _ (.inr (by rw [HG.out]; exact Nat.le_refl _))⟩
          have hI0 : (0 : Int) ≤ (I : Int) := by omega
          have hI2 : (I : Int) < (k : Int) + 1 := by omega
          have hI3 : I < k + 1 := by omega
          have HKJ := tHid hI
          rw [← hU, hdv] at s1 s2
          have HDR := tHid (div_rng n hn1 hn2 (j + 1))
          rw [hIe]
          by_cases hsn : n < 0
          · obtain ⟨U2, hU2⟩ : ∃ U2 : Nat, U / 256 + 18374686479671623680 = U2 := ⟨_, rfl⟩
            have hs := s2 (hsg.2 hsn)
            have HU2 : Hid ((U2 : Int) = n / 256 ^ (j + 1) % 18446744073709551616) := by rw [← hs]; show (U2 : Int) = _; omega
            have hU3 : (U : Int) / 256 + 18374686479671623680 = (U2 : Int) := by omega
            have hU4 : U2 < 18446744073709551616 := by omega
            have d1 : decide (n < 0) = true := decide_eq_true hsn
            clear HI HST hU hO hN hlen hb hdv hsg s1 s2 hI hU2 hs HDR HG
            generalize n / 256 ^ j = M at *
            go_wp2_with fail
            go_roundg (k - j)
            case measure => omega
            case rel => exact ⟨j + 1, U2, by omega, by omega, by first | rfl | (rw [hU3]), by congr 1; omega, hU4, HU2.out, HNX.out⟩
          · obtain ⟨U2, hU2⟩ : ∃ U2 : Nat, U / 256 = U2 := ⟨_, rfl⟩
            have hs := s1 (hsg.1 (by omega))
            have HU2 : Hid ((U2 : Int) = n / 256 ^ (j + 1) % 18446744073709551616) := by rw [← hs]; show (U2 : Int) = _; omega
            have hU3 : (U : Int) / 256 = (U2 : Int) := by omega
            have hU4 : U2 < 18446744073709551616 := by omega
            have d1 : decide (n < 0) = false := decide_eq_false hsn
            clear HI HST hU hO hN hlen hb hdv hsg s1 s2 hI hU2 hs HDR HG
            generalize n / 256 ^ j = M at *
            go_wp2_with fail
            go_roundg (k - j)
            case measure => omega
            case rel => exact ⟨j + 1, U2, by omega, by omega, by first | rfl | (rw [hU3]), by congr 1; omega, hU4, HU2.out, HNX.out⟩
        · obtain rfl : j = k + 1 := by omega
          have e0 : k + 1 - (k + 1) = 0 := by omega
          rw [e0, List.replicate_zero, List.nil_append] at hO
          have HM : Hid (Ow G (.slice (some ⟨G, 0, none⟩) (k + 1) (k + 1)) (lb (n / 256 ^ k) :: bl n k) wr ∧ Nw w wr) := ⟨hO, hN⟩
          have hneg : (k : Int) - ((k + 1 : Nat) : Int) = -1 := by omega
          rw [hneg]
          clear HI HST hU hO hN hlen hr1 hr2 HG
          go_wp2_with fail
          go_meet
          exact HM
    case rest =>
    obtain ⟨W2, hW2⟩ : ∃ z, z = wc := ⟨_, rfl⟩
    subst hW2
    obtain ⟨hO2, hN2⟩ := hcut.out
    clear HST hcut
    obtain ⟨z0, hz0⟩ : ∃ z0, (lb (n / 256 ^ k)).toNat = z0 := ⟨_, rfl⟩
    have hzl := (lb (n / 256 ^ k)).isLt
    rw [hz0] at hzl
    have hlen2 : (lb (n / 256 ^ k) :: bl n k).length = k + 1 := by rw [List.length_cons, bl_length]
    obtain ⟨hc1, hc2⟩ : W2.cell? ⟨G, 0, none⟩ = some (.int .u8 z0) ∧ W2.frozen? ⟨G, 0, none⟩ = false := by
      have := hO2.at 0 (by omega)
      rw [← hz0]; exact this
    go_upto_region 12 with fail
    go_cut [42] (fun v wx => v = .bool (decide (0 ≤ n ∧ z0 < 64)) ∧ wx = W2)
    case first =>
      clear HBAD HOK HRB hO2 hN2 hz0
      by_cases g1 : 0 ≤ n
      · have d1 : decide (0 ≤ n) = true := decide_eq_true g1
        by_cases g2 : (z0 : Int) < 64
        · have d2 : decide ((z0 : Int) < 64) = true := decide_eq_true g2
          have d3 : decide (z0 < 64) = true := decide_eq_true (by omega)
          have HX : Hid (decide (0 ≤ n ∧ z0 < 64) = true) := decide_eq_true ⟨g1, by omega⟩
          go_wp2_with fail
          go_meet
          exact ⟨by rw [HX.out], rfl⟩
        · have d2 : decide ((z0 : Int) < 64) = false := decide_eq_false g2
          have d3 : decide (z0 < 64) = false := decide_eq_false (by omega)
          have HX : Hid (decide (0 ≤ n ∧ z0 < 64) = false) := decide_eq_false (fun h => by have := h.2; omega)
          go_wp2_with fail
          go_meet
          exact ⟨by rw [HX.out], rfl⟩
      · have d1 : decide (0 ≤ n) = false := decide_eq_false g1
        have HX : Hid (decide (0 ≤ n ∧ z0 < 64) = false) := decide_eq_false (fun h => g1 h.1)
        go_wp2_with fail
        go_meet
        exact ⟨by rw [HX.out], rfl⟩
    case rest =>
    obtain ⟨rfl, hw⟩ := hcut
    have hw' := hw.symm
    subst hw'
    clear hw
    obtain ⟨B, hB⟩ : ∃ B, decide (0 ≤ n ∧ z0 < 64) = B := ⟨_, rfl⟩
    have HBB := tHid hB
    rw [hB]
    clear hB
    go_upto_if 42 with fail
    go_cut [42] from 42 to 48 (fun v wx => Hid (Ow G (.slice (some ⟨G, 0, none⟩) (k + 1) (k + 1)) (outB n k) wx ∧ Nw w wx))
    case first =>
      clear HBAD HOK HRB
      cases B with
      | true =>
        obtain ⟨g1, g2⟩ := of_decide_eq_true HBB.out
        have hput := hO2.put 0 (by omega) (lb (n / 256 ^ k) + 128#8) ((z0 : Int) + 128) (by rw [BitVec.toNat_add, hz0]; have e : (128#8 : By).toNat = 128 := rfl; omega)
        have HM : Hid (Ow G (.slice (some ⟨G, 0, none⟩) (k + 1) (k + 1)) (outB n k) (W2.setCell ⟨G, 0, none⟩ (.int .u8 ((z0 : Int) + 128))) ∧ Nw w (W2.setCell ⟨G, 0, none⟩ (.int .u8 ((z0 : Int) + 128)))) := by
          refine ⟨?_, hN2.setCell _ _ (.inr (by rw [HG.out]; exact Nat.le_refl _))⟩
          unfold outB fst
          rw [if_pos ⟨g1, by rw [hz0]; exact g2⟩]
          exact hput
        clear hO2 hN2 hz0 hput HBB HG hlen2
        go_wp2_with fail
        go_meet
        exact HM
      | false =>
        have hno := of_decide_eq_false HBB.out
        have HM : Hid (Ow G (.slice (some ⟨G, 0, none⟩) (k + 1) (k + 1)) (outB n k) W2 ∧ Nw w W2) := by
          refine ⟨?_, hN2⟩
          unfold outB fst
          rw [if_neg (by rw [hz0]; exact hno)]
          exact hO2
        clear hO2 hN2 hz0 HBB HG hno hlen2
        go_wp2_with fail
        go_meet
        exact HM
    case rest =>
    obtain ⟨W3, hW3⟩ : ∃ z, z = wc := ⟨_, rfl⟩
    subst hW3
    obtain ⟨hO3, hN3⟩ := hcut.out
    have HR3 := tHid (HRB.out W3 hO3)
    clear hcut HRB hO2 hN2 hc1 hc2 HBB hz0 hzl hlen2
    go_upto_region 15 with (first
      | (go_at_call 76; with_reducible refine HR3.out.mono ?_; rintro e w4 ⟨rfl, K4⟩))
    have hN4 := hN3.trans K4.out
    have hO4 := hO3.nw K4.out
    cases hf : fits n k with
    | true =>
      obtain ⟨q1, q2⟩ := outB_ok n k hk0 hn1 hn2 hf
      rw [q1, q2]
      have HF4 := tHid (HOK.out hf w4 hN4 hO4)
      have hnn : (n != n) = false := by simp
      clear HBAD HOK hO3 hN3 HR3 K4 hN4 hO4 hf q1 q2 HG
      go_wp2_with fail
      exact HF4.out
    | false =>
      have hno := outB_no n k hf
      have HF4 := tHid (HBAD.out hf w4 hN4)
      clear HBAD HOK hO3 hN3 HR3 K4 hN4 hO4 hf HG
      generalize binE (outB n k) = E at *
      generalize binN (outB n k) = N at *
      by_cases hE : E = 0
      · subst hE
        have hNn : N ≠ n := by
          rcases hno with h | h
          · exact absurd rfl h
          · exact h
        have hb : (N != n) = true := by simpa using hNn
        clear hno
        go_wp2_with fail
        exact HF4.out
      · have hb : ((E : Int) != 0) = true := by simp; omega
        clear hno
        go_wp2_with fail
        exact HF4.out
  · rw [decide_eq_false hd] at HC
    have hE : pbE n d = 1 := by unfold pbE; rw [if_neg hd]
    have HF : Hid (P (.returned (.tuple #[.slice none 0 0, .int .i64 1])) w) := by
      show P _ _
      rw [hP, hE]; exact ⟨none, 0, 0, rfl, Fr.refl _ _, .inl ⟨by decide, rfl, rfl, rfl⟩⟩
    clear hP
    go_enter Try.func66, Try.ntmps66
    go_wp2_with (first | (go_at_call 67; with_reducible refine HC.out.mono ?_; rintro e w1 ⟨rfl, rfl⟩))
    exact HF.out
end Go.Proofs.Ytoegbaenheeogaa

namespace Go.Proofs.Ytoegbaenheeogaa
open Go.RowKit
set_option linter.unusedVariables false
set_option maxHeartbeats 4000000 in
set_option maxRecDepth 100000 in
theorem rputNumber_any (n d : Int) (w : World) (hn1 : -9223372036854775808 ≤ n) (hn2 : n ≤ 9223372036854775807) :
    Calls Try.prog 43 #[.int .i64 n, .int .i64 d] w (PutA (pnE n d) (pnL n d) w) := by
  obtain ⟨P, hP⟩ : ∃ P : Ending → World → Prop, P = PutA (pnE n d) (pnL n d) w := ⟨_, rfl⟩
  rw [← hP]
  have HO : Hid (Calls Try.prog 44 #[.int .i64 n, .int .i64 d] w fun e w' => ∃ a m c, e = .returned (.tuple #[.slice a m c, .int .i64 (poE n d : Nat)]) ∧ Hid (Nw w w' ∧ ((poE n d ≠ 0 ∧ a = none ∧ m = 0 ∧ c = 0) ∨ (poE n d = 0 ∧ ∃ g, w.heap.size ≤ g ∧ Ow g (.slice a m c) (poL n d) w')))) := rputOctal_any n d w hn1 hn2
  have HB : Hid (∀ V, Calls Try.prog 66 #[.int .i64 n, .int .i64 d] V fun e w' => ∃ a m c, e = .returned (.tuple #[.slice a m c, .int .i64 (pbE n d : Nat)]) ∧ Hid (Nw V w' ∧ ((pbE n d ≠ 0 ∧ a = none ∧ m = 0 ∧ c = 0) ∨ (pbE n d = 0 ∧ ∃ g, V.heap.size ≤ g ∧ Ow g (.slice a m c) (pbL n d) w')))) := fun V => rputBinary_any n d V hn1 hn2
  by_cases hz : poE n d = 0
  · have HF : Hid (∀ W a m c, Nw w W → (∃ g, w.heap.size ≤ g ∧ Ow g (.slice a m c) (poL n d) W) → P (.returned (.tuple #[.slice a m c, .int .i64 0])) W) := fun W a m c h1 h2 => by
      rw [hP]
      unfold pnE pnL
      rw [if_pos hz, if_pos hz]
      exact ⟨a, m, c, rfl, h1, .inr ⟨rfl, h2⟩⟩
    have hz' := tHid hz
    rw [hz] at HO
    clear hP HB hz
    go_enter Try.func43, Try.ntmps43
    go_wp2_with (first | (go_at_call 44; with_reducible refine HO.out.mono ?_; rintro e w1 ⟨a, m, c, rfl, H1⟩))
    obtain ⟨h1, h2⟩ := H1.out
    rcases h2 with ⟨h2, _⟩ | ⟨_, h2⟩
    · exact absurd rfl h2
    · exact HF.out _ _ _ _ h1 h2
  · have HF : Hid (∀ V W a m c, Nw w V → Nw V W → ((pbE n d ≠ 0 ∧ a = none ∧ m = 0 ∧ c = 0) ∨ (pbE n d = 0 ∧ ∃ g, V.heap.size ≤ g ∧ Ow g (.slice a m c) (pbL n d) W)) → P (.returned (.tuple #[.slice a m c, .int .i64 (pbE n d : Nat)])) W) := fun V W a m c h0 h1 h2 => by
      rw [hP]
      unfold pnE pnL
      rw [if_neg hz, if_neg hz]
      refine ⟨a, m, c, rfl, h0.trans h1, ?_⟩
      rcases h2 with h2 | ⟨e, g, hg, hO⟩
      · exact .inl h2
      · exact .inr ⟨e, g, Nat.le_trans h0.size hg, hO⟩
    obtain ⟨E, hE⟩ : ∃ E, poE n d = E := ⟨_, rfl⟩
    rw [hE] at HO hz
    have hz2 : ((E : Int) == 0) = false := by rw [beq_eq_false_iff_ne]; omega
    have hz3 : ¬ (E : Int) = 0 := by omega
    clear hP hE
    generalize pbE n d = B at *
    go_enter Try.func43, Try.ntmps43
    go_wp2_with (first | (go_at_call 44; with_reducible refine HO.out.mono ?_; rintro e w1 ⟨a, m, c, rfl, H1⟩) | (go_at_call 66; with_reducible refine (HB.out _).mono ?_; rintro e w2 ⟨a2, m2, c2, rfl, H2⟩))
    exact HF.out _ _ _ _ _ H1.out.1 H2.out.1 H2.out.2
/-! ### The document's PutText -/
theorem bys_at (s : ByteArray) (i : Nat) (h : i < s.size) : (bys' s)[i]? = some (BitVec.ofNat 8 (s[i]'h).toNat) := by
  unfold bys'
  rw [List.getElem?_map]
  have e : s.data.toList[i]? = some (s[i]'h) := Lib.data_getElem? s i h
  rw [e]
  rfl
theorem ix_nz (l : List UInt8) (h : ∀ (i : Nat) (x : UInt8), l[i]? = some x → x ≠ 0) : ¬ 0 ≤ Lib.indexByte l 0 := by
  induction l with
  | nil => decide
  | cons a l ih =>
    rw [Lib.indexByte]
    have h0 : (a == 0) = false := by
      rw [beq_eq_false_iff_ne]; exact h 0 a rfl
    rw [h0]
    have := ih (fun i x hx => h (i + 1) x (by simpa using hx))
    have hge := Lib.indexByte_ge l 0
    simp only [Bool.false_eq_true, ↓reduceIte, beq_iff_eq]
    rw [if_pos (by omega)]; omega
theorem ix_z (l : List UInt8) (i : Nat) (h : l[i]? = some 0) : 0 ≤ Lib.indexByte l 0 := by
  induction l generalizing i with
  | nil => simp at h
  | cons a l ih =>
    rw [Lib.indexByte]
    by_cases h0 : a = 0
    · subst h0; rw [if_pos (by decide)]; exact Int.le_refl _
    · have h1 : (a == 0) = false := by rw [beq_eq_false_iff_ne]; exact h0
      rw [h1]
      cases i with
      | zero => simp at h; exact absurd h h0
      | succ i =>
        have := ih i (by simpa using h)
        simp only [Bool.false_eq_true, ↓reduceIte, beq_iff_eq]
        rw [if_neg (by omega)]; omega
theorem ptx_set (s : ByteArray) (k i : Nat) (hi : i < s.size) (hk : s.size ≤ k) : ((bys' s).take i ++ List.replicate (k - i) 0#8).set i (BitVec.ofNat 8 (s[i]'hi).toNat) = (bys' s).take (i + 1) ++ List.replicate (k - (i + 1)) 0#8 := by
  have hl : ((bys' s).take i).length = i := by rw [List.length_take, bys_len]; omega
  have e1 : k - i = (k - (i + 1)) + 1 := by omega
  rw [e1, List.replicate_succ]
  have := set_mid 0#8 (BitVec.ofNat 8 (s[i]'hi).toNat) ((bys' s).take i) (List.replicate (k - (i + 1)) 0#8)
  rw [hl] at this
  rw [this, List.take_add_one, bys_at s i hi]
  simp
set_option maxHeartbeats 8000000 in
set_option maxRecDepth 100000 in
theorem rputText_any (s : ByteArray) (d : Int) (w : World) (hs : s.size ≤ 140737488351232) :
    Calls Try.prog 42 #[.string s, .int .i64 d] w (PutA (pxE s d) (pxL s d) w) := by
  obtain ⟨P, hP⟩ : ∃ P : Ending → World → Prop, P = PutA (pxE s d) (pxL s d) w := ⟨_, rfl⟩
  rw [← hP]
  have HBAD : Hid (∀ E, pxE s d = E → E ≠ 0 → P (.returned (.tuple #[.slice none 0 0, .int .i64 (E : Nat)])) w) := fun E h h2 => by
    rw [hP, h]; exact ⟨none, 0, 0, rfl, Fr.refl _ _, .inl ⟨h2, rfl, rfl, rfl⟩⟩
  by_cases h1 : d < 1
  · have HF := tHid (HBAD.out 1 (by unfold pxE; rw [if_neg (by omega)]) (by decide))
    have d1 : decide (d < 1) = true := decide_eq_true h1
    clear hP HBAD
    go_enter Try.func42, Try.ntmps42
    go_wp2_with fail
    exact HF.out
  · have d1 : decide (d < 1) = false := decide_eq_false h1
    by_cases h2 : 512 < d
    · have HF := tHid (HBAD.out 1 (by unfold pxE; rw [if_neg (by omega)]) (by decide))
      have d2 : decide (512 < d) = true := decide_eq_true h2
      clear hP HBAD
      go_enter Try.func42, Try.ntmps42
      go_wp2_with fail
      exact HF.out
    · have d2 : decide (512 < d) = false := decide_eq_false h2
      obtain ⟨k, rfl⟩ : ∃ k : Nat, d = k := ⟨d.toNat, by omega⟩
      have HP := tHid hP
      clear hP
      go_enter Try.func42, Try.ntmps42
      go_upto_block 0 with fail
      go_cut [6] from 15 to 24 (fun v wx => wx = w ∧ Hid (noZ s = true))
      case first =>
        go_wp2_with fail
        go_loopg [6] s.size (fun kx v wr => ∃ I : Nat, I ≤ s.size ∧ s.size - I ≤ kx ∧ v = .int .i64 I ∧ wr = w ∧ Hid (∀ j, j < I → ∀ x, s.data.toList[j]? = some x → x ≠ 0))
        case atStart => exact ⟨0, by omega, by omega, rfl, rfl, fun j hj => by omega⟩
        case round =>
          obtain ⟨I, hI, hkx, rfl, rfl, HI⟩ := hrel
          by_cases hlt : I < s.size
          · obtain ⟨x, hx⟩ : ∃ x : UInt8, s[I]'hlt = x := ⟨_, rfl⟩
            have hxl : s.data.toList[I]? = some x := by rw [← hx]; exact Lib.data_getElem? s I hlt
            have hltI : (I : Int) < (s.size : Int) := by omega
            by_cases hx0 : x = 0
            · have HF := tHid (HBAD.out 1 (by
                have hz : noZ s = false := decide_eq_false (fun h => h (ix_z _ I (by rw [hxl, hx0])))
                unfold pxE; rw [if_neg (by rw [hz]; intro h; exact absurd h.2.2 (by decide))]) (by decide))
              have hx1 : x.toNat = 0 := by rw [hx0]; rfl
              clear HBAD HP HI hxl hx0
              go_wp2_with fail
              exact HF.out
            · have HNX : Hid (∀ j, j < I + 1 → ∀ x, s.data.toList[j]? = some x → x ≠ 0) := fun j hj y hy => by
                by_cases hjI : j = I
                · subst hjI
                  rw [hxl] at hy
                  injection hy with hy
                  rw [← hy]; exact hx0
                · exact HI.out j (by omega) y hy
              have hx1 : ¬ x.toNat = 0 := fun e => hx0 (UInt8.toNat_inj.1 e)
              have hx2 : ((x.toNat : Int) == 0) = false := by rw [beq_eq_false_iff_ne]; omega
              clear HBAD HP HI hxl hx0
              go_wp2_with fail
              go_roundg (s.size - (I + 1))
              case measure => omega
              case rel => exact ⟨I + 1, by omega, by omega, by first | rfl | (congr 1), rfl, HNX⟩
          · have HZ : Hid (noZ s = true) := decide_eq_true (ix_nz _ (fun i x hx => HI.out i (by have := (List.getElem?_eq_some_iff.1 hx).1; have e : s.data.toList.length = s.size := rfl; omega) x hx))
            clear HBAD HP HI
            go_wp2_with fail
            go_meet
            exact ⟨rfl, HZ⟩
      case rest =>
      obtain ⟨hw, HZ⟩ := hcut
      have hw' := hw.symm
      subst hw'
      clear hw
      by_cases h4 : (k : Int) < (s.size : Int)
      · have HF := tHid (HBAD.out 122 (by unfold pxE; rw [if_pos ⟨by omega, by omega, HZ.out⟩, if_neg (by omega)]) (by decide))
        clear HBAD HP HZ
        go_wp2_with fail
        exact HF.out
      · have hE : pxE s (k : Int) = 0 := by unfold pxE; rw [if_pos ⟨by omega, by omega, HZ.out⟩, if_pos (by omega)]
        obtain ⟨W0, hmk, hO, hN⟩ := makeB k (by omega) w
        have HF : Hid (∀ W, Nw w W → Ow w.heap.size (.slice (some ⟨w.heap.size, 0, none⟩) k k) (bys' s ++ List.replicate (k - s.size) 0#8) W → P (.returned (.tuple #[.slice (some ⟨w.heap.size, 0, none⟩) k k, .int .i64 0])) W) := fun W hW hOW => by
          rw [HP.out, hE]
          refine ⟨_, _, _, rfl, hW, .inr ⟨rfl, w.heap.size, Nat.le_refl _, ?_⟩⟩
          unfold pxL
          rw [Int.toNat_natCast]
          exact hOW
        have HST : Hid (Nw w W0 ∧ Ow w.heap.size (.slice (some ⟨w.heap.size, 0, none⟩) k k) ((bys' s).take 0 ++ List.replicate (k - 0) 0#8) W0) := ⟨hN, by simpa using hO⟩
        generalize hG : w.heap.size = G at *
        have HG := tHid hG
        clear HBAD HP HZ hO hN hE hG
        go_wp2_with fail
        go_loopg [8] s.size (fun kx v wr => ∃ I : Nat, I ≤ s.size ∧ s.size - I ≤ kx ∧ v = .int .i64 I ∧ Hid (Nw w wr ∧ Ow G (.slice (some ⟨G, 0, none⟩) k k) ((bys' s).take I ++ List.replicate (k - I) 0#8) wr))
        case atStart => exact ⟨0, by omega, by omega, rfl, HST⟩
        case round =>
          obtain ⟨I, hI, hkx, rfl, HI⟩ := hrel
          obtain ⟨hN, hO⟩ := HI.out
          by_cases hlt : I < s.size
          · obtain ⟨x, hx⟩ : ∃ x : UInt8, s[I]'hlt = x := ⟨_, rfl⟩
            have hst := ptx_set s k I hlt (by omega)
            rw [hx] at hst
            have hlen : ((bys' s).take I ++ List.replicate (k - I) 0#8).length = k := by rw [List.length_append, List.length_take, bys_len, List.length_replicate]; omega
            obtain ⟨cv, hc1, hc2⟩ : ∃ cv, wr.cell? ⟨G, I, none⟩ = some (.int .u8 cv) ∧ wr.frozen? ⟨G, I, none⟩ = false := ⟨_, hO.at I (by omega)⟩
            have hput := hO.put I (by omega) (BitVec.ofNat 8 x.toNat) (x.toNat : Int) (by rw [BitVec.toNat_ofNat, Nat.mod_eq_of_lt (by have := x.toNat_lt; omega)])
            rw [hst] at hput
            have HNX : Hid (Nw w (wr.setCell ⟨G, I, none⟩ (.int .u8 (x.toNat : Int))) ∧ Ow G (.slice (some ⟨G, 0, none⟩) k k) ((bys' s).take (I + 1) ++ List.replicate (k - (I + 1)) 0#8) (wr.setCell ⟨G, I, none⟩ (.int .u8 (x.toNat : Int)))) := ⟨hN.setCell _ _ (.inr (by rw [HG.out]; exact Nat.le_refl _)), hput⟩
            have hltI : (I : Int) < (s.size : Int) := by omega
            have hltk : (I : Int) < (k : Int) := by omega
            have hltn : I < k := by omega
            clear HF HST HI hN hO hst hlen hput HG
            go_wp2_with fail
            go_roundg (s.size - (I + 1))
            case measure => omega
            case rel => exact ⟨I + 1, by omega, by omega, by first | rfl | (congr 1), HNX⟩
          · have hIs : I = s.size := by omega
            rw [hIs, List.take_of_length_le (by rw [bys_len]; exact Nat.le_refl _)] at hO
            have HF2 := tHid (HF.out wr hN hO)
            have hltI : ¬ (I : Int) < (s.size : Int) := by omega
            clear HF HST HI hN hO HG hIs
            go_wp2_with fail
            exact HF2.out
end Go.Proofs.Ytoegbaenheeogaa

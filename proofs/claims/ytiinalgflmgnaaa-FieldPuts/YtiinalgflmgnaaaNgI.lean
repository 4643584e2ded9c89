import Derived.Test.YtiinalgflmgnaaaNfM
import Derived.Test.YtiinalgflmgnaaaNfV
namespace Go.Proofs.Ytiinalgflmgnaaa
open Go.RowKit
set_option linter.unusedVariables false
set_option maxHeartbeats 1000000 in
set_option maxRecDepth 100000 in
theorem rwidth_any (d : Int) (w : World) : Calls Try.prog 14 #[.int .i64 d] w fun e w' => e = .returned (.bool (decide (2 ≤ d ∧ d ≤ 512))) ∧ w = w' := by
  obtain ⟨P, hP⟩ : ∃ P : Ending → World → Prop, P = fun e w' => e = .returned (.bool (decide (2 ≤ d ∧ d ≤ 512))) ∧ w = w' := ⟨_, rfl⟩
  rw [← hP]
  have HF : Hid (P (.returned (.bool (decide (2 ≤ d ∧ d ≤ 512)))) w) := by rw [hP]; exact ⟨rfl, rfl⟩
  clear hP
  by_cases h1 : (2 : Int) ≤ d
  · have d1 : decide ((2 : Int) ≤ d) = true := decide_eq_true h1
    by_cases h2 : d ≤ 512
    · rw [decide_eq_true ⟨h1, h2⟩] at HF
      have d2 : decide (d ≤ 512) = true := decide_eq_true h2
      go_enter Try.func14, Try.ntmps14
      go_wp2
      exact HF.out
    · rw [decide_eq_false (fun h => h2 h.2)] at HF
      have d2 : decide (d ≤ 512) = false := decide_eq_false h2
      go_enter Try.func14, Try.ntmps14
      go_wp2
      exact HF.out
  · rw [decide_eq_false (fun h => h1 h.1)] at HF
    have d1 : decide ((2 : Int) ≤ d) = false := decide_eq_false h1
    go_enter Try.func14, Try.ntmps14
    go_wp2
    exact HF.out
set_option maxHeartbeats 4000000 in
set_option maxRecDepth 100000 in
theorem rputOctal_any (n d : Int) (w : World) (hn1 : -9223372036854775808 ≤ n) (hn2 : n ≤ 9223372036854775807) :
    Calls Try.prog 5 #[.int .i64 n, .int .i64 d] w (PutA (poE n d) (poL n d) w) := by
  obtain ⟨P, hP⟩ : ∃ P : Ending → World → Prop, P = PutA (poE n d) (poL n d) w := ⟨_, rfl⟩
  rw [← hP]
  have HC := tHid (rwidth_any d w)
  by_cases hd : 2 ≤ d ∧ d ≤ 512
  · rw [decide_eq_true hd] at HC
    by_cases h0 : n < 0
    · have hE : poE n d = 122 := by unfold poE; rw [if_pos hd, if_pos h0]
      have HF : Hid (P (.returned (.tuple #[.slice none 0 0, .int .i64 122])) w) := by
        show P _ _
        rw [hP, hE]; exact ⟨none, 0, 0, rfl, Fr.refl _ _, .inl ⟨by decide, rfl, rfl, rfl⟩⟩
      clear hP
      go_enter Try.func5, Try.ntmps5
      go_wp2_with (first | (go_at_call 14; with_reducible refine HC.out.mono ?_; rintro e w1 ⟨rfl, rfl⟩))
      exact HF.out
    · obtain ⟨N, rfl⟩ : ∃ N : Nat, n = N := ⟨n.toNat, by omega⟩
      obtain ⟨k, rfl⟩ : ∃ k : Nat, d = (k : Int) + 2 := ⟨(d - 2).toNat, by omega⟩
      obtain ⟨hd1, hd2⟩ := hd
      have hdk : ((k : Int) + 2).toNat - 1 = k + 1 := by omega
      obtain ⟨W0, hmk, hO, hN⟩ := makeB (k + 2) (by omega) w
      have hmk2 : (Instr.makeSlice 22 (.int .i64 ((k : Int) + 2)) (.int .i64 ((k : Int) + 2))).run Try.prog w = .ok (.slice (some ⟨w.heap.size, 0, none⟩) (k + 2) (k + 2)) W0 := hmk
      have HBAD : Hid (¬ N / 8 ^ (k + 1) = 0 → ∀ W, Nw w W → P (.returned (.tuple #[.slice none 0 0, .int .i64 122])) W) := fun h W hW => by
        have hE : poE (N : Int) ((k : Int) + 2) = 122 := by unfold poE; rw [if_pos ⟨hd1, hd2⟩, if_neg h0, hdk, Int.toNat_natCast, if_neg h]
        rw [hP, hE]; exact ⟨none, 0, 0, rfl, hW, .inl ⟨by decide, rfl, rfl, rfl⟩⟩
      have HOK : Hid (N / 8 ^ (k + 1) = 0 → ∀ W, Nw w W → Ow w.heap.size (.slice (some ⟨w.heap.size, 0, none⟩) (k + 2) (k + 2)) (ol N (k + 1) ++ [0#8]) W → P (.returned (.tuple #[.slice (some ⟨w.heap.size, 0, none⟩) (k + 2) (k + 2), .int .i64 0])) W) := fun h W hW hOW => by
        have hE : poE (N : Int) ((k : Int) + 2) = 0 := by unfold poE; rw [if_pos ⟨hd1, hd2⟩, if_neg h0, hdk, Int.toNat_natCast, if_pos h]
        rw [hP, hE]
        refine ⟨_, _, _, rfl, hW, .inr ⟨rfl, w.heap.size, Nat.le_refl _, ?_⟩⟩
        unfold poL
        rw [hdk, Int.toNat_natCast]
        exact hOW
      have HST : Hid (Ow w.heap.size (.slice (some ⟨w.heap.size, 0, none⟩) (k + 2) (k + 2)) (List.replicate (k + 1 - 0) 0#8 ++ (ol N 0 ++ [0#8])) W0 ∧ Nw w W0) := by
        refine ⟨?_, hN⟩
        have : List.replicate (k + 1 - 0) 0#8 ++ (ol N 0 ++ [0#8]) = List.replicate (k + 2) 0#8 := by
          rw [List.replicate_succ' (n := k + 1)]; rfl
        rw [this]; exact hO
      generalize hG : w.heap.size = G at *
      have HG := tHid hG
      clear hP hmk hO hN hdk hG
      go_enter Try.func5, Try.ntmps5
      go_wp2_with (first | (go_at_call 14; with_reducible refine HC.out.mono ?_; rintro e w1 ⟨rfl, rfl⟩))
      go_loopg [0, 7] (k + 1) (fun kx v0 v7 wr => ∃ j : Nat, j ≤ k + 1 ∧ k + 1 ≤ j + kx ∧ v0 = .int .i64 ((N / 8 ^ j : Nat) : Int) ∧ v7 = .int .i64 ((k : Int) - (j : Int)) ∧ Hid (Ow G (.slice (some ⟨G, 0, none⟩) (k + 2) (k + 2)) (List.replicate (k + 1 - j) 0#8 ++ (ol N j ++ [0#8])) wr ∧ Nw w wr))
      case atStart =>
        refine ⟨0, by omega, by omega, ?_, ?_, HST.out⟩
        · first | rfl | (congr 1; simp)
        · first | rfl | (congr 1; omega) | congr 1
      case round =>
        obtain ⟨j, hj, hkx, rfl, rfl, HI⟩ := hrel
        obtain ⟨hO, hN⟩ := HI.out
        have hlen : (List.replicate (k + 1 - j) 0#8 ++ (ol N j ++ [0#8])).length = k + 2 := by
          rw [List.length_append, List.length_append, List.length_replicate, ol_length, List.length_singleton]; omega
        by_cases hlt : j ≤ k
        · obtain ⟨I, hI⟩ : ∃ I, k - j = I := ⟨_, rfl⟩
          have hIe : (k : Int) - (j : Int) = (I : Int) := by omega
          obtain ⟨cv, hc1, hc2⟩ : ∃ cv, wr.cell? ⟨G, I, none⟩ = some (.int .u8 cv) ∧ wr.frozen? ⟨G, I, none⟩ = false := ⟨_, hO.at I (by rw [hlen]; omega)⟩
          have hb := hO.put I (by rw [hlen]; omega) (dg (N / 8 ^ j)) (48 + ((N / 8 ^ j : Nat) : Int) % 8) (by rw [dg_toNat]; omega)
          rw [← hI, ol_set N k j hlt] at hb
          have hdv : N / 8 ^ j / 8 = N / 8 ^ (j + 1) := by rw [Nat.div_div_eq_div_mul, Nat.pow_succ]
          generalize hM : N / 8 ^ j = M at *
          have hMn : M ≤ 9223372036854775807 := by rw [← hM]; exact Nat.le_trans (Nat.div_le_self _ _) (by omega)
          have hmod : (M : Int).tmod 8 = (M : Int) % 8 := Int.tmod_eq_emod_of_nonneg (by omega)
          have hdiv : (M : Int).tdiv 8 = ((M / 8 : Nat) : Int) := by rw [Int.tdiv_eq_ediv_of_nonneg (by omega)]; omega
          have HNX : Hid (Ow G (.slice (some ⟨G, 0, none⟩) (k + 2) (k + 2)) (List.replicate (k + 1 - (j + 1)) 0#8 ++ (ol N (j + 1) ++ [0#8])) (wr.setCell ⟨G, I, none⟩ (.int .u8 (48 + (M : Int) % 8))) ∧ Nw w (wr.setCell ⟨G, I, none⟩ (.int .u8 (48 + (M : Int) % 8)))) := by
            rw [hI] at hb
            exact ⟨hb, hN.setCell _ _ (.inr (by rw [HG.out]; exact Nat.le_refl _))⟩
          have HDV := tHid hdv
          have hI0 : (0 : Int) ≤ (I : Int) := by omega
          have hI2 : (I : Int) < (k : Int) + 2 := by omega
          have hI3 : I < k + 2 := by omega
          have HKJ := tHid hI
          clear HI HBAD HOK HST hO hN hlen hb hdv hM hI
          rw [hIe]
          go_wp2_with fail
          go_roundg (k - j)
          case measure => omega
          case rel =>
            refine ⟨j + 1, by omega, by omega, ?_, ?_, HNX⟩
            · rw [← HDV.out]; first | rfl | (congr 1)
            · congr 1; omega
        · obtain rfl : j = k + 1 := by omega
          have e0 : k + 1 - (k + 1) = 0 := by omega
          rw [e0, List.replicate_zero, List.nil_append] at hO
          have hneg : (k : Int) - ((k + 1 : Nat) : Int) = -1 := by omega
          rw [hneg]
          by_cases hz : N / 8 ^ (k + 1) = 0
          · have HF2 := tHid (HOK.out hz wr hN hO)
            clear HI HBAD HOK HST hO hN hlen
            rw [hz]
            go_wp2_with fail
            exact HF2.out
          · have HF2 := tHid (HBAD.out hz wr hN)
            clear HI HBAD HOK HST hO hN hlen
            generalize N / 8 ^ (k + 1) = M at *
            have hz2 : (0 : Int) < (M : Int) := by omega
            have hz4 : 0 < M := by omega
            go_wp2_with fail
            exact HF2.out
  · rw [decide_eq_false hd] at HC
    have hE : poE n d = 1 := by unfold poE; rw [if_neg hd]
    have HF : Hid (P (.returned (.tuple #[.slice none 0 0, .int .i64 1])) w) := by
      show P _ _
      rw [hP, hE]; exact ⟨none, 0, 0, rfl, Fr.refl _ _, .inl ⟨by decide, rfl, rfl, rfl⟩⟩
    clear hP
    go_enter Try.func5, Try.ntmps5
    go_wp2_with (first | (go_at_call 14; with_reducible refine HC.out.mono ?_; rintro e w1 ⟨rfl, rfl⟩))
    exact HF.out
end Go.Proofs.Ytiinalgflmgnaaa

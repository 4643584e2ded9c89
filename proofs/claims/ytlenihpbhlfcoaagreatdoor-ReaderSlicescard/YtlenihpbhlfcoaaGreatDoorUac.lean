import Derived.Test.YtlenihpbhlfcoaaGreatDoorUab
set_option maxHeartbeats 8000000
set_option maxRecDepth 100000
set_option linter.unusedSimpArgs false
set_option linter.unusedVariables false
namespace Go.Proofs.YtlenihpbhlfcoaaGreatDoor
open Go.RowKit
theorem i64_and7 (n : Int) : bits .and .i64 n 7 = n % 8 := by
 have h7 : (BitVec.ofInt 64 7).toNat = 2 ^ 3 - 1 := by decide
 have key : (BitVec.ofInt 64 n &&& BitVec.ofInt 64 7).toNat = (n % ((2 ^ 64 : Nat) : Int)).toNat % 2 ^ 3 := by
  rw [BitVec.toNat_and, BitVec.toNat_ofInt, h7, Nat.and_two_pow_sub_one_eq_mod]
 show IntKind.i64.wrap ((BitVec.ofInt 64 n &&& BitVec.ofInt 64 7).toNat : Nat) = n % 8;rw [key, IntKind.wrap_i64];omega
theorem canHold_any (d : Int) (w : World) : Calls Tryz.prog 63 #[.int .i64 d] w fun e w' => e = .returned (.bool (decide (2 ≤ d ∧ d ≤ 512))) ∧ w = w' := by
 refine asP fun P hP => ?_
 have HF : Hid (P (.returned (.bool (decide (2 ≤ d ∧ d ≤ 512)))) w) := by rw [hP]; exact ⟨rfl, rfl⟩
 clear hP;by_cases h1 : (2 : Int) ≤ d
 ·have d1 : decide ((2 : Int) ≤ d) = true := decide_eq_true h1;by_cases h2 : d ≤ 512
  ·rw [decide_eq_true ⟨h1, h2⟩] at HF;have d2 : decide (d ≤ 512) = true := decide_eq_true h2;go_enter Tryz.func63, Tryz.ntmps63
   go_wp2
   exact HF.out
  ·rw [decide_eq_false (fun h => h2 h.2)] at HF;have d2 : decide (d ≤ 512) = false := decide_eq_false h2;go_enter Tryz.func63, Tryz.ntmps63
   go_wp2
   exact HF.out
 ·rw [decide_eq_false (fun h => h1 h.1)] at HF;have d1 : decide ((2 : Int) ≤ d) = false := decide_eq_false h1;go_enter Tryz.func63, Tryz.ntmps63
  go_wp2
  exact HF.out
def poE (n d : Int) : Nat := if 2 ≤ d ∧ d ≤ 512 then (if n < 0 then 122 else if n.toNat / 8 ^ (d.toNat - 1) = 0 then 0 else 122) else 1
def poL (n d : Int) : List By := ol n.toNat (d.toNat - 1) ++ [0#8]
def PutA (E : Nat) (L : List By) (w : World) (e : Ending) (w' : World) : Prop :=
 ∃ a n c, e = .returned (.tuple #[.slice a n c, .int .i64 (E : Nat)]) ∧ Hid (Nw w w' ∧ ((E ≠ 0 ∧ a = none ∧ n = 0 ∧ c = 0) ∨ (E = 0 ∧ ∃ g, w.heap.size ≤ g ∧ Ow g (.slice a n c) L w')))
theorem makeB (n : Nat) (hn : n ≤ 1000000) (V : World) : ∃ W, (Instr.makeSlice 22 (.int .i64 (n : Int)) (.int .i64 (n : Int))).run Tryz.prog V = .ok (.slice (some ⟨V.heap.size, 0, none⟩) n n) W ∧ Ow V.heap.size (.slice (some ⟨V.heap.size, 0, none⟩) n n) (List.replicate n 0#8) W ∧ Nw V W := by
 obtain ⟨i, hi, hz, hs, hby⟩ := infoB;have h := run_make (P := Tryz.prog) V 22 5 i _ Tryz.underlying22 hi hz .i64 .i64 n n (by omega) (by omega) (by rw [hby]; omega) (by omega);simp only [Int.toNat_natCast] at h;rw [hs, Nat.mul_one] at h;have e : madeCells (Value.int .u8 0).cells n = ((List.replicate n 0#8).map bv).toArray := by
  apply Array.ext'
  apply List.ext_getElem?
  intro k;by_cases hk : k < n
  ·simp [madeCells, Value.cells, hk, Nat.mod_one]
  ·rw [List.getElem?_eq_none (by simp [madeCells, Value.cells]; omega), List.getElem?_eq_none (by simp; omega)]
 rw [e] at h;refine ⟨_, h, ?_, (Fr.refl _ _).alloc _⟩;refine ⟨List.replicate n 0#8, by simp, by simp, by simp, by simp; omega, ?_⟩;show (V.heap.push _)[V.heap.size]? = _;simp
theorem set_mid {α : Type} (x y : α) (l m : List α) : (l ++ x :: m).set l.length y = l ++ y :: m := by simp
theorem ol_set (N k j : Nat) (h : j ≤ k) : (List.replicate (k + 1 - j) 0#8 ++ (ol N j ++ [0#8])).set (k - j) (dg (N / 8 ^ j)) = List.replicate (k + 1 - (j + 1)) 0#8 ++ (ol N (j + 1) ++ [0#8]) := by
 have e1 : k + 1 - j = (k - j) + 1 := by omega
 have e2 : k + 1 - (j + 1) = k - j := by omega
 rw [e1, e2, List.replicate_succ', List.append_assoc, List.singleton_append, ol, List.cons_append];have := set_mid 0#8 (dg (N / 8 ^ j)) (List.replicate (k - j) 0#8) (ol N j ++ [0#8]);rw [List.length_replicate] at this;exact this
theorem putOctal_any (n d : Int) (w : World) (hn1 : -9223372036854775808 ≤ n) (hn2 : n ≤ 9223372036854775807) :
  Calls Tryz.prog 40 #[.int .i64 n, .int .i64 d] w (PutA (poE n d) (poL n d) w) := by
 refine asP fun P hP => ?_
 have HC := tHid (canHold_any d w);by_cases hd : 2 ≤ d ∧ d ≤ 512
 ·rw [decide_eq_true hd] at HC;by_cases h0 : n < 0
  ·have hE : poE n d = 122 := by unfold poE; rw [if_pos hd, if_pos h0]
   have HF : Hid (P (.returned (.tuple #[.slice none 0 0, .int .i64 122])) w) := by
    show P _ _;rw [hP, hE]; exact ⟨none, 0, 0, rfl, Fr.refl _ _, .inl ⟨by decide, rfl, rfl, rfl⟩⟩
   clear hP;go_enter Tryz.func40, Tryz.ntmps40
   go_wp2_with (first | (go_at_call 63; with_reducible refine HC.out.mono ?_; rintro e w1 ⟨rfl, rfl⟩))
   exact HF.out
  ·obtain ⟨N, rfl⟩ : ∃ N : Nat, n = N := ⟨n.toNat, by omega⟩;obtain ⟨k, rfl⟩ : ∃ k : Nat, d = (k : Int) + 2 := ⟨(d - 2).toNat, by omega⟩;obtain ⟨hd1, hd2⟩ := hd;have hdk : ((k : Int) + 2).toNat - 1 = k + 1 := by omega
   obtain ⟨W0, hmk, hO, hN⟩ := makeB (k + 2) (by omega) w;have hmk2 : (Instr.makeSlice 22 (.int .i64 ((k : Int) + 2)) (.int .i64 ((k : Int) + 2))).run Tryz.prog w = .ok (.slice (some ⟨w.heap.size, 0, none⟩) (k + 2) (k + 2)) W0 := hmk;have HBAD : Hid (¬ N / 8 ^ (k + 1) = 0 → ∀ W, Nw w W → P (.returned (.tuple #[.slice none 0 0, .int .i64 122])) W) := fun h W hW => by
    have hE : poE (N : Int) ((k : Int) + 2) = 122 := by unfold poE; rw [if_pos ⟨hd1, hd2⟩, if_neg h0, hdk, Int.toNat_natCast, if_neg h]
    rw [hP, hE]; exact ⟨none, 0, 0, rfl, hW, .inl ⟨by decide, rfl, rfl, rfl⟩⟩
   have HOK : Hid (N / 8 ^ (k + 1) = 0 → ∀ W, Nw w W → Ow w.heap.size (.slice (some ⟨w.heap.size, 0, none⟩) (k + 2) (k + 2)) (ol N (k + 1) ++ [0#8]) W → P (.returned (.tuple #[.slice (some ⟨w.heap.size, 0, none⟩) (k + 2) (k + 2), .int .i64 0])) W) := fun h W hW hOW => by
    have hE : poE (N : Int) ((k : Int) + 2) = 0 := by unfold poE; rw [if_pos ⟨hd1, hd2⟩, if_neg h0, hdk, Int.toNat_natCast, if_pos h]
    rw [hP, hE];refine ⟨_, _, _, rfl, hW, .inr ⟨rfl, w.heap.size, Nat.le_refl _, ?_⟩⟩;unfold poL;rw [hdk, Int.toNat_natCast];exact hOW
   have HST : Hid (Ow w.heap.size (.slice (some ⟨w.heap.size, 0, none⟩) (k + 2) (k + 2)) (List.replicate (k + 1 - 0) 0#8 ++ (ol N 0 ++ [0#8])) W0 ∧ Nw w W0) := by
    refine ⟨?_, hN⟩;have : List.replicate (k + 1 - 0) 0#8 ++ (ol N 0 ++ [0#8]) = List.replicate (k + 2) 0#8 := by
     rw [List.replicate_succ' (n := k + 1)]; rfl
    rw [this]; exact hO
   generalize hG : w.heap.size = G at *;have HG := tHid hG;clear hP hmk hO hN hdk hG;go_enter Tryz.func40, Tryz.ntmps40
   go_wp2_with (first | (go_at_call 63; with_reducible refine HC.out.mono ?_; rintro e w1 ⟨rfl, rfl⟩))
   go_loopg [0, 7] (k + 1) (fun kx v0 v7 wr => ∃ j : Nat, j ≤ k + 1 ∧ k + 1 ≤ j + kx ∧ v0 = .int .i64 ((N / 8 ^ j : Nat) : Int) ∧ v7 = .int .i64 ((k : Int) - (j : Int)) ∧ Hid (Ow G (.slice (some ⟨G, 0, none⟩) (k + 2) (k + 2)) (List.replicate (k + 1 - j) 0#8 ++ (ol N j ++ [0#8])) wr ∧ Nw w wr))
   case atStart =>
    refine ⟨0, by omega, by omega, ?_, ?_, HST.out⟩
    ·first | rfl | (congr 1; simp)
    ·first | rfl | (congr 1; omega) | congr 1
   case round =>
    obtain ⟨j, hj, hkx, rfl, rfl, HI⟩ := hrel;obtain ⟨hO, hN⟩ := HI.out;have hlen : (List.replicate (k + 1 - j) 0#8 ++ (ol N j ++ [0#8])).length = k + 2 := by
     rw [List.length_append, List.length_append, List.length_replicate, ol_length, List.length_singleton]; omega
    by_cases hlt : j ≤ k
    ·obtain ⟨I, hI⟩ : ∃ I, k - j = I := ⟨_, rfl⟩;have hIe : (k : Int) - (j : Int) = (I : Int) := by omega
     obtain ⟨cv, hc1, hc2⟩ : ∃ cv, wr.cell? ⟨G, I, none⟩ = some (.int .u8 cv) ∧ wr.frozen? ⟨G, I, none⟩ = false := ⟨_, hO.at I (by rw [hlen]; omega)⟩;have hb := hO.put I (by rw [hlen]; omega) (dg (N / 8 ^ j)) (48 + ((N / 8 ^ j : Nat) : Int) % 8) (by rw [dg_toNat]; omega);rw [← hI, ol_set N k j hlt] at hb;have hdv : N / 8 ^ j / 8 = N / 8 ^ (j + 1) := by rw [Nat.div_div_eq_div_mul, Nat.pow_succ]
     generalize hM : N / 8 ^ j = M at *;have hMn : M ≤ 9223372036854775807 := by rw [← hM]; exact Nat.le_trans (Nat.div_le_self _ _) (by omega)
     have hand := i64_and7 (M : Int);have HNX : Hid (Ow G (.slice (some ⟨G, 0, none⟩) (k + 2) (k + 2)) (List.replicate (k + 1 - (j + 1)) 0#8 ++ (ol N (j + 1) ++ [0#8])) (wr.setCell ⟨G, I, none⟩ (.int .u8 (48 + (M : Int) % 8))) ∧ Nw w (wr.setCell ⟨G, I, none⟩ (.int .u8 (48 + (M : Int) % 8)))) := by
      rw [hI] at hb;exact ⟨hb, hN.setCell _ _ (.inr (by rw [HG.out]; exact Nat.le_refl _))⟩
     have HDV := tHid hdv;have hI0 : (0 : Int) ≤ (I : Int) := by omega
     have hI2 : (I : Int) < (k : Int) + 2 := by omega
     have hI3 : I < k + 2 := by omega
     have HKJ := tHid hI;clear HI HBAD HOK HST hO hN hlen hb hdv hM hI;rw [hIe]
     go_wp2_with fail
     go_roundg (k - j)
     case measure => omega
     case rel =>
      refine ⟨j + 1, by omega, by omega, ?_, ?_, HNX⟩
      ·rw [← HDV.out]; congr 1
      ·congr 1; omega
    ·obtain rfl : j = k + 1 := by omega
     have e0 : k + 1 - (k + 1) = 0 := by omega
     rw [e0, List.replicate_zero, List.nil_append] at hO;have hneg : (k : Int) - ((k + 1 : Nat) : Int) = -1 := by omega
     rw [hneg];by_cases hz : N / 8 ^ (k + 1) = 0
     ·have HF2 := tHid (HOK.out hz wr hN hO);clear HI HBAD HOK HST hO hN hlen;rw [hz]
      go_wp2_with fail
      exact HF2.out
     ·have HF2 := tHid (HBAD.out hz wr hN);clear HI HBAD HOK HST hO hN hlen;generalize N / 8 ^ (k + 1) = M at *;have hz2 : ¬ (M : Int) = 0 := by omega
      have hz3 : ((M : Int) == 0) = false := by rw [beq_eq_false_iff_ne]; exact hz2
      go_wp2_with fail
      exact HF2.out
 ·rw [decide_eq_false hd] at HC;have hE : poE n d = 1 := by unfold poE; rw [if_neg hd]
  have HF : Hid (P (.returned (.tuple #[.slice none 0 0, .int .i64 1])) w) := by
   show P _ _;rw [hP, hE]; exact ⟨none, 0, 0, rfl, Fr.refl _ _, .inl ⟨by decide, rfl, rfl, rfl⟩⟩
  clear hP;go_enter Tryz.func40, Tryz.ntmps40
  go_wp2_with (first | (go_at_call 63; with_reducible refine HC.out.mono ?_; rintro e w1 ⟨rfl, rfl⟩))
  exact HF.out
def pbE (n d : Int) : Nat := if 2 ≤ d ∧ d ≤ 512 then (if fits n (d.toNat - 1) then 0 else 122) else 1
def pbL (n d : Int) : List By := bfd n (d.toNat - 1)
theorem bl_set (n : Int) (k j : Nat) (h : j < k) : (List.replicate (k + 1 - j) 0#8 ++ bl n j).set (k - j) (lb (n / 256 ^ j)) = List.replicate (k + 1 - (j + 1)) 0#8 ++ bl n (j + 1) := by
 have e1 : k + 1 - j = (k - j) + 1 := by omega
 have e2 : k + 1 - (j + 1) = k - j := by omega
 rw [e1, e2, List.replicate_succ', List.append_assoc, List.singleton_append, bl];have := set_mid 0#8 (lb (n / 256 ^ j)) (List.replicate (k - j) 0#8) (bl n j);rw [List.length_replicate] at this;exact this
theorem div_succ (n : Int) (j : Nat) : n / 256 ^ j / 256 = n / 256 ^ (j + 1) := by
 rw [Int.pow_succ, Int.ediv_ediv_of_nonneg (by have := pow_p j; omega)]
theorem div_rng (n : Int) (h1 : -9223372036854775808 ≤ n) (h2 : n ≤ 9223372036854775807) (j : Nat) : -9223372036854775808 ≤ n / 256 ^ j ∧ n / 256 ^ j ≤ 9223372036854775807 := by
 induction j with
 | zero => simp; omega
 | succ j ih => rw [← div_succ]; omega
theorem u8_or128 : ∀ x : By, bits .or .u8 (x.toNat : Int) 128 = ((x ||| 128#8).toNat : Int) := by decide +kernel
theorem putBinary_any (n d : Int) (w : World) (hn1 : -9223372036854775808 ≤ n) (hn2 : n ≤ 9223372036854775807) :
  Calls Tryz.prog 64 #[.int .i64 n, .int .i64 d] w (PutA (pbE n d) (pbL n d) w) := by
 refine asP fun P hP => ?_
 have HC := tHid (canHold_any d w);by_cases hd : 2 ≤ d ∧ d ≤ 512
 ·rw [decide_eq_true hd] at HC;obtain ⟨k, rfl⟩ : ∃ k : Nat, d = (k : Int) + 1 := ⟨(d - 1).toNat, by omega⟩;obtain ⟨hd1, hd2⟩ := hd;have hdk : ((k : Int) + 1).toNat - 1 = k := by omega
  obtain ⟨W0, hmk, hO, hN⟩ := makeB (k + 1) (by omega) w;have hmk2 : (Instr.makeSlice 22 (.int .i64 ((k : Int) + 1)) (.int .i64 ((k : Int) + 1))).run Tryz.prog w = .ok (.slice (some ⟨w.heap.size, 0, none⟩) (k + 1) (k + 1)) W0 := hmk;have HBAD : Hid (fits n k = false → ∀ W, Nw w W → P (.returned (.tuple #[.slice none 0 0, .int .i64 122])) W) := fun h W hW => by
   have hE : pbE n ((k : Int) + 1) = 122 := by unfold pbE; rw [if_pos ⟨hd1, hd2⟩, hdk, h]; rfl
   rw [hP, hE]; exact ⟨none, 0, 0, rfl, hW, .inl ⟨by decide, rfl, rfl, rfl⟩⟩
  have HOK : Hid (fits n k = true → ∀ W, Nw w W → Ow w.heap.size (.slice (some ⟨w.heap.size, 0, none⟩) (k + 1) (k + 1)) (bfd n k) W → P (.returned (.tuple #[.slice (some ⟨w.heap.size, 0, none⟩) (k + 1) (k + 1), .int .i64 0])) W) := fun h W hW hOW => by
   have hE : pbE n ((k : Int) + 1) = 0 := by unfold pbE; rw [if_pos ⟨hd1, hd2⟩, hdk, h]; rfl
   rw [hP, hE];refine ⟨_, _, _, rfl, hW, .inr ⟨rfl, w.heap.size, Nat.le_refl _, ?_⟩⟩;unfold pbL;rw [hdk];exact hOW
  have HST : Hid (Ow w.heap.size (.slice (some ⟨w.heap.size, 0, none⟩) (k + 1) (k + 1)) (List.replicate (k + 1 - 0) 0#8 ++ bl n 0) W0 ∧ Nw w W0) := by
   refine ⟨?_, hN⟩;have : List.replicate (k + 1 - 0) 0#8 ++ bl n 0 = List.replicate (k + 1) 0#8 := List.append_nil _;rw [this]; exact hO
  generalize hG : w.heap.size = G at *;have HG := tHid hG;clear hP hmk hO hN hdk hG;go_enter Tryz.func64, Tryz.ntmps64
  go_wp2_with (first | (go_at_call 63; with_reducible refine HC.out.mono ?_; rintro e w1 ⟨rfl, rfl⟩))
  go_loopg [0, 7] k (fun kx v0 v7 wr => ∃ j : Nat, j ≤ k ∧ k ≤ j + kx ∧ v0 = .int .i64 (n / 256 ^ j) ∧ v7 = .int .i64 ((k : Int) - (j : Int)) ∧ Hid (Ow G (.slice (some ⟨G, 0, none⟩) (k + 1) (k + 1)) (List.replicate (k + 1 - j) 0#8 ++ bl n j) wr ∧ Nw w wr))
  case atStart =>
   refine ⟨0, by omega, by omega, ?_, ?_, HST.out⟩
   ·first | rfl | (congr 1; simp)
   ·first | rfl | (congr 1; omega) | congr 1
  case round =>
   obtain ⟨j, hj, hkx, rfl, rfl, HI⟩ := hrel;obtain ⟨hO, hN⟩ := HI.out;have hlen : (List.replicate (k + 1 - j) 0#8 ++ bl n j).length = k + 1 := by
    rw [List.length_append, List.length_replicate, bl_length]; omega
   obtain ⟨hr1, hr2⟩ := div_rng n hn1 hn2 j;by_cases hlt : j < k
   ·obtain ⟨I, hI⟩ : ∃ I, k - j = I := ⟨_, rfl⟩;have hIe : (k : Int) - (j : Int) = (I : Int) := by omega
    obtain ⟨cv, hc1, hc2⟩ : ∃ cv, wr.cell? ⟨G, I, none⟩ = some (.int .u8 cv) ∧ wr.frozen? ⟨G, I, none⟩ = false := ⟨_, hO.at I (by rw [hlen]; omega)⟩;have hb := hO.put I (by rw [hlen]; omega) (lb (n / 256 ^ j)) ((n / 256 ^ j) % 256) (by rw [lb_toNat]);rw [← hI, bl_set n k j hlt] at hb;have hdv := div_succ n j;generalize hM : n / 256 ^ j = M at *;have HNX : Hid (Ow G (.slice (some ⟨G, 0, none⟩) (k + 1) (k + 1)) (List.replicate (k + 1 - (j + 1)) 0#8 ++ bl n (j + 1)) (wr.setCell ⟨G, I, none⟩ (.int .u8 (M % 256))) ∧ Nw w (wr.setCell ⟨G, I, none⟩ (.int .u8 (M % 256)))) := by
     rw [hI] at hb;exact ⟨hb, hN.setCell _ _ (.inr (by rw [HG.out]; exact Nat.le_refl _))⟩
    have HDV := tHid hdv;have hI0 : (0 : Int) < (I : Int) := by omega
    have hI2 : (I : Int) < (k : Int) + 1 := by omega
    have hI3 : I < k + 1 := by omega
    have HKJ := tHid hI;clear HI HBAD HOK HST hO hN hlen hb hdv hM hI;rw [hIe]
    go_wp2_with fail
    go_roundg (k - j - 1)
    case measure => omega
    case rel =>
     refine ⟨j + 1, by omega, by omega, ?_, ?_, HNX⟩
     ·rw [← HDV.out]
     ·congr 1; omega
   ·obtain rfl : j = k := by omega
    have e0 : j + 1 - j = 1 := by omega
    have hne : (j : Int) - (j : Int) = 0 := by omega
    have hO' : Ow G (.slice (some ⟨G, 0, none⟩) (j + 1) (j + 1)) (0#8 :: bl n j) wr := by rw [e0] at hO; exact hO
    rw [hne];obtain ⟨cv, hc1, hc2⟩ : ∃ cv, wr.cell? ⟨G, 0, none⟩ = some (.int .u8 cv) ∧ wr.frozen? ⟨G, 0, none⟩ = false := ⟨_, hO'.at 0 (by simp)⟩;have hput := hO'.put 0 (by simp) (hb (n / 256 ^ j)) (bits .or .u8 ((n / 256 ^ j) % 256) 128) (by rw [← lb_toNat, u8_or128]; rfl);have HOW : Hid (fits n j = true → P (.returned (.tuple #[.slice (some ⟨G, 0, none⟩) (j + 1) (j + 1), .int .i64 0])) (wr.setCell ⟨G, 0, none⟩ (.int .u8 (bits .or .u8 ((n / 256 ^ j) % 256) 128)))) := fun hf => HOK.out hf _ (hN.setCell _ _ (.inr (by rw [HG.out]; exact Nat.le_refl _))) hput
    have HBW := tHid (fun hf => HBAD.out hf wr hN);have hfe : fits n j = decide (-64 ≤ n / 256 ^ j ∧ n / 256 ^ j ≤ 63) := rfl;clear HI HBAD HOK HST hO hO' hN hlen hput;generalize n / 256 ^ j = M at *;by_cases g1 : M < -64
    ·have HF2 := tHid (HBW.out (by rw [hfe]; exact decide_eq_false (by omega)));have d1 : decide (M < -64) = true := decide_eq_true g1;clear HOW HBW hfe
     go_wp2_with fail
     exact HF2.out
    ·have d1 : decide (M < -64) = false := decide_eq_false g1;by_cases g2 : 63 < M
     ·have HF2 := tHid (HBW.out (by rw [hfe]; exact decide_eq_false (by omega)));have d2 : decide (63 < M) = true := decide_eq_true g2;clear HOW HBW hfe
      go_wp2_with fail
      exact HF2.out
     ·have HF2 := tHid (HOW.out (by rw [hfe]; exact decide_eq_true (by omega)));have d2 : decide (63 < M) = false := decide_eq_false g2;clear HOW HBW hfe
      go_wp2_with fail
      exact HF2.out
 ·rw [decide_eq_false hd] at HC;have hE : pbE n d = 1 := by unfold pbE; rw [if_neg hd]
  have HF : Hid (P (.returned (.tuple #[.slice none 0 0, .int .i64 1])) w) := by
   show P _ _;rw [hP, hE]; exact ⟨none, 0, 0, rfl, Fr.refl _ _, .inl ⟨by decide, rfl, rfl, rfl⟩⟩
  clear hP;go_enter Tryz.func64, Tryz.ntmps64
  go_wp2_with (first | (go_at_call 63; with_reducible refine HC.out.mono ?_; rintro e w1 ⟨rfl, rfl⟩))
  exact HF.out
end Go.Proofs.YtlenihpbhlfcoaaGreatDoor

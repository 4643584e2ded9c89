import Derived.Test.YtpnacppmdlnjlabMaA
import Derived.Lib.MinMax
namespace Go.Proofs.Ytpnacppmdlnjlab
open Go.RowKit
set_option linter.unusedVariables false
set_option maxHeartbeats 8000000 in
set_option maxRecDepth 100000 in
theorem putNumber_any (K : Nat → Prop) (w : World) (hK : ∀ k, K k → k < w.heap.size) (v : Value) (b : List By) (hb : Mine K v b w) (n : Nat) (hn : n ≤ 1000000000) (hs : b.length ≤ 1000000000) :
    Calls Try.prog 25 #[v, .int .i64 n] w fun e w' => ∃ v', e = .returned v' ∧ Mine K v' (b ++ ext n) w' ∧ Fr (fun k => ¬ K k) w w' := by
  obtain ⟨P, hP⟩ : ∃ P : Ending → World → Prop, P = fun e w' => ∃ v', e = .returned v' ∧ Mine K v' (b ++ ext n) w' ∧ Fr (fun k => ¬ K k) w w' := ⟨_, rfl⟩
  rw [← hP]
  have HP : Hid (P = fun e w' => ∃ v', e = .returned v' ∧ Mine K v' (b ++ ext n) w' ∧ Fr (fun k => ¬ K k) w w') := hP
  clear hP
  by_cases h15 : n < 15
  · have HF : Hid (P (.returned v) w) := by
      show P _ _
      rw [HP.out]
      refine ⟨v, rfl, ?_, Fr.refl _ _⟩
      unfold ext
      rw [if_pos h15, List.append_nil]; exact hb
    have hz : (n : Int) < 15 := by omega
    clear HP hb hK
    go_enter Try.func25, Try.ntmps25
    go_wp2
    exact HF.out
  · have hz : ¬ (n : Int) < 15 := by omega
    have HI0 : Hid (Mine K v (b ++ List.replicate 0 255#8) w ∧ Fr (fun k => ¬ K k) w w) := ⟨by rw [List.replicate_zero, List.append_nil]; exact hb, Fr.refl _ _⟩
    have HK : Hid (∀ k, K k → k < w.heap.size) := hK
    obtain ⟨m, hm⟩ : ∃ m, m = n - 15 := ⟨_, rfl⟩
    have hz1 : (n : Int) - 15 = (m : Int) := by omega
    have hnm : Hid (n = m + 15) := by show _ = _; omega
    clear hb hK hm
    go_enter Try.func25, Try.ntmps25
    go_wp2
    go_loopg [0, 1] m (fun kx x i wr => ∃ (j r : Nat), r ≤ kx ∧ i = .int .i64 r ∧ r ≤ m ∧ Hid (m = 255 * j + r ∧ Mine K x (b ++ List.replicate j 255#8) wr ∧ Fr (fun k => ¬ K k) w wr))
    case atStart => exact ⟨0, m, Nat.le_refl _, rfl, Nat.le_refl _, by omega, HI0.out⟩
    case round =>
      obtain ⟨j, r, hkx, rfl, hrm, HI⟩ := hrel
      clear HI0
      obtain ⟨hj, hM, hF⟩ := HI.out
      have hnm' := hnm.out
      have hlen : (b ++ List.replicate j 255#8).length ≤ 150000000000000 := by rw [List.length_append, List.length_replicate]; omega
      by_cases h255 : 255 ≤ r
      · obtain ⟨a, c, v', W, rfl, HAP, HN⟩ := mine_step K _ wr (fun k hk => Nat.lt_of_lt_of_le (HK.out k hk) hF.size) u0 hM hlen 255#8 255 rfl
        have HN' : Hid (m = 255 * (j + 1) + (r - 255) ∧ Mine K v' (b ++ List.replicate (j + 1) 255#8) W ∧ Fr (fun k => ¬ K k) w W) := by
          refine ⟨by omega, ?_, hF.trans HN.out.2⟩
          have := HN.out.1
          rw [List.append_assoc] at this
          rw [List.replicate_succ', ]; exact this
        have hz2 : (255 : Int) ≤ (r : Int) := by omega
        have hz3 : (r : Int) - 255 = ((r - 255 : Nat) : Int) := by omega
        clear HI hM hF HN HP HK hj hnm hnm' hlen
        generalize (b ++ List.replicate j 255#8).length = ln at *
        generalize hr' : r - 255 = r' at *
        have hr2 : r' < r := by omega
        clear hr'
        go_wp2_with (first
          | (at_builtin; refine Lib.wpList_append_run _ rfl _ _ 22 22 rfl (.slice a ln c) (.slice (some ⟨wr.heap.size, 0, none⟩) 1 1) (by simp [Act.eval]) (by simp [Act.eval]) _ _ (HAP.out _) ?_))
        go_roundg r'
        case measure => omega
        case rel => exact ⟨j + 1, r', Nat.le_refl _, rfl, by omega, HN'⟩
      · have hx : (r : Int) = ((BitVec.ofNat 8 r).toNat : Int) := by rw [BitVec.toNat_ofNat]; omega
        obtain ⟨a, c, v', W, rfl, HAP, HN⟩ := mine_step K _ wr (fun k hk => Nat.lt_of_lt_of_le (HK.out k hk) hF.size) u0 hM hlen (BitVec.ofNat 8 r) r hx
        have HF : Hid (P (.returned v') W) := by
          show P _ _
          rw [HP.out]
          refine ⟨v', rfl, ?_, hF.trans HN.out.2⟩
          have := HN.out.1
          rw [List.append_assoc] at this
          have e : ext n = List.replicate j 255#8 ++ [BitVec.ofNat 8 r] := by
            unfold ext numb
            rw [if_neg h15, show n - 15 = m by omega, show m / 255 = j by omega, show m % 255 = r by omega]
          rw [e]; exact this
        have hz2 : ¬ (255 : Int) ≤ (r : Int) := by omega
        have hw8 : IntKind.u8.wrap (r : Int) = (r : Int) := by rw [IntKind.wrap_u8]; omega
        clear HI hM hF HN HP HK hj hnm hnm' hlen hx
        generalize (b ++ List.replicate j 255#8).length = ln at *
        go_wp2_with (first
          | (at_builtin; refine Lib.wpList_append_run _ rfl _ _ 22 22 rfl (.slice a ln c) (.slice (some ⟨wr.heap.size, 0, none⟩) 1 1) (by simp [Act.eval]) (by simp [Act.eval]) _ _ (HAP.out _) ?_))
        exact HF.out
theorem or_tok (x y : Nat) (hx : x ≤ 15) (hy : y ≤ 15) : bits .or .i64 ((x : Int) * 16) (y : Int) = ((16 * x + y : Nat) : Int) := by
  have h2 : x <<< 4 = x * 16 := by rw [Nat.shiftLeft_eq]
  have e : ((x : Int) * (16 : Int)) = ((x <<< 4 : Nat) : Int) := by rw [h2]; omega
  show IntKind.i64.wrap (((BitVec.ofInt 64 ((x : Int) * (16 : Int)) ||| BitVec.ofInt 64 (y : Int) : BitVec 64).toNat : Nat) : Int) = _
  rw [e, BitVec.toNat_or, BitVec.ofInt_natCast, BitVec.ofInt_natCast, BitVec.toNat_ofNat, BitVec.toNat_ofNat]
  rw [Nat.mod_eq_of_lt (show y < 2 ^ 64 by omega), Nat.mod_eq_of_lt (show x <<< 4 < 2 ^ 64 by omega), ← Nat.shiftLeft_add_eq_or_of_lt (show y < 2 ^ 4 by omega), h2, IntKind.wrap_i64]
  omega
end Go.Proofs.Ytpnacppmdlnjlab

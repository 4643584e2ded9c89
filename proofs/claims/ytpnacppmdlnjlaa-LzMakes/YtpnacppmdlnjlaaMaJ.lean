import Derived.Test.YtpnacppmdlnjlaaMaI
namespace Go.Proofs.Ytpnacppmdlnjlaa
open Go.RowKit
set_option linter.unusedVariables false
set_option maxHeartbeats 8000000 in
set_option maxRecDepth 100000 in
theorem rnumber_any (w : World) (n : Nat) (hn : n ≤ 1000000000) :
    Calls Try.prog 38 #[.int .i64 n] w fun e w' => ∃ v', e = .returned v' ∧ Mine (fun k => k < w.heap.size) v' (numb n) w' ∧ Nw w w' := by
  obtain ⟨P, hP⟩ : ∃ P : Ending → World → Prop, P = fun e w' => ∃ v', e = .returned v' ∧ Mine (fun k => k < w.heap.size) v' (numb n) w' ∧ Nw w w' := ⟨_, rfl⟩
  rw [← hP]
  have HP : Hid (P = fun e w' => ∃ v', e = .returned v' ∧ Mine (fun k => k < w.heap.size) v' (numb n) w' ∧ Nw w w') := hP
  clear hP
  have HI0 : Hid (Mine (fun k => k < w.heap.size) (.slice (some ⟨w.heap.size, 0, none⟩) 0 0) (List.replicate 0 255#8) (w.alloc (.cells #[] 5)) ∧ Nw w (w.alloc (.cells #[] 5))) := ⟨.inr ⟨w.heap.size, by simp, Ow.empty w⟩, (Fr.refl _ _).alloc _⟩
  go_enter Try.func38, Try.ntmps38
  go_wp2
  go_loopg [0, 3] n (fun kx i x wr => ∃ (j r : Nat), r ≤ kx ∧ i = .int .i64 r ∧ r ≤ n ∧ Hid (n = 255 * j + r ∧ Mine (fun k => k < w.heap.size) x (List.replicate j 255#8) wr ∧ Nw w wr))
  case atStart => exact ⟨0, n, Nat.le_refl _, rfl, Nat.le_refl _, by omega, HI0.out⟩
  case round =>
    obtain ⟨j, r, hkx, rfl, hrm, HI⟩ := hrel
    clear HI0
    obtain ⟨hj, hM, hN⟩ := HI.out
    have hlen : (List.replicate j 255#8).length ≤ 150000000000000 := by rw [List.length_replicate]; omega
    by_cases h255 : 255 ≤ r
    · obtain ⟨a, c, v', W, rfl, HAP, HN⟩ := mine_step _ _ wr (fun k hk => Nat.lt_of_lt_of_le hk hN.size) u3 hM hlen 255#8 255 rfl
      have HN' : Hid (n = 255 * (j + 1) + (r - 255) ∧ Mine (fun k => k < w.heap.size) v' (List.replicate (j + 1) 255#8) W ∧ Nw w W) := by
        refine ⟨by omega, ?_, nw_of (hN.any.trans HN.out.2)⟩
        rw [List.replicate_succ']; exact HN.out.1
      have hz2 : (255 : Int) ≤ (r : Int) := by omega
      have hz3 : (r : Int) - 255 = ((r - 255 : Nat) : Int) := by omega
      clear HI hM hN HN HP hj hlen
      generalize (List.replicate j 255#8).length = ln at *
      generalize hr' : r - 255 = r' at *
      have hr2 : r' < r := by omega
      clear hr'
      go_wp2_with (first
        | (at_builtin; refine Lib.wpList_append_run _ rfl _ _ 22 22 rfl (.slice a ln c) (.slice (some ⟨wr.heap.size, 0, none⟩) 1 1) (by simp [Act.eval]) (by simp [Act.eval]) _ _ (HAP.out _) ?_))
      go_roundg r'
      case measure => omega
      case rel => exact ⟨j + 1, r', Nat.le_refl _, rfl, by omega, HN'⟩
    · have hx : (r : Int) = ((BitVec.ofNat 8 r).toNat : Int) := by rw [BitVec.toNat_ofNat]; omega
      obtain ⟨a, c, v', W, rfl, HAP, HN⟩ := mine_step _ _ wr (fun k hk => Nat.lt_of_lt_of_le hk hN.size) u3 hM hlen (BitVec.ofNat 8 r) r hx
      have HF : Hid (P (.returned v') W) := by
        show P _ _
        rw [HP.out]
        refine ⟨v', rfl, ?_, nw_of (hN.any.trans HN.out.2)⟩
        have e : numb n = List.replicate j 255#8 ++ [BitVec.ofNat 8 r] := by
          unfold numb
          rw [show n / 255 = j by omega, show n % 255 = r by omega]
        rw [e]; exact HN.out.1
      have hz2 : ¬ (255 : Int) ≤ (r : Int) := by omega
      have hw8 : IntKind.u8.wrap (r : Int) = (r : Int) := by rw [IntKind.wrap_u8]; omega
      clear HI hM hN HN HP hj hlen hx
      generalize (List.replicate j 255#8).length = ln at *
      go_wp2_with (first
        | (at_builtin; refine Lib.wpList_append_run _ rfl _ _ 22 22 rfl (.slice a ln c) (.slice (some ⟨wr.heap.size, 0, none⟩) 1 1) (by simp [Act.eval]) (by simp [Act.eval]) _ _ (HAP.out _) ?_))
      exact HF.out
theorem rlow_any (w : World) (n : Nat) : Calls Try.prog 37 #[.int .i64 n] w fun e w' => e = .returned (.int .i64 (min n 15 : Nat)) ∧ w' = w := by
  by_cases h : n < 15
  · rw [Nat.min_eq_left (by omega)]
    have hz : (n : Int) < 15 := by omega
    go_enter Try.func37, Try.ntmps37
    go_wp2
    try go_ret
    exact ⟨rfl, rfl⟩
  · rw [Nat.min_eq_right (by omega)]
    have hz : ¬ (n : Int) < 15 := by omega
    go_enter Try.func37, Try.ntmps37
    go_wp2
    try go_ret
    exact ⟨rfl, rfl⟩
set_option maxHeartbeats 8000000 in
theorem rcan_any (w : World) (a : Option Addr) (n c : Nat) (s : Si) (r : Bool) (hr : r = true ↔ canI s) : Calls Try.prog 46 #[.agg #[.slice a n c, .int .i64 s.b, .int .i64 s.n]] w fun e w' => e = .returned (.bool r) ∧ Nw w w' := by
  have hA : Nw w (w.alloc (.cells #[.slice a n c, .int .i64 s.b, .int .i64 s.n] 36)) := (Fr.refl _ _).alloc _
  have hc : canI s ↔ 1 ≤ s.b ∧ s.b ≤ 65535 ∧ 4 ≤ s.n := Iff.rfl
  rw [hc] at hr
  clear hc
  generalize s.b = zb at *
  generalize s.n = zn at *
  by_cases h1 : 1 ≤ zb
  · by_cases h2 : zb ≤ 65535
    · by_cases h3 : 4 ≤ zn
      · obtain rfl : r = true := hr.2 ⟨h1, h2, h3⟩
        clear hr
        go_enter Try.func46, Try.ntmps46
        go_wp2
        try go_ret
        exact ⟨by simp, hA⟩
      · obtain rfl : r = false := by cases r with
          | false => rfl
          | true => exact absurd (hr.1 rfl).2.2 h3
        clear hr
        go_enter Try.func46, Try.ntmps46
        go_wp2
        try go_ret
        exact ⟨by simp, hA⟩
    · obtain rfl : r = false := by cases r with
        | false => rfl
        | true => exact absurd (hr.1 rfl).2.1 h2
      clear hr
      go_enter Try.func46, Try.ntmps46
      go_wp2
      try go_ret
      exact ⟨by simp, hA⟩
  · obtain rfl : r = false := by cases r with
      | false => rfl
      | true => exact absurd (hr.1 rfl).1 h1
    clear hr
    go_enter Try.func46, Try.ntmps46
    go_wp2
    try go_ret
    exact ⟨by simp, hA⟩
end Go.Proofs.Ytpnacppmdlnjlaa

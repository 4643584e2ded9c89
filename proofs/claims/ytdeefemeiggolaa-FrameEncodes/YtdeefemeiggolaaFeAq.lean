import Derived.Test.YtdeefemeiggolaaQw
namespace Go.Proofs.Ytdeefemeiggolaa
open Go.RowKit
set_option linter.unusedVariables false
/-! ### Encode and Skip refuse -/
set_option maxHeartbeats 4000000 in
theorem fEncode_arg (w : World) (vp : Value) (k : Int) (b1 b2 b3 b4 : Bool) (h : k < 4 ∨ 7 < k) :
    Calls Try.prog 10 #[vp, .agg #[.int .i64 k, .bool b1, .bool b2, .bool b3, .bool b4]] w fun e w' => e = .returned (.tuple #[.slice none 0 0, .int .i64 1]) ∧ Nw w w' := by
  obtain ⟨P, hP⟩ : ∃ P : Ending → World → Prop, P = fun e w' => e = .returned (.tuple #[.slice none 0 0, .int .i64 1]) ∧ Nw w w' := ⟨_, rfl⟩
  rw [← hP]
  have HF : Hid (P (.returned (.tuple #[.slice none 0 0, .int .i64 1])) (w.alloc (.cells #[.int .i64 k, .bool b1, .bool b2, .bool b3, .bool b4] 24))) := by show P _ _; rw [hP]; exact ⟨rfl, (Fr.refl _ _).alloc _⟩
  clear hP
  by_cases h1 : k < 4
  · go_enter Try.func10, Try.ntmps10
    go_wp2
    exact HF.out
  · have h2 : 7 < k := by omega
    go_enter Try.func10, Try.ntmps10
    go_wp2
    exact HF.out
set_option maxHeartbeats 4000000 in
theorem fEncode_long (w : World) (a : Option Addr) (n c : Nat) (k : Int) (b1 b2 b3 b4 : Bool) (h1 : 4 ≤ k) (h2 : k ≤ 7) (h : 4194304 < n) :
    Calls Try.prog 10 #[.slice a n c, .agg #[.int .i64 k, .bool b1, .bool b2, .bool b3, .bool b4]] w fun e w' => e = .returned (.tuple #[.slice none 0 0, .int .i64 2]) ∧ Nw w w' := by
  obtain ⟨P, hP⟩ : ∃ P : Ending → World → Prop, P = fun e w' => e = .returned (.tuple #[.slice none 0 0, .int .i64 2]) ∧ Nw w w' := ⟨_, rfl⟩
  rw [← hP]
  have HF : Hid (P (.returned (.tuple #[.slice none 0 0, .int .i64 2])) (w.alloc (.cells #[.int .i64 k, .bool b1, .bool b2, .bool b3, .bool b4] 24))) := by show P _ _; rw [hP]; exact ⟨rfl, (Fr.refl _ _).alloc _⟩
  clear hP
  have hz1 : ¬ k < 4 := by omega
  have hz2 : ¬ (7 : Int) < k := by omega
  have hz3 : (4194304 : Int) < (n : Int) := by omega
  go_enter Try.func10, Try.ntmps10
  go_wp2
  exact HF.out
set_option maxHeartbeats 4000000 in
theorem fSkip_arg (w : World) (vp : Value) (u : Int) (h : u < 0 ∨ 15 < u) :
    Calls Try.prog 12 #[.int .i64 u, vp] w fun e w' => e = .returned (.tuple #[.slice none 0 0, .int .i64 1]) ∧ w' = w := by
  obtain ⟨P, hP⟩ : ∃ P : Ending → World → Prop, P = fun e w' => e = .returned (.tuple #[.slice none 0 0, .int .i64 1]) ∧ w' = w := ⟨_, rfl⟩
  rw [← hP]
  have HF : Hid (P (.returned (.tuple #[.slice none 0 0, .int .i64 1])) w) := by show P _ _; rw [hP]; exact ⟨rfl, rfl⟩
  clear hP
  by_cases h1 : u < 0
  · go_enter Try.func12, Try.ntmps12
    go_wp2
    exact HF.out
  · have h2 : 15 < u := by omega
    go_enter Try.func12, Try.ntmps12
    go_wp2
    exact HF.out
set_option maxHeartbeats 4000000 in
theorem fSkip_long (w : World) (a : Option Addr) (n c : Nat) (u : Int) (h1 : 0 ≤ u) (h2 : u ≤ 15) (h : 4194304 < n) :
    Calls Try.prog 12 #[.int .i64 u, .slice a n c] w fun e w' => e = .returned (.tuple #[.slice none 0 0, .int .i64 2]) ∧ w' = w := by
  obtain ⟨P, hP⟩ : ∃ P : Ending → World → Prop, P = fun e w' => e = .returned (.tuple #[.slice none 0 0, .int .i64 2]) ∧ w' = w := ⟨_, rfl⟩
  rw [← hP]
  have HF : Hid (P (.returned (.tuple #[.slice none 0 0, .int .i64 2])) w) := by show P _ _; rw [hP]; exact ⟨rfl, rfl⟩
  clear hP
  have hz1 : ¬ u < 0 := by omega
  have hz2 : ¬ (15 : Int) < u := by omega
  have hz3 : (4194304 : Int) < (n : Int) := by omega
  go_enter Try.func12, Try.ntmps12
  go_wp2
  exact HF.out
/-! ### The document's low and flag -/
theorem dflag_any (w : World) (x : Bool) (n : Nat) : Calls Try.prog 60 #[.bool x, .int .u8 n] w fun e w' => e = .returned (.int .u8 (if x = true then n else 0 : Nat)) ∧ w' = w := by
  cases x
  · go_enter Try.func60, Try.ntmps60
    go_wp2
    try go_ret
    exact ⟨rfl, rfl⟩
  · go_enter Try.func60, Try.ntmps60
    go_wp2
    try go_ret
    exact ⟨rfl, rfl⟩
set_option maxHeartbeats 8000000 in
set_option maxRecDepth 100000 in
theorem dlow_any (w : World) (n k : Nat) (hn : n < 18446744073709551616) (hk : k ≤ 8) :
    Calls Try.prog 28 #[.int .u64 n, .int .i64 k] w fun e w' => ∃ a l c, e = .returned (.slice a l c) ∧ Mine (fun k => k < w.heap.size) (.slice a l c) (lows n k) w' ∧ Nw w w' := by
  obtain ⟨P, hP⟩ : ∃ P : Ending → World → Prop, P = fun e w' => ∃ a l c, e = .returned (.slice a l c) ∧ Mine (fun k => k < w.heap.size) (.slice a l c) (lows n k) w' ∧ Nw w w' := ⟨_, rfl⟩
  rw [← hP]
  have HF : Hid (∀ a l c w', Mine (fun k => k < w.heap.size) (.slice a l c) (lows n k) w' ∧ Nw w w' → P (.returned (.slice a l c)) w') := fun a l c w' h => by rw [hP]; exact ⟨a, l, c, rfl, h⟩
  clear hP
  have HI0 : Hid (Mine (fun k => k < w.heap.size) (.slice none 0 0) (lows n 0) w ∧ Fr (fun k => ¬ k < w.heap.size) w w) := ⟨Mine.nil _ _, Fr.refl _ _⟩
  go_enter Try.func28, Try.ntmps28
  go_wp2
  go_loopg [5, 6] k (fun kx x i wr => ∃ (I : Nat), I ≤ k ∧ k - I ≤ kx ∧ i = .int .i64 I ∧ Hid (Mine (fun k => k < w.heap.size) x (lows n I) wr ∧ Fr (fun k => ¬ k < w.heap.size) w wr))
  case atStart => exact ⟨0, by omega, by omega, rfl, HI0.out⟩
  case round =>
    obtain ⟨I, hI, hkx, rfl, HI⟩ := hrel
    clear HI0
    by_cases hlt : I < k
    · obtain ⟨hM, hF⟩ := HI.out
      have hll : (lows n I).length ≤ 150000000000000 := by rw [lows_length]; omega
      have hq : n / 256 ^ I < 18446744073709551616 := Nat.lt_of_le_of_lt (Nat.div_le_self _ _) hn
      have hx : IntKind.u8.wrap ((n / 256 ^ I : Nat) : Int) = ((BitVec.ofNat 8 (n / 256 ^ I)).toNat : Int) := by rw [IntKind.wrap_u8, BitVec.toNat_ofNat]; omega
      obtain ⟨a, c, v', W, rfl, HAP, HN⟩ := mine_step (fun k => k < w.heap.size) _ wr (fun k hk => Nat.lt_of_lt_of_le hk hF.size) _ hM hll (BitVec.ofNat 8 (n / 256 ^ I)) _ hx
      have HN' : Hid (Mine (fun k => k < w.heap.size) v' (lows n (I + 1)) W ∧ Fr (fun k => ¬ k < w.heap.size) w W) := by
        refine ⟨?_, hF.trans HN.out.2⟩
        have := HN.out.1
        rw [lows_succ]; exact this
      clear HI hM hF HN HF hll hx
      generalize (lows n I).length = ln at *
      have hI8 : I = 0 ∨ I = 1 ∨ I = 2 ∨ I = 3 ∨ I = 4 ∨ I = 5 ∨ I = 6 ∨ I = 7 := by omega
      rcases hI8 with rfl | rfl | rfl | rfl | rfl | rfl | rfl | rfl
      · have hz : (0 : Int) < (k : Int) := by omega
        have HD : Hid ((n : Int) / 1 = ((n / 256 ^ 0 : Nat) : Int)) := by show _ = _; omega
        obtain ⟨q, hq0⟩ : ∃ q, n / 256 ^ 0 = q := ⟨_, rfl⟩
        rw [hq0] at HD HAP hq
        have hd := HD.out
        clear HD hq0
        go_wp2_with (first
          | (at_builtin; refine Lib.wpList_append_run _ rfl _ _ 22 22 rfl (.slice a ln c) (.slice (some ⟨wr.heap.size, 0, none⟩) 1 1) (by simp [Act.eval]) (by simp [Act.eval]) _ _ (HAP.out _) ?_))
        go_roundg (k - (0 + 1))
        all_goals (first | omega | exact ⟨0 + 1, by omega, by omega, rfl, HN'⟩)
      · have hz : (1 : Int) < (k : Int) := by omega
        have HD : Hid ((n : Int) / 256 = ((n / 256 ^ 1 : Nat) : Int)) := by show _ = _; omega
        obtain ⟨q, hq0⟩ : ∃ q, n / 256 ^ 1 = q := ⟨_, rfl⟩
        rw [hq0] at HD HAP hq
        have hd := HD.out
        clear HD hq0
        go_wp2_with (first
          | (at_builtin; refine Lib.wpList_append_run _ rfl _ _ 22 22 rfl (.slice a ln c) (.slice (some ⟨wr.heap.size, 0, none⟩) 1 1) (by simp [Act.eval]) (by simp [Act.eval]) _ _ (HAP.out _) ?_))
        go_roundg (k - (1 + 1))
        all_goals (first | omega | exact ⟨1 + 1, by omega, by omega, rfl, HN'⟩)
      · have hz : (2 : Int) < (k : Int) := by omega
        have HD : Hid ((n : Int) / 65536 = ((n / 256 ^ 2 : Nat) : Int)) := by show _ = _; omega
        obtain ⟨q, hq0⟩ : ∃ q, n / 256 ^ 2 = q := ⟨_, rfl⟩
        rw [hq0] at HD HAP hq
        have hd := HD.out
        clear HD hq0
        go_wp2_with (first
          | (at_builtin; refine Lib.wpList_append_run _ rfl _ _ 22 22 rfl (.slice a ln c) (.slice (some ⟨wr.heap.size, 0, none⟩) 1 1) (by simp [Act.eval]) (by simp [Act.eval]) _ _ (HAP.out _) ?_))
        go_roundg (k - (2 + 1))
        all_goals (first | omega | exact ⟨2 + 1, by omega, by omega, rfl, HN'⟩)
      · have hz : (3 : Int) < (k : Int) := by omega
        have HD : Hid ((n : Int) / 16777216 = ((n / 256 ^ 3 : Nat) : Int)) := by show _ = _; omega
        obtain ⟨q, hq0⟩ : ∃ q, n / 256 ^ 3 = q := ⟨_, rfl⟩
        rw [hq0] at HD HAP hq
        have hd := HD.out
        clear HD hq0
        go_wp2_with (first
          | (at_builtin; refine Lib.wpList_append_run _ rfl _ _ 22 22 rfl (.slice a ln c) (.slice (some ⟨wr.heap.size, 0, none⟩) 1 1) (by simp [Act.eval]) (by simp [Act.eval]) _ _ (HAP.out _) ?_))
        go_roundg (k - (3 + 1))
        all_goals (first | omega | exact ⟨3 + 1, by omega, by omega, rfl, HN'⟩)
      · have hz : (4 : Int) < (k : Int) := by omega
        have HD : Hid ((n : Int) / 4294967296 = ((n / 256 ^ 4 : Nat) : Int)) := by show _ = _; omega
        obtain ⟨q, hq0⟩ : ∃ q, n / 256 ^ 4 = q := ⟨_, rfl⟩
        rw [hq0] at HD HAP hq
        have hd := HD.out
        clear HD hq0
        go_wp2_with (first
          | (at_builtin; refine Lib.wpList_append_run _ rfl _ _ 22 22 rfl (.slice a ln c) (.slice (some ⟨wr.heap.size, 0, none⟩) 1 1) (by simp [Act.eval]) (by simp [Act.eval]) _ _ (HAP.out _) ?_))
        go_roundg (k - (4 + 1))
        all_goals (first | omega | exact ⟨4 + 1, by omega, by omega, rfl, HN'⟩)
      · have hz : (5 : Int) < (k : Int) := by omega
        have HD : Hid ((n : Int) / 1099511627776 = ((n / 256 ^ 5 : Nat) : Int)) := by show _ = _; omega
        obtain ⟨q, hq0⟩ : ∃ q, n / 256 ^ 5 = q := ⟨_, rfl⟩
        rw [hq0] at HD HAP hq
        have hd := HD.out
        clear HD hq0
        go_wp2_with (first
          | (at_builtin; refine Lib.wpList_append_run _ rfl _ _ 22 22 rfl (.slice a ln c) (.slice (some ⟨wr.heap.size, 0, none⟩) 1 1) (by simp [Act.eval]) (by simp [Act.eval]) _ _ (HAP.out _) ?_))
        go_roundg (k - (5 + 1))
        all_goals (first | omega | exact ⟨5 + 1, by omega, by omega, rfl, HN'⟩)
      · have hz : (6 : Int) < (k : Int) := by omega
        have HD : Hid ((n : Int) / 281474976710656 = ((n / 256 ^ 6 : Nat) : Int)) := by show _ = _; omega
        obtain ⟨q, hq0⟩ : ∃ q, n / 256 ^ 6 = q := ⟨_, rfl⟩
        rw [hq0] at HD HAP hq
        have hd := HD.out
        clear HD hq0
        go_wp2_with (first
          | (at_builtin; refine Lib.wpList_append_run _ rfl _ _ 22 22 rfl (.slice a ln c) (.slice (some ⟨wr.heap.size, 0, none⟩) 1 1) (by simp [Act.eval]) (by simp [Act.eval]) _ _ (HAP.out _) ?_))
        go_roundg (k - (6 + 1))
        all_goals (first | omega | exact ⟨6 + 1, by omega, by omega, rfl, HN'⟩)
      · have hz : (7 : Int) < (k : Int) := by omega
        have HD : Hid ((n : Int) / 72057594037927936 = ((n / 256 ^ 7 : Nat) : Int)) := by show _ = _; omega
        obtain ⟨q, hq0⟩ : ∃ q, n / 256 ^ 7 = q := ⟨_, rfl⟩
        rw [hq0] at HD HAP hq
        have hd := HD.out
        have hw7 : IntKind.u8.wrap (q : Int) = (q : Int) := by rw [IntKind.wrap_u8]; omega
        rw [hw7] at HAP
        clear HD hq0
        go_wp2_with (first
          | (at_builtin; refine Lib.wpList_append_run _ rfl _ _ 22 22 rfl (.slice a ln c) (.slice (some ⟨wr.heap.size, 0, none⟩) 1 1) (by simp [Act.eval]) (by simp [Act.eval]) _ _ (HAP.out _) ?_))
        go_roundg (k - (7 + 1))
        all_goals (first | omega | exact ⟨7 + 1, by omega, by omega, rfl, HN'⟩)
    · obtain rfl : I = k := by omega
      have hz : ¬ (I : Int) < (I : Int) := by omega
      obtain ⟨a, c, rfl, _, _⟩ := HI.out.1.sl.form
      have HF' : Hid (P (.returned (.slice a (lows n I).length c)) wr) := HF.out _ _ _ _ ⟨HI.out.1, HI.out.2.mono (fun k hk => .inr (by omega))⟩
      clear HI HF
      generalize (lows n I).length = ln at *
      go_wp2
      exact HF'.out
end Go.Proofs.Ytdeefemeiggolaa

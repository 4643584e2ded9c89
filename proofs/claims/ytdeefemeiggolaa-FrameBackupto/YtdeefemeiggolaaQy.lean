import Derived.Test.YtdeefemeiggolaaQw
import Derived.Test.YtdeefemeiggolaaQx
import Derived.Lib.AppendZeros
namespace Go.Proofs.Ytdeefemeiggolaa
open Go.RowKit
set_option linter.unusedVariables false
/-! ### Encode and Skip refuse -/
set_option maxHeartbeats 4000000 in
theorem fEncode_arg (w : World) (vp : Value) (k : Int) (b1 b2 b3 b4 : Bool) (h : k < 4 ∨ 7 < k) :
    Calls Try.prog 10 #[vp, .agg #[.int .i64 k, .bool b1, .bool b2, .bool b3, .bool b4]] w fun e w' => e = .returned (.tuple #[.slice none 0 0, .int .i64 1]) ∧ Nw w w' := by
  obtain ⟨P, hP⟩ : ∃ P : Ending → World → Prop, P = fun e w' => e = .returned (.tuple #[.slice none 0 0, .int .i64 1]) ∧ Nw w w' := ⟨_, rfl⟩
  rw [← hP]
  have HF : Hid (P (.returned (.tuple #[.slice none 0 0, .int .i64 1])) (w.alloc (.cells #[.int .i64 k, .bool b1, .bool b2, .bool b3, .bool b4] 24))) := by show P _ _; rw [hP]; exact ⟨rfl, (Fr.refl _ _).alloc _⟩
  clear hP
  by_cases h1 : k < 4
  · go_enter Try.func10, Try.ntmps10
    go_wp2
    exact HF.out
  · have h2 : 7 < k := by omega
    go_enter Try.func10, Try.ntmps10
    go_wp2
    exact HF.out
set_option maxHeartbeats 4000000 in
theorem fEncode_long (w : World) (a : Option Addr) (n c : Nat) (k : Int) (b1 b2 b3 b4 : Bool) (h1 : 4 ≤ k) (h2 : k ≤ 7) (h : 4194304 < n) :
    Calls Try.prog 10 #[.slice a n c, .agg #[.int .i64 k, .bool b1, .bool b2, .bool b3, .bool b4]] w fun e w' => e = .returned (.tuple #[.slice none 0 0, .int .i64 2]) ∧ Nw w w' := by
  obtain ⟨P, hP⟩ : ∃ P : Ending → World → Prop, P = fun e w' => e = .returned (.tuple #[.slice none 0 0, .int .i64 2]) ∧ Nw w w' := ⟨_, rfl⟩
  rw [← hP]
  have HF : Hid (P (.returned (.tuple #[.slice none 0 0, .int .i64 2])) (w.alloc (.cells #[.int .i64 k, .bool b1, .bool b2, .bool b3, .bool b4] 24))) := by show P _ _; rw [hP]; exact ⟨rfl, (Fr.refl _ _).alloc _⟩
  clear hP
  have hz1 : ¬ k < 4 := by omega
  have hz2 : ¬ (7 : Int) < k := by omega
  have hz3 : (4194304 : Int) < (n : Int) := by omega
  go_enter Try.func10, Try.ntmps10
  go_wp2
  exact HF.out
set_option maxHeartbeats 4000000 in
theorem fSkip_arg (w : World) (vp : Value) (u : Int) (h : u < 0 ∨ 15 < u) :
    Calls Try.prog 12 #[.int .i64 u, vp] w fun e w' => e = .returned (.tuple #[.slice none 0 0, .int .i64 1]) ∧ w' = w := by
  obtain ⟨P, hP⟩ : ∃ P : Ending → World → Prop, P = fun e w' => e = .returned (.tuple #[.slice none 0 0, .int .i64 1]) ∧ w' = w := ⟨_, rfl⟩
  rw [← hP]
  have HF : Hid (P (.returned (.tuple #[.slice none 0 0, .int .i64 1])) w) := by show P _ _; rw [hP]; exact ⟨rfl, rfl⟩
  clear hP
  by_cases h1 : u < 0
  · go_enter Try.func12, Try.ntmps12
    go_wp2
    exact HF.out
  · have h2 : 15 < u := by omega
    go_enter Try.func12, Try.ntmps12
    go_wp2
    exact HF.out
set_option maxHeartbeats 4000000 in
theorem fSkip_long (w : World) (a : Option Addr) (n c : Nat) (u : Int) (h1 : 0 ≤ u) (h2 : u ≤ 15) (h : 4194304 < n) :
    Calls Try.prog 12 #[.int .i64 u, .slice a n c] w fun e w' => e = .returned (.tuple #[.slice none 0 0, .int .i64 2]) ∧ w' = w := by
  obtain ⟨P, hP⟩ : ∃ P : Ending → World → Prop, P = fun e w' => e = .returned (.tuple #[.slice none 0 0, .int .i64 2]) ∧ w' = w := ⟨_, rfl⟩
  rw [← hP]
  have HF : Hid (P (.returned (.tuple #[.slice none 0 0, .int .i64 2])) w) := by show P _ _; rw [hP]; exact ⟨rfl, rfl⟩
  clear hP
  have hz1 : ¬ u < 0 := by omega
  have hz2 : ¬ (15 : Int) < u := by omega
  have hz3 : (4194304 : Int) < (n : Int) := by omega
  go_enter Try.func12, Try.ntmps12
  go_wp2
  exact HF.out
/-! ### The document's low and flag -/
theorem dflag_any (w : World) (x : Bool) (n : Nat) : Calls Try.prog 60 #[.bool x, .int .u8 n] w fun e w' => e = .returned (.int .u8 (if x = true then n else 0 : Nat)) ∧ w' = w := by
  cases x
  · go_enter Try.func60, Try.ntmps60
    go_wp2
    try go_ret
    exact ⟨rfl, rfl⟩
  · go_enter Try.func60, Try.ntmps60
    go_wp2
    try go_ret
    exact ⟨rfl, rfl⟩
set_option maxHeartbeats 8000000 in
set_option maxRecDepth 100000 in
theorem dlow_any (w : World) (n k : Nat) (hn : n < 18446744073709551616) (hk : k ≤ 8) :
    Calls Try.prog 28 #[.int .u64 n, .int .i64 k] w fun e w' => ∃ a l c, e = .returned (.slice a l c) ∧ Mine (fun k => k < w.heap.size) (.slice a l c) (lows n k) w' ∧ Nw w w' := by
  obtain ⟨P, hP⟩ : ∃ P : Ending → World → Prop, P = fun e w' => ∃ a l c, e = .returned (.slice a l c) ∧ Mine (fun k => k < w.heap.size) (.slice a l c) (lows n k) w' ∧ Nw w w' := ⟨_, rfl⟩
  rw [← hP]
  have HF : Hid (∀ a l c w', Mine (fun k => k < w.heap.size) (.slice a l c) (lows n k) w' ∧ Nw w w' → P (.returned (.slice a l c)) w') := fun a l c w' h => by rw [hP]; exact ⟨a, l, c, rfl, h⟩
  clear hP
  have HI0 : Hid (Mine (fun k => k < w.heap.size) (.slice none 0 0) (lows n 0) w ∧ Fr (fun k => ¬ k < w.heap.size) w w) := ⟨Mine.nil _ _, Fr.refl _ _⟩
  go_enter Try.func28, Try.ntmps28
  go_wp2
  go_loopg [5, 6] k (fun kx x i wr => ∃ (I : Nat), I ≤ k ∧ k - I ≤ kx ∧ i = .int .i64 I ∧ Hid (Mine (fun k => k < w.heap.size) x (lows n I) wr ∧ Fr (fun k => ¬ k < w.heap.size) w wr))
  case atStart => exact ⟨0, by omega, by omega, rfl, HI0.out⟩
  case round =>
    obtain ⟨I, hI, hkx, rfl, HI⟩ := hrel
    clear HI0
    by_cases hlt : I < k
    · obtain ⟨hM, hF⟩ := HI.out
      have hll : (lows n I).length ≤ 150000000000000 := by rw [lows_length]; omega
      have hq : n / 256 ^ I < 18446744073709551616 := Nat.lt_of_le_of_lt (Nat.div_le_self _ _) hn
      have hx : IntKind.u8.wrap ((n / 256 ^ I : Nat) : Int) = ((BitVec.ofNat 8 (n / 256 ^ I)).toNat : Int) := by rw [IntKind.wrap_u8, BitVec.toNat_ofNat]; omega
      obtain ⟨a, c, v', W, rfl, HAP, HN⟩ := mine_step (fun k => k < w.heap.size) _ wr (fun k hk => Nat.lt_of_lt_of_le hk hF.size) _ hM hll (BitVec.ofNat 8 (n / 256 ^ I)) _ hx
      have HN' : Hid (Mine (fun k => k < w.heap.size) v' (lows n (I + 1)) W ∧ Fr (fun k => ¬ k < w.heap.size) w W) := by
        refine ⟨?_, hF.trans HN.out.2⟩
        have := HN.out.1
        rw [lows_succ]; exact this
      clear HI hM hF HN HF hll hx
      generalize (lows n I).length = ln at *
      have hI8 : I = 0 ∨ I = 1 ∨ I = 2 ∨ I = 3 ∨ I = 4 ∨ I = 5 ∨ I = 6 ∨ I = 7 := by omega
      rcases hI8 with rfl | rfl | rfl | rfl | rfl | rfl | rfl | rfl
      · have hz : (0 : Int) < (k : Int) := by omega
        have HD : Hid ((n : Int) / 1 = ((n / 256 ^ 0 : Nat) : Int)) := by show _ = _; omega
        obtain ⟨q, hq0⟩ : ∃ q, n / 256 ^ 0 = q := ⟨_, rfl⟩
        rw [hq0] at HD HAP hq
        have hd := HD.out
        clear HD hq0
        go_wp2_with (first
          | (at_builtin; refine Lib.wpList_append_run _ rfl _ _ 22 22 rfl (.slice a ln c) (.slice (some ⟨wr.heap.size, 0, none⟩) 1 1) (by simp [Act.eval]) (by simp [Act.eval]) _ _ (HAP.out _) ?_))
        go_roundg (k - (0 + 1))
        all_goals (first | omega | exact ⟨0 + 1, by omega, by omega, rfl, HN'⟩)
      · have hz : (1 : Int) < (k : Int) := by omega
        have HD : Hid ((n : Int) / 256 = ((n / 256 ^ 1 : Nat) : Int)) := by show _ = _; omega
        obtain ⟨q, hq0⟩ : ∃ q, n / 256 ^ 1 = q := ⟨_, rfl⟩
        rw [hq0] at HD HAP hq
        have hd := HD.out
        clear HD hq0
        go_wp2_with (first
          | (at_builtin; refine Lib.wpList_append_run _ rfl _ _ 22 22 rfl (.slice a ln c) (.slice (some ⟨wr.heap.size, 0, none⟩) 1 1) (by simp [Act.eval]) (by simp [Act.eval]) _ _ (HAP.out _) ?_))
        go_roundg (k - (1 + 1))
        all_goals (first | omega | exact ⟨1 + 1, by omega, by omega, rfl, HN'⟩)
      · have hz : (2 : Int) < (k : Int) := by omega
        have HD : Hid ((n : Int) / 65536 = ((n / 256 ^ 2 : Nat) : Int)) := by show _ = _; omega
        obtain ⟨q, hq0⟩ : ∃ q, n / 256 ^ 2 = q := ⟨_, rfl⟩
        rw [hq0] at HD HAP hq
        have hd := HD.out
        clear HD hq0
        go_wp2_with (first
          | (at_builtin; refine Lib.wpList_append_run _ rfl _ _ 22 22 rfl (.slice a ln c) (.slice (some ⟨wr.heap.size, 0, none⟩) 1 1) (by simp [Act.eval]) (by simp [Act.eval]) _ _ (HAP.out _) ?_))
        go_roundg (k - (2 + 1))
        all_goals (first | omega | exact ⟨2 + 1, by omega, by omega, rfl, HN'⟩)
      · have hz : (3 : Int) < (k : Int) := by omega
        have HD : Hid ((n : Int) / 16777216 = ((n / 256 ^ 3 : Nat) : Int)) := by show _ = _; omega
        obtain ⟨q, hq0⟩ : ∃ q, n / 256 ^ 3 = q := ⟨_, rfl⟩
        rw [hq0] at HD HAP hq
        have hd := HD.out
        clear HD hq0
        go_wp2_with (first
          | (at_builtin; refine Lib.wpList_append_run _ rfl _ _ 22 22 rfl (.slice a ln c) (.slice (some ⟨wr.heap.size, 0, none⟩) 1 1) (by simp [Act.eval]) (by simp [Act.eval]) _ _ (HAP.out _) ?_))
        go_roundg (k - (3 + 1))
        all_goals (first | omega | exact ⟨3 + 1, by omega, by omega, rfl, HN'⟩)
      · have hz : (4 : Int) < (k : Int) := by omega
        have HD : Hid ((n : Int) / 4294967296 = ((n / 256 ^ 4 : Nat) : Int)) := by show _ = _; omega
        obtain ⟨q, hq0⟩ : ∃ q, n / 256 ^ 4 = q := ⟨_, rfl⟩
        rw [hq0] at HD HAP hq
        have hd := HD.out
        clear HD hq0
        go_wp2_with (first
          | (at_builtin; refine Lib.wpList_append_run _ rfl _ _ 22 22 rfl (.slice a ln c) (.slice (some ⟨wr.heap.size, 0, none⟩) 1 1) (by simp [Act.eval]) (by simp [Act.eval]) _ _ (HAP.out _) ?_))
        go_roundg (k - (4 + 1))
        all_goals (first | omega | exact ⟨4 + 1, by omega, by omega, rfl, HN'⟩)
      · have hz : (5 : Int) < (k : Int) := by omega
        have HD : Hid ((n : Int) / 1099511627776 = ((n / 256 ^ 5 : Nat) : Int)) := by show _ = _; omega
        obtain ⟨q, hq0⟩ : ∃ q, n / 256 ^ 5 = q := ⟨_, rfl⟩
        rw [hq0] at HD HAP hq
        have hd := HD.out
        clear HD hq0
        go_wp2_with (first
          | (at_builtin; refine Lib.wpList_append_run _ rfl _ _ 22 22 rfl (.slice a ln c) (.slice (some ⟨wr.heap.size, 0, none⟩) 1 1) (by simp [Act.eval]) (by simp [Act.eval]) _ _ (HAP.out _) ?_))
        go_roundg (k - (5 + 1))
        all_goals (first | omega | exact ⟨5 + 1, by omega, by omega, rfl, HN'⟩)
      · have hz : (6 : Int) < (k : Int) := by omega
        have HD : Hid ((n : Int) / 281474976710656 = ((n / 256 ^ 6 : Nat) : Int)) := by show _ = _; omega
        obtain ⟨q, hq0⟩ : ∃ q, n / 256 ^ 6 = q := ⟨_, rfl⟩
        rw [hq0] at HD HAP hq
        have hd := HD.out
        clear HD hq0
        go_wp2_with (first
          | (at_builtin; refine Lib.wpList_append_run _ rfl _ _ 22 22 rfl (.slice a ln c) (.slice (some ⟨wr.heap.size, 0, none⟩) 1 1) (by simp [Act.eval]) (by simp [Act.eval]) _ _ (HAP.out _) ?_))
        go_roundg (k - (6 + 1))
        all_goals (first | omega | exact ⟨6 + 1, by omega, by omega, rfl, HN'⟩)
      · have hz : (7 : Int) < (k : Int) := by omega
        have HD : Hid ((n : Int) / 72057594037927936 = ((n / 256 ^ 7 : Nat) : Int)) := by show _ = _; omega
        obtain ⟨q, hq0⟩ : ∃ q, n / 256 ^ 7 = q := ⟨_, rfl⟩
        rw [hq0] at HD HAP hq
        have hd := HD.out
        have hw7 : IntKind.u8.wrap (q : Int) = (q : Int) := by rw [IntKind.wrap_u8]; omega
        rw [hw7] at HAP
        clear HD hq0
        go_wp2_with (first
          | (at_builtin; refine Lib.wpList_append_run _ rfl _ _ 22 22 rfl (.slice a ln c) (.slice (some ⟨wr.heap.size, 0, none⟩) 1 1) (by simp [Act.eval]) (by simp [Act.eval]) _ _ (HAP.out _) ?_))
        go_roundg (k - (7 + 1))
        all_goals (first | omega | exact ⟨7 + 1, by omega, by omega, rfl, HN'⟩)
    · obtain rfl : I = k := by omega
      have hz : ¬ (I : Int) < (I : Int) := by omega
      obtain ⟨a, c, rfl, _, _⟩ := HI.out.1.sl.form
      have HF' : Hid (P (.returned (.slice a (lows n I).length c)) wr) := HF.out _ _ _ _ ⟨HI.out.1, HI.out.2.mono (fun k hk => .inr (by omega))⟩
      clear HI HF
      generalize (lows n I).length = ln at *
      go_wp2
      exact HF'.out
end Go.Proofs.Ytdeefemeiggolaa

namespace Go.Proofs.Ytdeefemeiggolaa
open Go.RowKit
set_option linter.unusedVariables false
/-! ### The document's Skip -/
theorem dSkip_arg (w : World) (vp : Value) (u : Int) (h : u < 0 ∨ 15 < u) :
    Calls Try.prog 13 #[.int .i64 u, vp] w fun e w' => e = .returned (.tuple #[.slice none 0 0, .int .i64 1]) ∧ w' = w := by
  obtain ⟨P, hP⟩ : ∃ P : Ending → World → Prop, P = fun e w' => e = .returned (.tuple #[.slice none 0 0, .int .i64 1]) ∧ w' = w := ⟨_, rfl⟩
  rw [← hP]
  have HF : Hid (P (.returned (.tuple #[.slice none 0 0, .int .i64 1])) w) := by show P _ _; rw [hP]; exact ⟨rfl, rfl⟩
  clear hP
  by_cases h1 : u < 0
  · go_enter Try.func13, Try.ntmps13
    go_wp2
    exact HF.out
  · have h2 : 15 < u := by omega
    go_enter Try.func13, Try.ntmps13
    go_wp2
    exact HF.out
theorem dSkip_long (w : World) (a : Option Addr) (n c : Nat) (u : Int) (h1 : 0 ≤ u) (h2 : u ≤ 15) (h : 4194304 < n) :
    Calls Try.prog 13 #[.int .i64 u, .slice a n c] w fun e w' => e = .returned (.tuple #[.slice none 0 0, .int .i64 2]) ∧ w' = w := by
  obtain ⟨P, hP⟩ : ∃ P : Ending → World → Prop, P = fun e w' => e = .returned (.tuple #[.slice none 0 0, .int .i64 2]) ∧ w' = w := ⟨_, rfl⟩
  rw [← hP]
  have HF : Hid (P (.returned (.tuple #[.slice none 0 0, .int .i64 2])) w) := by show P _ _; rw [hP]; exact ⟨rfl, rfl⟩
  clear hP
  have hz1 : ¬ u < 0 := by omega
  have hz2 : ¬ (15 : Int) < u := by omega
  have hz3 : (4194304 : Int) < (n : Int) := by omega
  go_enter Try.func13, Try.ntmps13
  go_wp2
  exact HF.out
theorem own_four (w : World) (K : Nat → Prop) (x y z u : By) (hK : ∀ k, K k → k < w.heap.size) : Mine K (.slice (some ⟨w.heap.size, 0, none⟩) 4 4) [x, y, z, u] (w.alloc (.cells #[.int .u8 x.toNat, .int .u8 y.toNat, .int .u8 z.toNat, .int .u8 u.toNat] 5)) := by
  refine .inr ⟨w.heap.size, fun h => by have := hK _ h; omega, [x, y, z, u], rfl, rfl, by simp, by simp, ?_⟩
  show (w.heap.push _)[w.heap.size]? = _
  rw [Array.getElem?_push_size]; rfl
theorem lows_skip (u : Nat) (h : u ≤ 15) : lows (407710288 + u) 4 = [BitVec.ofNat 8 (80 + u), 42#8, 77#8, 24#8] := by
  have : ∀ z : Fin 16, lows (407710288 + z.val) 4 = [BitVec.ofNat 8 (80 + z.val), 42#8, 77#8, 24#8] := by decide
  exact this ⟨u, by omega⟩
set_option maxHeartbeats 8000000 in
set_option maxRecDepth 100000 in
theorem dSkip_ok (w : World) (vp : Value) (b : List By) (hp : Old w vp b) (u : Nat) (hu : u ≤ 15) (hpl : b.length ≤ 4194304) :
    Calls Try.prog 13 #[.int .i64 u, vp] w fun e w' => ∃ a k, e = .returned (.tuple #[.slice a (skipB u b).length k, .int .i64 0]) ∧ Mine (fun k => k < w.heap.size) (.slice a (skipB u b).length k) (skipB u b) w' ∧ Nw w w' := by
  obtain ⟨P, hP⟩ : ∃ P : Ending → World → Prop, P = fun e w' => ∃ a k, e = .returned (.tuple #[.slice a (skipB u b).length k, .int .i64 0]) ∧ Mine (fun k => k < w.heap.size) (.slice a (skipB u b).length k) (skipB u b) w' ∧ Nw w w' := ⟨_, rfl⟩
  rw [← hP]
  obtain ⟨W1, hW1⟩ : ∃ W1, w.alloc (.cells #[.int .u8 ((80 + u : Nat) : Int), .int .u8 42, .int .u8 77, .int .u8 24] 5) = W1 := ⟨_, rfl⟩
  have hM1 : Mine (fun k => k < w.heap.size) (.slice (some ⟨w.heap.size, 0, none⟩) 4 4) (lows (407710288 + u) 4) W1 := by
    have := own_four w (fun k => k < w.heap.size) (BitVec.ofNat 8 (80 + u)) 42#8 77#8 24#8 (fun k hk => hk)
    rw [lows_skip u hu, ← hW1]
    have e : ((80 + u : Nat) : Int) = ((BitVec.ofNat 8 (80 + u)).toNat : Int) := by rw [BitVec.toNat_ofNat]; omega
    rw [e]; exact this
  have hN1 : Nw w W1 := by rw [← hW1]; exact (Fr.refl _ _).alloc _
  have H1 : Hid (Calls Try.prog 28 #[.int .u64 b.length, .int .i64 4] W1 fun e w2 => ∃ a l k, e = .returned (.slice a l k) ∧ ∃ a3 l3 k3 W3, Hid (∀ ty, (Builtin.append_ #[22, 22] ty #[.slice (some ⟨w.heap.size, 0, none⟩) 4 4, .slice a l k]).run Try.prog w2 = .ok (.slice a3 l3 k3) W3) ∧ ∃ a5 l5 k5 W5, Hid (∀ ty, (Builtin.append_ #[22, 22] ty #[.slice a3 l3 k3, vp]).run Try.prog W3 = .ok (.slice a5 l5 k5) W5) ∧ Hid (P (.returned (.tuple #[.slice a5 l5 k5, .int .i64 0])) W5)) := by
    show Calls _ _ _ _ _
    refine (dlow_any W1 b.length 4 (by omega) (by decide)).mono ?_
    rintro e w2 ⟨a, l, k, rfl, hM2, hN2⟩
    refine ⟨a, l, k, rfl, ?_⟩
    have h2 := hN1.trans hN2
    have hKw : ∀ k, k < w.heap.size → k < w2.heap.size := fun k hk => Nat.lt_of_lt_of_le hk h2.size
    obtain ⟨v3, W3, hap3, hM3, hF3⟩ := mine_app (fun k => k < w.heap.size) w2 hKw _ _ (hM1.nw hN2) _ _ (hM2.old.mono (fun _ h => h.elim)) (by simp [lows_length])
    obtain ⟨a3, k3, rfl, _, _⟩ := hM3.sl.form
    refine ⟨a3, _, k3, W3, hap3, ?_⟩
    have hF : Fr (fun k => ¬ k < w.heap.size) w W3 := h2.any.trans hF3
    have hb3 : Sl (fun k => w.heap.size ≤ k) vp b W3 := hp.kept hF (fun k hk => by omega)
    obtain ⟨v5, W, hap, hM5, hF5⟩ := mine_app (fun k => k < w.heap.size) W3 (fun k hk => Nat.lt_of_lt_of_le hk hF.size) _ _ hM3 vp b (hb3.mono (fun _ h => h.elim)) (by simp [lows_length]; omega)
    obtain ⟨a5, k5, rfl, _, _⟩ := hM5.sl.form
    refine ⟨a5, _, k5, W, hap, ?_⟩
    show P _ _
    rw [hP]
    exact ⟨a5, k5, rfl, hM5, (hF.trans hF5).mono (fun k hk => .inr (by omega))⟩
  obtain ⟨pa, pc, rfl, _, _⟩ := hp.form
  have HW1 : Hid (w.alloc (.cells #[.int .u8 ((80 + u : Nat) : Int), .int .u8 42, .int .u8 77, .int .u8 24] 5) = W1) := hW1
  have hz1 : ¬ (15 : Int) < (u : Int) := by omega
  have hz3 : ¬ (4194304 : Int) < (b.length : Int) := by omega
  have hz4 : (80 : Int) + (u : Int) = ((80 + u : Nat) : Int) := by omega
  have hz5 : ((80 + u : Nat) : Int) < 256 := by omega
  clear hP hp hM1 hN1 hW1
  generalize b.length = L at *
  generalize 80 + u = M at *
  go_enter Try.func13, Try.ntmps13
  go_wp2_with (first | (go_at_call 28; rw [HW1.out]; with_reducible refine H1.out.mono ?_; rintro e w2 ⟨a2, l2, k2, rfl, a3, l3, k3, W3, HAP3, a5, l5, k5, W5, HAP5, HF⟩) | (at_builtin; refine Lib.wpList_append_run _ rfl _ _ 22 22 rfl (.slice (some ⟨w.heap.size, 0, none⟩) 4 4) (.slice a2 l2 k2) (by simp [Act.eval]) (by simp [Act.eval]) _ _ (HAP3.out _) ?_) | (at_builtin; refine Lib.wpList_append_run _ rfl _ _ 22 22 rfl (.slice a3 l3 k3) (.slice pa L pc) (by simp [Act.eval]) (by simp [Act.eval]) _ _ (HAP5.out _) ?_))
  exact HF.out
end Go.Proofs.Ytdeefemeiggolaa

namespace Go.Proofs.Ytdeefemeiggolaa
open Go.RowKit
set_option linter.unusedVariables false
/-! ### The document's head -/
theorem lows_magic : lows 407708164 4 = [4#8, 34#8, 77#8, 24#8] := by decide
theorem dhead_tail (w : World) (P : Ending → World → Prop) (hd : List By) (hl : hd.length ≤ 10) (hP : ∀ a l c V, Mine (fun k => k < w.heap.size) (.slice a l c) (lows 407708164 4 ++ (hd ++ [hs hd])) V → Fr (fun k => ¬ k < w.heap.size) w V → P (.returned (.slice a l c)) V)
    (V : World) (a : Option Addr) (l c : Nat) (hM : Mine (fun k => k < w.heap.size) (.slice a l c) hd V) (hF : Fr (fun k => ¬ k < w.heap.size) w V) :
    Hid (Calls Try.prog 45 #[.int .u32 0, .slice a l c] V fun e w3 => ∃ q : Nat, e = .returned (.int .u32 q) ∧ q < 4294967296 ∧ ∃ a4 l4 c4 W4, Hid (∀ ty, (Builtin.append_ #[22, 22] ty #[.slice a l c, .slice (some ⟨w3.heap.size, 0, none⟩) 1 1]).run Try.prog (w3.alloc (.cells #[.int .u8 (IntKind.u8.wrap ((q : Int) / 256))] 5)) = .ok (.slice a4 l4 c4) W4) ∧ ∃ a5 l5 c5 W5, Hid (∀ ty, (Builtin.append_ #[22, 22] ty #[.slice (some ⟨W4.heap.size, 0, none⟩) 4 4, .slice a4 l4 c4]).run Try.prog (W4.alloc (.cells #[.int .u8 4, .int .u8 34, .int .u8 77, .int .u8 24] 5)) = .ok (.slice a5 l5 c5) W5) ∧ Hid (P (.returned (.slice a5 l5 c5)) W5)) := by
  show Calls _ _ _ _ _
  refine (rsum32_any 0#32 _ hd V hM.old).mono ?_
  rintro e w3 ⟨rfl, hN3⟩
  refine ⟨sm hd, rfl, sm_lt hd, ?_⟩
  have hq := sm_lt hd
  have hF3 : Fr (fun k => ¬ k < w.heap.size) w w3 := hF.trans hN3.any
  have hx : IntKind.u8.wrap ((sm hd : Int) / 256) = ((hs hd).toNat : Int) := by
    rw [IntKind.wrap_u8]; unfold hs; rw [BitVec.toNat_ofNat]; omega
  obtain ⟨a', c', v', W4, e1, HAP, HN⟩ := mine_step (fun k => k < w.heap.size) _ w3 (fun k hk => Nat.lt_of_lt_of_le hk hF3.size) _ (hM.nw hN3) (by omega) (hs hd) _ hx
  obtain ⟨a4, c4, rfl, _, _⟩ := HN.out.1.sl.form
  rw [← e1] at HAP
  refine ⟨a4, _, c4, W4, HAP, ?_⟩
  have hF4 := hF3.trans HN.out.2
  have hK4 : ∀ k, k < w.heap.size → k < W4.heap.size := fun k hk => Nat.lt_of_lt_of_le hk hF4.size
  have hM5 := own_four W4 (fun k => k < w.heap.size) 4#8 34#8 77#8 24#8 hK4
  have hN5 : Nw W4 (W4.alloc (.cells #[.int .u8 (4#8).toNat, .int .u8 (34#8).toNat, .int .u8 (77#8).toNat, .int .u8 (24#8).toNat] 5)) := (Fr.refl _ _).alloc _
  obtain ⟨v5, W5, hap5, hM6, hF6⟩ := mine_app (fun k => k < w.heap.size) _ (fun k hk => Nat.lt_of_lt_of_le (hK4 k hk) hN5.size) _ _ hM5 _ _ ((HN.out.1.nw hN5).old.mono (fun _ h => h.elim)) (by simp; omega)
  obtain ⟨a5, c5, rfl, _, _⟩ := hM6.sl.form
  refine ⟨a5, _, c5, W5, hap5, ?_⟩
  show P _ _
  refine hP _ _ _ _ ?_ ((hF4.trans hN5.any).trans hF6)
  rw [lows_magic]; exact hM6
set_option maxHeartbeats 16000000 in
set_option maxRecDepth 100000 in
theorem dhead_any (w : World) (s : Shp) (hs1 : 4 ≤ s.block) (hs2 : s.block ≤ 7) (n : Nat) (hn : n ≤ 4194304) : Calls Try.prog 44 #[.agg #[.int .i64 s.block, .bool s.alone, .bool s.bsum, .bool s.csum, .bool s.csize], .int .i64 n] w fun e w' => ∃ a l c, e = .returned (.slice a l c) ∧ Mine (fun k => k < w.heap.size) (.slice a l c) (lows 407708164 4 ++ fhead s n) w' ∧ Nw w w' := by
  obtain ⟨P, hP⟩ : ∃ P : Ending → World → Prop, P = fun e w' => ∃ a l c, e = .returned (.slice a l c) ∧ Mine (fun k => k < w.heap.size) (.slice a l c) (lows 407708164 4 ++ fhead s n) w' ∧ Nw w w' := ⟨_, rfl⟩
  rw [← hP]
  have hl : (fhd s n).length ≤ 10 := by
    unfold fhd
    split <;> simp [lows_length]
  have TAIL := dhead_tail w P (fhd s n) hl (fun a l c V h1 h2 => by rw [hP]; exact ⟨a, l, c, rfl, h1, h2.mono (fun k hk => .inr (by omega))⟩)
  clear hP
  obtain ⟨W1, hW1⟩ : ∃ W1, w.alloc (.cells #[.int .i64 s.block, .bool s.alone, .bool s.bsum, .bool s.csum, .bool s.csize] 24) = W1 := ⟨_, rfl⟩
  have hrow : W1.heap[w.heap.size]? = some (.cells #[.int .i64 s.block, .bool s.alone, .bool s.bsum, .bool s.csum, .bool s.csize] 24) := by
    rw [← hW1]
    show (w.heap.push _)[w.heap.size]? = _
    rw [Array.getElem?_push_size]
  have hN1 : Nw w W1 := by rw [← hW1]; exact (Fr.refl _ _).alloc _
  obtain ⟨y4, hy4⟩ : ∃ y4, flI s 4 = y4 := ⟨_, rfl⟩
  obtain ⟨z, hz⟩ : ∃ z, 16 * s.block = z := ⟨_, rfl⟩
  have hy4l : y4 < 256 := by have := flI_lt s 4; omega
  have hzl : z < 256 := by omega
  obtain ⟨V2, hV2⟩ : ∃ V2, W1.drew.alloc (.cells #[.int .u8 (y4 : Int), .int .u8 (z : Int)] 5) = V2 := ⟨_, rfl⟩
  have hN2 : Nw W1.drew V2 := by rw [← hV2]; exact (Fr.refl _ _).alloc _
  have hM2 : Mine (fun k => k < w.heap.size) (.slice (some ⟨W1.heap.size, 0, none⟩) 2 2) [BitVec.ofNat 8 (flI s 4), BitVec.ofNat 8 (16 * s.block)] V2 := by
    have := own_two W1.drew (fun k => k < w.heap.size) (BitVec.ofNat 8 (flI s 4)) (BitVec.ofNat 8 (16 * s.block)) (fun k hk => Nat.lt_of_lt_of_le hk hN1.size)
    have e1 : ((BitVec.ofNat 8 (flI s 4)).toNat : Int) = (y4 : Int) := by rw [BitVec.toNat_ofNat, hy4]; omega
    have e2 : ((BitVec.ofNat 8 (16 * s.block)).toNat : Int) = (z : Int) := by rw [BitVec.toNat_ofNat, hz]; omega
    rw [e1, e2, hV2] at this
    exact this
  have hNV : Nw w V2 := hN1.drew.trans hN2
  have HV2 : Hid ((W1.alloc (.cells #[.int .u8 (y4 : Int), .int .u8 (z : Int)] 5)).drew = V2) := hV2
  have HC : Hid (s.csize = true → Calls Try.prog 28 #[.int .u64 n, .int .i64 8] V2 fun e w3 => ∃ a l c, e = .returned (.slice a l c) ∧ ∃ a4 l4 c4 W4, Hid (∀ ty, (Builtin.append_ #[22, 22] ty #[.slice (some ⟨W1.heap.size, 0, none⟩) 2 2, .slice a l c]).run Try.prog w3 = .ok (.slice a4 l4 c4) W4) ∧ Mine (fun k => k < w.heap.size) (.slice a4 l4 c4) (fhd s n) W4 ∧ Fr (fun k => ¬ k < w.heap.size) w W4) := by
    intro hcs
    refine (dlow_any V2 n 8 (by omega) (by decide)).mono ?_
    rintro e w3 ⟨a, l, c, rfl, hM3, hN3⟩
    refine ⟨a, l, c, rfl, ?_⟩
    have h3 := hNV.trans hN3
    obtain ⟨v4, W4, hap, hM4, hF4⟩ := mine_app (fun k => k < w.heap.size) w3 (fun k hk => Nat.lt_of_lt_of_le hk h3.size) _ _ (hM2.nw hN3) _ _ (hM3.old.mono (fun _ h => h.elim)) (by simp [lows_length])
    obtain ⟨a4, c4, rfl, _, _⟩ := hM4.sl.form
    refine ⟨a4, _, c4, W4, hap, ?_, h3.any.trans hF4⟩
    unfold fhd; rw [if_pos hcs]; exact hM4
  have HD : Hid (s.csize = false → Mine (fun k => k < w.heap.size) (.slice (some ⟨W1.heap.size, 0, none⟩) 2 2) (fhd s n) V2 ∧ Fr (fun k => ¬ k < w.heap.size) w V2) := by
    intro hcs
    refine ⟨?_, hNV.any⟩
    unfold fhd; rw [if_neg (by rw [hcs]; decide), List.append_nil]; exact hM2
  have HTL : Hid (∀ (V : World) (a : Option Addr) (l c : Nat), Mine (fun k => k < w.heap.size) (.slice a l c) (fhd s n) V → Fr (fun k => ¬ k < w.heap.size) w V → _) := TAIL
  have KEY : Hid (∀ V, Nw W1 V → V.cell? ⟨w.heap.size, 0, none⟩ = some (.int .i64 s.block) ∧ V.cell? ⟨w.heap.size, 1, none⟩ = some (.bool s.alone) ∧ V.cell? ⟨w.heap.size, 2, none⟩ = some (.bool s.bsum) ∧ V.cell? ⟨w.heap.size, 3, none⟩ = some (.bool s.csum) ∧ V.cell? ⟨w.heap.size, 4, none⟩ = some (.bool s.csize)) := fun V hV => ⟨hV.cell (row_cell hrow 0 _ rfl).1, hV.cell (row_cell hrow 1 _ rfl).1, hV.cell (row_cell hrow 2 _ rfl).1, hV.cell (row_cell hrow 3 _ rfl).1, hV.cell (row_cell hrow 4 _ rfl).1⟩
  have k0 := KEY.out _ (Fr.refl _ _)
  have k1 := KEY.out _ (Fr.refl _ _).drew
  have HKO : Hid (∀ o, _) := fun o => KEY.out ((W1.alloc o).drew) ((Fr.refl _ W1).alloc o).drew
  have k2 := KEY.out V2 ((Fr.refl _ W1).drew.trans hN2)
  have HFL : Hid (∀ (x : Bool) (m : Nat) (V : World), Calls Try.prog 60 #[.bool x, .int .u8 m] V fun e w' => e = .returned (.int .u8 (if x = true then m else 0 : Nat)) ∧ w' = V) := fun x m V => dflag_any V x m
  obtain ⟨x1, hx1⟩ : ∃ x1, (if s.alone = true then 32 else 0 : Nat) = x1 := ⟨_, rfl⟩
  obtain ⟨x2, hx2⟩ : ∃ x2, (if s.bsum = true then 16 else 0 : Nat) = x2 := ⟨_, rfl⟩
  obtain ⟨x3, hx3⟩ : ∃ x3, (if s.csize = true then 8 else 0 : Nat) = x3 := ⟨_, rfl⟩
  obtain ⟨x4, hx4⟩ : ∃ x4, (if s.csum = true then 4 else 0 : Nat) = x4 := ⟨_, rfl⟩
  have HF1 : Hid (∀ V, Calls Try.prog 60 #[.bool s.alone, .int .u8 32] V fun e w' => e = .returned (.int .u8 x1) ∧ w' = V) := fun V => by have := HFL.out s.alone 32 V; rw [hx1] at this; exact this
  have HF2 : Hid (∀ V, Calls Try.prog 60 #[.bool s.bsum, .int .u8 16] V fun e w' => e = .returned (.int .u8 x2) ∧ w' = V) := fun V => by have := HFL.out s.bsum 16 V; rw [hx2] at this; exact this
  have HF3 : Hid (∀ V, Calls Try.prog 60 #[.bool s.csize, .int .u8 8] V fun e w' => e = .returned (.int .u8 x3) ∧ w' = V) := fun V => by have := HFL.out s.csize 8 V; rw [hx3] at this; exact this
  have HF4 : Hid (∀ V, Calls Try.prog 60 #[.bool s.csum, .int .u8 4] V fun e w' => e = .returned (.int .u8 x4) ∧ w' = V) := fun V => by have := HFL.out s.csum 4 V; rw [hx4] at this; exact this
  have hfl : 64 + x1 + x2 + x3 + x4 = y4 := by
    rw [← hx1, ← hx2, ← hx3, ← hx4, ← hy4]; unfold flI; simp
  obtain ⟨y1, hy1⟩ : ∃ y1, 64 + x1 = y1 := ⟨_, rfl⟩
  obtain ⟨y2, hy2⟩ : ∃ y2, y1 + x2 = y2 := ⟨_, rfl⟩
  obtain ⟨y3, hy3⟩ : ∃ y3, y2 + x3 = y3 := ⟨_, rfl⟩
  have q1 : (64 : Int) + (x1 : Int) = (y1 : Int) := by omega
  have q2 : (y1 : Int) + (x2 : Int) = (y2 : Int) := by omega
  have q3 : (y2 : Int) + (x3 : Int) = (y3 : Int) := by omega
  have q4 : (y3 : Int) + (x4 : Int) = (y4 : Int) := by omega
  have b1 : y1 < 256 := by omega
  have b2 : y2 < 256 := by omega
  have b3 : y3 < 256 := by omega
  obtain ⟨bk, hbk⟩ : ∃ bk, s.block = bk := ⟨_, rfl⟩
  rw [hbk] at hz k0 k1 k2 HKO
  have hbk7 : bk ≤ 7 := by omega
  have q5 : (16 : Int) * (bk : Int) = (z : Int) := by omega
  have v1 : IntKind.u8.wrap (y1 : Int) = (y1 : Int) := by rw [IntKind.wrap_u8]; omega
  have v2 : IntKind.u8.wrap (y2 : Int) = (y2 : Int) := by rw [IntKind.wrap_u8]; omega
  have v3 : IntKind.u8.wrap (y3 : Int) = (y3 : Int) := by rw [IntKind.wrap_u8]; omega
  have v4 : IntKind.u8.wrap (y4 : Int) = (y4 : Int) := by rw [IntKind.wrap_u8]; omega
  have v5 : IntKind.u8.wrap (z : Int) = (z : Int) := by rw [IntKind.wrap_u8]; omega
  have v6 : IntKind.i64.wrap (z : Int) = (z : Int) := by rw [IntKind.wrap_i64]; omega
  have HW1 : Hid (w.alloc (.cells #[.int .i64 bk, .bool s.alone, .bool s.bsum, .bool s.csum, .bool s.csize] 24) = W1) := by show _ = _; rw [← hbk]; exact hW1
  rw [hbk]
  clear hx1 hx2 hx3 hx4 hfl hy1 hy2 hy3 hy4 hz hV2 hM2 hNV hN2 hrow hW1 HFL TAIL KEY hl hbk hs1 hs2 hN1
  generalize s.alone = al at *
  generalize s.bsum = bs at *
  generalize s.csum = cs at *
  obtain ⟨cz, hcz⟩ : ∃ cz, s.csize = cz := ⟨_, rfl⟩
  rw [hcz] at HC HD HF3 HW1 k0 k1 k2 HKO ⊢
  clear hcz
  generalize fhd s n = hd at *
  go_enter Try.func44, Try.ntmps44
  go_upto_region 1 with fail
  rw [HW1.out]
  go_region_held3 (fun w' => w'.cell? ⟨w.heap.size, 0, none⟩ = some (.int .i64 bk) ∧ w'.cell? ⟨w.heap.size, 1, none⟩ = some (.bool al) ∧ w'.cell? ⟨w.heap.size, 2, none⟩ = some (.bool bs) ∧ w'.cell? ⟨w.heap.size, 3, none⟩ = some (.bool cs) ∧ w'.cell? ⟨w.heap.size, 4, none⟩ = some (.bool cz))
    (first | assumption | exact HKO.out _)
    (first
      | (go_at_call 60; with_reducible refine (HF1.out _).mono ?_; rintro e w3 ⟨rfl, rfl⟩)
      | (go_at_call 60; with_reducible refine (HF2.out _).mono ?_; rintro e w3 ⟨rfl, rfl⟩)
      | (go_at_call 60; with_reducible refine (HF3.out _).mono ?_; rintro e w3 ⟨rfl, rfl⟩)
      | (go_at_call 60; with_reducible refine (HF4.out _).mono ?_; rintro e w3 ⟨rfl, rfl⟩))
  rw [HV2.out]
  obtain ⟨c0, c1, c2, c3, c4⟩ := k2
  have hnn : IntKind.u64.wrap (n : Int) = (n : Int) := by rw [IntKind.wrap_u64]; omega
  cases cz with
  | true =>
    have HC' := HC.out rfl
    have HC2 : Hid (Calls Try.prog 28 #[.int .u64 n, .int .i64 8] V2 fun e w3 => ∃ a l c, e = .returned (.slice a l c) ∧ ∃ a4 l4 c4 W4, Hid (∀ ty, (Builtin.append_ #[22, 22] ty #[.slice (some ⟨W1.heap.size, 0, none⟩) 2 2, .slice a l c]).run Try.prog w3 = .ok (.slice a4 l4 c4) W4) ∧ Hid (Mine (fun k => k < w.heap.size) (.slice a4 l4 c4) hd W4 ∧ Fr (fun k => ¬ k < w.heap.size) w W4)) := HC'
    clear HC' HC HD HKO
    go_wp2_with (first | (go_at_call 28; with_reducible refine HC2.out.mono ?_; rintro e w3 ⟨a3, l3, c3', rfl, a4, l4, c4', W4, HAP4, HM4⟩) | (at_builtin; refine Lib.wpList_append_run _ rfl _ _ 22 22 rfl (.slice (some ⟨W1.heap.size, 0, none⟩) 2 2) (.slice a3 l3 c3') (by simp [Act.eval]) (by simp [Act.eval]) _ _ (HAP4.out _) ?_))
    have HT := HTL.out W4 a4 l4 c4' HM4.out.1 HM4.out.2
    go_wp2_with (first | (go_at_call 45; with_reducible refine HT.out.mono ?_; rintro e w5 ⟨q, rfl, hq, a6, l6, c6, W6, HAP6, a7, l7, c7, W7, HAP7, HF⟩) | (at_builtin; refine Lib.wpList_append_run _ rfl _ _ 22 22 rfl (.slice a4 l4 c4') (.slice (some ⟨w5.heap.size, 0, none⟩) 1 1) (by simp [Act.eval]) (by simp [Act.eval]) _ _ (HAP6.out _) ?_) | (at_builtin; refine Lib.wpList_append_run _ rfl _ _ 22 22 rfl (.slice (some ⟨W6.heap.size, 0, none⟩) 4 4) (.slice a6 l6 c6) (by simp [Act.eval]) (by simp [Act.eval]) _ _ (HAP7.out _) ?_))
    exact HF.out
  | false =>
    have HM4 : Hid (Mine (fun k => k < w.heap.size) (.slice (some ⟨W1.heap.size, 0, none⟩) 2 2) hd V2 ∧ Fr (fun k => ¬ k < w.heap.size) w V2) := HD.out rfl
    clear HC HD HKO
    have HT := HTL.out V2 _ _ _ HM4.out.1 HM4.out.2
    go_wp2_with (first | (go_at_call 45; with_reducible refine HT.out.mono ?_; rintro e w5 ⟨q, rfl, hq, a6, l6, c6, W6, HAP6, a7, l7, c7, W7, HAP7, HF⟩) | (at_builtin; refine Lib.wpList_append_run _ rfl _ _ 22 22 rfl (.slice (some ⟨W1.heap.size, 0, none⟩) 2 2) (.slice (some ⟨w5.heap.size, 0, none⟩) 1 1) (by simp [Act.eval]) (by simp [Act.eval]) _ _ (HAP6.out _) ?_) | (at_builtin; refine Lib.wpList_append_run _ rfl _ _ 22 22 rfl (.slice (some ⟨W6.heap.size, 0, none⟩) 4 4) (.slice a6 l6 c6) (by simp [Act.eval]) (by simp [Act.eval]) _ _ (HAP7.out _) ?_))
    exact HF.out
end Go.Proofs.Ytdeefemeiggolaa

namespace Go.Proofs.Ytdeefemeiggolaa
open Go.RowKit
set_option linter.unusedVariables false
/-! ### Rows of slices -/
def SwV (g : Nat) (xs : List Value) (w : World) : Prop := w.heap[g]? = some (.cells xs.toArray 22)
theorem SwV.lt {g : Nat} {xs : List Value} {w : World} (h : SwV g xs w) : g < w.heap.size := (Array.getElem?_eq_some_iff.1 h).1
theorem SwV.kept {g : Nat} {xs : List Value} {w w' : World} {X : Nat → Prop} (h : SwV g xs w) (f : Fr X w w') (hx : ¬ X g) : SwV g xs w' := (f.block g h.lt hx).trans h
theorem SwV.cell {g : Nat} {xs : List Value} {w : World} (h : SwV g xs w) (i : Nat) (v : Value) (hv : xs[i]? = some v) : w.cell? ⟨g, i, none⟩ = some v ∧ w.frozen? ⟨g, i, none⟩ = false := by
  unfold SwV at h
  constructor <;> simp [World.cell?, World.frozen?, h, hv]
/-- A list of slices of one's own. -/
def OwV (g : Nat) (v : Value) (l : List Value) (w : World) : Prop := ∃ xs, v = .slice (some ⟨g, 0, none⟩) l.length xs.length ∧ xs.take l.length = l ∧ l.length ≤ xs.length ∧ xs.length < 9223372036854775808 ∧ SwV g xs w
theorem OwV.kept {g : Nat} {v : Value} {l : List Value} {w w' : World} {X : Nat → Prop} (h : OwV g v l w) (f : Fr X w w') (hx : ¬ X g) : OwV g v l w' := by
  obtain ⟨xs, h1, h2, h3, h4, h5⟩ := h
  exact ⟨xs, h1, h2, h3, h4, h5.kept f hx⟩
theorem OwV.nw {g : Nat} {v : Value} {l : List Value} {w w' : World} (h : OwV g v l w) (f : Nw w w') : OwV g v l w' := h.kept f (fun h => h)
theorem OwV.lt {g : Nat} {v : Value} {l : List Value} {w : World} (h : OwV g v l w) : g < w.heap.size := by
  obtain ⟨xs, h1, h2, h3, h4, h5⟩ := h
  exact h5.lt
theorem OwV.form {g : Nat} {v : Value} {l : List Value} {w : World} (h : OwV g v l w) : ∃ c, v = .slice (some ⟨g, 0, none⟩) l.length c ∧ l.length ≤ c ∧ c < 9223372036854775808 := by
  obtain ⟨xs, h1, h2, h3, h4, h5⟩ := h
  exact ⟨_, h1, h3, h4⟩
theorem OwV.cell {g : Nat} {v : Value} {l : List Value} {w : World} (h : OwV g v l w) (i : Nat) (u : Value) (hq : l[i]? = some u) : w.cell? ⟨g, i, none⟩ = some u ∧ w.frozen? ⟨g, i, none⟩ = false := by
  obtain ⟨xs, h1, h2, h3, h4, h5⟩ := h
  refine h5.cell i u ?_
  have hi := (List.getElem?_eq_some_iff.1 hq).1
  rw [← h2, List.getElem?_take, if_pos hi] at hq
  exact hq
theorem infoV : ∃ i, Try.prog.info? 22 = some i ∧ i.zero = some (.slice none 0 0) ∧ i.size = 1 ∧ i.bytes = 24 := by
  have h : (Try.prog.info? 22).map (fun i => (i.zero, i.size, i.bytes)) = some (some (.slice none 0 0), 1, 24) := by kernel_rfl
  cases hq : Try.prog.info? 22 with
  | none => simp [hq] at h
  | some i => simp [hq] at h; exact ⟨i, rfl, h.1, h.2.1, h.2.2⟩
theorem zeroV (n : Nat) : (Builtin.zeroCells (Value.slice none 0 0).cells n) = (List.replicate n (Value.slice none 0 0)).toArray := by
  apply Array.ext'
  apply List.ext_getElem?
  intro k
  by_cases hk : k < n
  · simp [Builtin.zeroCells, Value.cells, hk]
    try rw [Nat.mod_one]
    try rfl
  · rw [List.getElem?_eq_none (by simp [Builtin.zeroCells, Value.cells]; omega), List.getElem?_eq_none (by simp; omega)]
theorem srcV (w : World) (gq : Nat) (q : Value) (hq : q.oneCell' = true) (h : SwV gq [q] w) : Src Try.prog 1 52 (.slice (some ⟨gq, 0, none⟩) 1 1) 1 [q] w := by
  refine Src.ofSlice w Try.underlying52 ⟨gq, 0, none⟩ 1 1 _ (by simp) (fun j u hj => ?_) (fun v hv => by simp at hv; rw [hv]; exact hq)
  rw [add_addr, Nat.zero_add]
  exact (h.cell j u hj).1
set_option maxRecDepth 100000 in
theorem appV_any (w : World) (g : Nat) (v : Value) (l : List Value) (hO : OwV g v l w) (gq : Nat) (q : Value) (hq : q.oneCell' = true) (hx : SwV gq [q] w) (hb : l.length ≤ 1000000000) :
    ∃ v' g' W, (∀ ty, (Builtin.append_ #[52, 52] ty #[v, .slice (some ⟨gq, 0, none⟩) 1 1]).run Try.prog w = .ok v' W) ∧ OwV g' v' (l ++ [q]) W ∧ Fr (fun k => k = g) w W ∧ (g' = g ∨ w.heap.size ≤ g') := by
  obtain ⟨xs, rfl, h2, h3, h4, h5⟩ := hO
  obtain ⟨i, hi, hz, hs, hby⟩ := infoV
  have hsrc := srcV w gq q hq hx
  by_cases hroom : l.length + 1 ≤ xs.length
  · have hst := run_storeCells_at (P := Try.prog) g (0 + l.length) 22 [q] 0 xs.toArray w h5 (by simp; omega) (fun v hv => by simp at hv; rw [hv]; exact hq)
    refine ⟨.slice (some ⟨g, 0, none⟩) (l.length + 1) xs.length, g, w.setRow g ((l ++ [q] ++ xs.drop (l.length + 1)).toArray), fun ty => ?_, ?_, ?_, .inl rfl⟩
    · obtain ⟨W0, hW0⟩ : ∃ W0, W0 = w.setRow g ((l ++ [q] ++ xs.drop (l.length + 1)).toArray) := ⟨_, rfl⟩
      have hst' : (storeCells ⟨g, l.length, none⟩ [q]).run Try.prog w = .ok () W0 := by
        rw [← Nat.zero_add l.length, hst, hW0]
        congr 3
        simp only [Nat.add_zero, Nat.zero_add]
        rw [List.length_singleton, h2]
      rw [← hW0]
      clear hst
      rcases hsrc.kind with ⟨e', hk⟩ | hk
      · simp [Builtin.append_, run_underlying Try.underlying52, sizeOf, typeInfo, hi, hs, hsrc.len, hroom, hsrc.cells, Addr.add_lit, hst']
      · rw [Try.underlying52] at hk; cases hk
    · refine ⟨l ++ [q] ++ xs.drop (l.length + 1), ?_, ?_, ?_, ?_, ?_⟩
      · simp; omega
      · rw [List.take_append_of_le_length (by simp), List.take_of_length_le (by simp)]
      · simp
      · simp; omega
      · exact setRow_heap w g _ _ 22 _ h5
    · exact (Fr.refl _ _).setRow _ _ (.inl rfl)
  · have hold : (Builtin.firstCells i.size l.length (.slice (some ⟨g, 0, none⟩) l.length xs.length)).run Try.prog w.drew = .ok l.toArray w.drew := by
      rw [hs]
      refine run_firstCells_some w.drew 1 l.length ⟨g, 0, none⟩ l.length xs.length l (by simp) (fun j u hj => ?_)
      rw [add_addr, Nat.zero_add]
      have hjl : j < l.length := (List.getElem?_eq_some_iff.1 hj).1
      have : xs[j]? = some u := by
        rw [← h2, List.getElem?_take, if_pos hjl] at hj
        exact hj
      unfold SwV at h5
      show w.cell? _ = _
      simp [World.cell?, h5, this]
    have hrun := fun ty => run_append_grow_src w 52 52 ty 22 i _ Try.underlying52 hi hz (some ⟨g, 0, none⟩) l.length xs.length _ hold _ 1 _ (by rw [hs]; exact hsrc) (by omega) (by omega) (by rw [hby]; exact growslice_fits_wide (by omega) (by omega))
    have hge := grownCap_ge w (l.length + 1) xs.length 22
    have hle := grownCap_le_maxLen w (l.length + 1) xs.length 22 (by unfold maxLen; omega)
    unfold maxLen at hle
    generalize grownCap w (l.length + 1) xs.length 22 = G at *
    refine ⟨_, w.heap.size, _, hrun, ?_, (Fr.refl _ _).drew.alloc _, .inr (Nat.le_refl _)⟩
    have e : ((l ++ [q]).toArray ++ Builtin.zeroCells (Value.slice none 0 0).cells (G - (l.length + 1))) = (l ++ [q] ++ List.replicate (G - (l.length + 1)) (Value.slice none 0 0)).toArray := by
      rw [zeroV]; simp
    rw [e]
    refine ⟨l ++ [q] ++ List.replicate (G - (l.length + 1)) (Value.slice none 0 0), ?_, ?_, ?_, ?_, ?_⟩
    · simp; omega
    · rw [List.take_append_of_le_length (by simp), List.take_of_length_le (by simp)]
    · simp
    · simp; omega
    · show (w.heap.push _)[w.heap.size]? = _
      simp
theorem appV_nil (w : World) (gq : Nat) (q : Value) (hq : q.oneCell' = true) (hx : SwV gq [q] w) :
    ∃ v' W, (∀ ty, (Builtin.append_ #[52, 52] ty #[.slice none 0 0, .slice (some ⟨gq, 0, none⟩) 1 1]).run Try.prog w = .ok v' W) ∧ OwV w.heap.size v' [q] W ∧ Nw w W := by
  obtain ⟨i, hi, hz, hs, hby⟩ := infoV
  have hsrc := srcV w gq q hq hx
  have hrun := fun ty => run_append_grow_src w 52 52 ty 22 i _ Try.underlying52 hi hz none 0 0 [] (by simp [Builtin.firstCells]) _ 1 _ (by rw [hs]; exact hsrc) (by omega) (by omega) (by rw [hby]; exact growslice_fits_wide (by omega) (by omega))
  have hge := grownCap_ge w (0 + 1) 0 22
  have hle := grownCap_le_maxLen w (0 + 1) 0 22 (by unfold maxLen; omega)
  unfold maxLen at hle
  generalize grownCap w (0 + 1) 0 22 = G at *
  refine ⟨_, _, hrun, ?_, (Fr.refl _ _).drew.alloc _⟩
  have e : (([] ++ [q]).toArray ++ Builtin.zeroCells (Value.slice none 0 0).cells (G - (0 + 1))) = ([q] ++ List.replicate (G - (0 + 1)) (Value.slice none 0 0)).toArray := by
    rw [zeroV]; simp
  rw [e]
  refine ⟨[q] ++ List.replicate (G - (0 + 1)) (Value.slice none 0 0), ?_, ?_, ?_, ?_, ?_⟩
  · simp; omega
  · simp
  · simp
  · simp; omega
  · show (w.heap.push _)[w.heap.size]? = _
    simp
/-- A list of slices: nil, or one's own outside of K. -/
def MineV (K : Nat → Prop) (v : Value) (l : List Value) (w : World) : Prop := (v = .slice none 0 0 ∧ l = []) ∨ ∃ g, ¬ K g ∧ OwV g v l w
theorem MineV.nw {K : Nat → Prop} {v : Value} {l : List Value} {w w' : World} (h : MineV K v l w) (f : Nw w w') : MineV K v l w' := by
  rcases h with h | ⟨g, h1, h2⟩
  · exact .inl h
  · exact .inr ⟨g, h1, h2.nw f⟩
theorem MineV.form {K : Nat → Prop} {v : Value} {l : List Value} {w : World} (h : MineV K v l w) : ∃ a c, v = .slice a l.length c ∧ l.length ≤ c ∧ c < 9223372036854775808 := by
  rcases h with ⟨rfl, rfl⟩ | ⟨g, _, h2⟩
  · exact ⟨_, _, rfl, by simp, by simp⟩
  · obtain ⟨c, h3⟩ := h2.form
    exact ⟨_, c, h3⟩
/-- One slice more. -/
theorem mineV_step (K : Nat → Prop) (wr : World) (hK : ∀ k, K k → k < wr.heap.size) (v : Value) (l : List Value) (h : MineV K v l wr) (hb : l.length ≤ 1000000000) (q : Value) (hq : q.oneCell' = true) :
    ∃ v' W, Hid (∀ ty, (Builtin.append_ #[52, 52] ty #[v, .slice (some ⟨wr.heap.size, 0, none⟩) 1 1]).run Try.prog (wr.alloc (.cells #[q] 22)) = .ok v' W) ∧ MineV K v' (l ++ [q]) W ∧ Fr (fun k => ¬ K k) wr W := by
  have hN : Nw wr (wr.alloc (.cells #[q] 22)) := (Fr.refl _ _).alloc _
  have hx : SwV wr.heap.size [q] (wr.alloc (.cells #[q] 22)) := by
    show (wr.heap.push _)[wr.heap.size]? = _
    rw [Array.getElem?_push_size]
  have hsz : (wr.alloc (.cells #[q] 22)).heap.size = wr.heap.size + 1 := by simp
  rcases h with ⟨rfl, rfl⟩ | ⟨g, h1, h2⟩
  · obtain ⟨v', W, k1, k2, k3⟩ := appV_nil _ _ q hq hx
    refine ⟨v', W, k1, .inr ⟨_, fun hk => ?_, k2⟩, (hN.trans k3).any⟩
    have := hK _ hk
    omega
  · obtain ⟨v', g', W, k1, k2, k3, k4⟩ := appV_any _ g v l (h2.nw hN) _ q hq hx hb
    refine ⟨v', W, k1, .inr ⟨g', fun hk => ?_, k2⟩, hN.any.trans (k3.mono (fun k hk => .inl (by rw [hk]; exact h1)))⟩
    have := hK _ hk
    rcases k4 with k4 | k4
    · rw [k4] at hk; exact h1 hk
    · omega
end Go.Proofs.Ytdeefemeiggolaa

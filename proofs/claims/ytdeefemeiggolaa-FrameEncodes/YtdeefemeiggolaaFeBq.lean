import Derived.Test.YtdeefemeiggolaaFeAq
import Derived.Test.YtdeefemeiggolaaXxYq
namespace Go.Proofs.Ytdeefemeiggolaa
open Go.RowKit
set_option linter.unusedVariables false
/-! ### The document's Skip -/
theorem dSkip_arg (w : World) (vp : Value) (u : Int) (h : u < 0 ∨ 15 < u) :
    Calls Try.prog 13 #[.int .i64 u, vp] w fun e w' => e = .returned (.tuple #[.slice none 0 0, .int .i64 1]) ∧ w' = w := by
  obtain ⟨P, hP⟩ : ∃ P : Ending → World → Prop, P = fun e w' => e = .returned (.tuple #[.slice none 0 0, .int .i64 1]) ∧ w' = w := ⟨_, rfl⟩
  rw [← hP]
  have HF : Hid (P (.returned (.tuple #[.slice none 0 0, .int .i64 1])) w) := by show P _ _; rw [hP]; exact ⟨rfl, rfl⟩
  clear hP
  by_cases h1 : u < 0
  · go_enter Try.func13, Try.ntmps13
    go_wp2
    exact HF.out
  · have h2 : 15 < u := by omega
    go_enter Try.func13, Try.ntmps13
    go_wp2
    exact HF.out
theorem dSkip_long (w : World) (a : Option Addr) (n c : Nat) (u : Int) (h1 : 0 ≤ u) (h2 : u ≤ 15) (h : 4194304 < n) :
    Calls Try.prog 13 #[.int .i64 u, .slice a n c] w fun e w' => e = .returned (.tuple #[.slice none 0 0, .int .i64 2]) ∧ w' = w := by
  obtain ⟨P, hP⟩ : ∃ P : Ending → World → Prop, P = fun e w' => e = .returned (.tuple #[.slice none 0 0, .int .i64 2]) ∧ w' = w := ⟨_, rfl⟩
  rw [← hP]
  have HF : Hid (P (.returned (.tuple #[.slice none 0 0, .int .i64 2])) w) := by show P _ _; rw [hP]; exact ⟨rfl, rfl⟩
  clear hP
  have hz1 : ¬ u < 0 := by omega
  have hz2 : ¬ (15 : Int) < u := by omega
  have hz3 : (4194304 : Int) < (n : Int) := by omega
  go_enter Try.func13, Try.ntmps13
  go_wp2
  exact HF.out
theorem own_four (w : World) (K : Nat → Prop) (x y z u : By) (hK : ∀ k, K k → k < w.heap.size) : Mine K (.slice (some ⟨w.heap.size, 0, none⟩) 4 4) [x, y, z, u] (w.alloc (.cells #[.int .u8 x.toNat, .int .u8 y.toNat, .int .u8 z.toNat, .int .u8 u.toNat] 5)) := by
  refine .inr ⟨w.heap.size, fun h => by have := hK _ h; omega, [x, y, z, u], rfl, rfl, by simp, by simp, ?_⟩
  show (w.heap.push _)[w.heap.size]? = _
  rw [Array.getElem?_push_size]; rfl
theorem lows_skip (u : Nat) (h : u ≤ 15) : lows (407710288 + u) 4 = [BitVec.ofNat 8 (80 + u), 42#8, 77#8, 24#8] := by
  have : ∀ z : Fin 16, lows (407710288 + z.val) 4 = [BitVec.ofNat 8 (80 + z.val), 42#8, 77#8, 24#8] := by decide
  exact this ⟨u, by omega⟩
set_option maxHeartbeats 8000000 in
set_option maxRecDepth 100000 in
theorem dSkip_ok (w : World) (vp : Value) (b : List By) (hp : Old w vp b) (u : Nat) (hu : u ≤ 15) (hpl : b.length ≤ 4194304) :
    Calls Try.prog 13 #[.int .i64 u, vp] w fun e w' => ∃ a k, e = .returned (.tuple #[.slice a (skipB u b).length k, .int .i64 0]) ∧ Mine (fun k => k < w.heap.size) (.slice a (skipB u b).length k) (skipB u b) w' ∧ Nw w w' := by
  obtain ⟨P, hP⟩ : ∃ P : Ending → World → Prop, P = fun e w' => ∃ a k, e = .returned (.tuple #[.slice a (skipB u b).length k, .int .i64 0]) ∧ Mine (fun k => k < w.heap.size) (.slice a (skipB u b).length k) (skipB u b) w' ∧ Nw w w' := ⟨_, rfl⟩
  rw [← hP]
  obtain ⟨W1, hW1⟩ : ∃ W1, w.alloc (.cells #[.int .u8 ((80 + u : Nat) : Int), .int .u8 42, .int .u8 77, .int .u8 24] 5) = W1 := ⟨_, rfl⟩
  have hM1 : Mine (fun k => k < w.heap.size) (.slice (some ⟨w.heap.size, 0, none⟩) 4 4) (lows (407710288 + u) 4) W1 := by
    have := own_four w (fun k => k < w.heap.size) (BitVec.ofNat 8 (80 + u)) 42#8 77#8 24#8 (fun k hk => hk)
    rw [lows_skip u hu, ← hW1]
    have e : ((80 + u : Nat) : Int) = ((BitVec.ofNat 8 (80 + u)).toNat : Int) := by rw [BitVec.toNat_ofNat]; omega
    rw [e]; exact this
  have hN1 : Nw w W1 := by rw [← hW1]; exact (Fr.refl _ _).alloc _
  have H1 : Hid (Calls Try.prog 28 #[.int .u64 b.length, .int .i64 4] W1 fun e w2 => ∃ a l k, e = .returned (.slice a l k) ∧ ∃ a3 l3 k3 W3, Hid (∀ ty, (Builtin.append_ #[22, 22] ty #[.slice (some ⟨w.heap.size, 0, none⟩) 4 4, .slice a l k]).run Try.prog w2 = .ok (.slice a3 l3 k3) W3) ∧ ∃ a5 l5 k5 W5, Hid (∀ ty, (Builtin.append_ #[22, 22] ty #[.slice a3 l3 k3, vp]).run Try.prog W3 = .ok (.slice a5 l5 k5) W5) ∧ Hid (P (.returned (.tuple #[.slice a5 l5 k5, .int .i64 0])) W5)) := by
    show Calls _ _ _ _ _
    refine (dlow_any W1 b.length 4 (by omega) (by decide)).mono ?_
    rintro e w2 ⟨a, l, k, rfl, hM2, hN2⟩
    refine ⟨a, l, k, rfl, ?_⟩
    have h2 := hN1.trans hN2
    have hKw : ∀ k, k < w.heap.size → k < w2.heap.size := fun k hk => Nat.lt_of_lt_of_le hk h2.size
    obtain ⟨v3, W3, hap3, hM3, hF3⟩ := mine_app (fun k => k < w.heap.size) w2 hKw _ _ (hM1.nw hN2) _ _ (hM2.old.mono (fun _ h => h.elim)) (by simp [lows_length])
    obtain ⟨a3, k3, rfl, _, _⟩ := hM3.sl.form
    refine ⟨a3, _, k3, W3, hap3, ?_⟩
    have hF : Fr (fun k => ¬ k < w.heap.size) w W3 := h2.any.trans hF3
    have hb3 : Sl (fun k => w.heap.size ≤ k) vp b W3 := hp.kept hF (fun k hk => by omega)
    obtain ⟨v5, W, hap, hM5, hF5⟩ := mine_app (fun k => k < w.heap.size) W3 (fun k hk => Nat.lt_of_lt_of_le hk hF.size) _ _ hM3 vp b (hb3.mono (fun _ h => h.elim)) (by simp [lows_length]; omega)
    obtain ⟨a5, k5, rfl, _, _⟩ := hM5.sl.form
    refine ⟨a5, _, k5, W, hap, ?_⟩
    show P _ _
    rw [hP]
    exact ⟨a5, k5, rfl, hM5, (hF.trans hF5).mono (fun k hk => .inr (by omega))⟩
  obtain ⟨pa, pc, rfl, _, _⟩ := hp.form
  have HW1 : Hid (w.alloc (.cells #[.int .u8 ((80 + u : Nat) : Int), .int .u8 42, .int .u8 77, .int .u8 24] 5) = W1) := hW1
  have hz1 : ¬ (15 : Int) < (u : Int) := by omega
  have hz3 : ¬ (4194304 : Int) < (b.length : Int) := by omega
  have hz4 : (80 : Int) + (u : Int) = ((80 + u : Nat) : Int) := by omega
  have hz5 : ((80 + u : Nat) : Int) < 256 := by omega
  clear hP hp hM1 hN1 hW1
  generalize b.length = L at *
  generalize 80 + u = M at *
  go_enter Try.func13, Try.ntmps13
  go_wp2_with (first | (go_at_call 28; rw [HW1.out]; with_reducible refine H1.out.mono ?_; rintro e w2 ⟨a2, l2, k2, rfl, a3, l3, k3, W3, HAP3, a5, l5, k5, W5, HAP5, HF⟩) | (at_builtin; refine Lib.wpList_append_run _ rfl _ _ 22 22 rfl (.slice (some ⟨w.heap.size, 0, none⟩) 4 4) (.slice a2 l2 k2) (by simp [Act.eval]) (by simp [Act.eval]) _ _ (HAP3.out _) ?_) | (at_builtin; refine Lib.wpList_append_run _ rfl _ _ 22 22 rfl (.slice a3 l3 k3) (.slice pa L pc) (by simp [Act.eval]) (by simp [Act.eval]) _ _ (HAP5.out _) ?_))
  exact HF.out
end Go.Proofs.Ytdeefemeiggolaa

import Derived.Test.YtpnacppmdlnjlaaOfC
import Derived.Lib.SlBytesConst
namespace Go.Proofs.Ytpnacppmdlnjlaa
open Go.RowKit
set_option linter.unusedVariables false
set_option maxHeartbeats 40000000 in
set_option maxRecDepth 100000 in
theorem walk_no_ok (w : World) (aB al aA : Option Addr) (bl cB L cl A cA : Nat) (most : Int) (xx yy : Nat) (hyy : yy ≠ 0) (HH : Hid (∀ V, Nw w V → ∃ a1 c1 W1, Hid (∀ ty, (Builtin.append_ #[22, 22] ty #[.slice (some ⟨V.heap.size, 0, none⟩) 0 0, .slice aB bl cB]).run Try.prog (V.alloc (.cells #[] 5)) = .ok (.slice a1 bl c1) W1) ∧ Hid (Calls Try.prog 15 #[.slice a1 bl c1] W1 fun e w2 => ∃ a2 c2, e = .returned (.tuple #[.slice a2 0 c2, .int .i64 xx, .int .i64 yy]) ∧ Nw w w2))) (TL : Hid (∀ V, Nw w V → Calls Try.prog 18 #[.slice al L cl] V fun e u1 => ∃ g1 c1, e = .returned (.slice (some ⟨g1, 0, none⟩) L c1) ∧ Hid (Calls Try.prog 19 #[.slice (some ⟨g1, 0, none⟩) L c1] u1 fun e u2 => ∃ a2 l2 c2, e = .returned (.tuple #[.slice a2 l2 c2, .int .i64 0]) ∧ Hid (Calls Try.prog 15 #[.slice a2 l2 c2] u2 fun e u3 => ∃ a3 l3 c3, ∃ z3 : Int, e = .returned (.tuple #[.slice a3 l3 c3, .int .i64 z3, .int .i64 0]) ∧ Hid (Calls Try.prog 17 #[.slice a3 l3 c3, .slice al L cl] u3 fun e u4 => e = .returned (.bool true) ∧ Hid (Calls Try.prog 19 #[.slice (some ⟨u4.heap.size + 1, 0, none⟩) 1 1] ((u4.alloc (.cells #[.int .u8 97, .int .u8 98] 5 (2, 3))).alloc (.cells #[.slice (some ⟨u4.heap.size, 0, none⟩) 2 2, .int .i64 0, .int .i64 0] 36)) fun e w9 => ∃ a9 c9, e = .returned (.tuple #[.slice a9 3 c9, .int .i64 0]) ∧ Hid (Nw w w9))))))) :
    Calls Try.prog 7 #[.agg #[.slice aB bl cB, .slice al L cl, .slice aA A cA, .int .i64 most]] w fun e w' => e = .returned (.bool true) ∧ Nw w w' := by
  obtain ⟨P, hP⟩ : ∃ P : Ending → World → Prop, P = fun e w' => e = .returned (.bool true) ∧ Nw w w' := ⟨_, rfl⟩
  rw [← hP]
  have HP : Hid (P = fun e w' => e = .returned (.bool true) ∧ Nw w w') := hP
  clear hP
  have hz0 : ¬ (yy : Int) = 0 := by omega
  have hzb : ((yy : Int) == 0) = false := by simp; omega
  have hcv := fun (U : World) => Lib.run_convert_bytes_const (P := Try.prog) U 22 5 #[.int .u8 97, .int .u8 98] 2 2 Try.underlying22 Try.underlying5
  simp only [List.size_toArray, List.length_cons, List.length_nil, Nat.reduceAdd] at hcv
  go_enter Try.func7, Try.ntmps7
  go_wp2_with fail
  go_quiet (fail)
  obtain ⟨a1, c1, W1, HAP1, HC1⟩ := HH.out ((w.alloc (.cells #[.slice aB bl cB, .slice al L cl, .slice aA A cA, .int .i64 most] 47)).drewN nq) (((Fr.refl _ _).alloc _).drewN _)
  go_wp2_with (first
    | (at_builtin; refine Lib.wpList_append_run _ rfl _ _ 22 22 rfl (.slice (some ⟨((w.alloc (.cells #[.slice aB bl cB, .slice al L cl, .slice aA A cA, .int .i64 most] 47)).drewN nq).heap.size, 0, none⟩) 0 0) (.slice aB bl cB) (by simp [Act.eval]) (by simp [Act.eval]) _ _ (HAP1.out _) ?_)
    | (go_at_call 15; with_reducible refine (HC1.out).mono ?_; rintro e w2 ⟨a2, c2, rfl, n2⟩)
    | (go_at_call 18; with_reducible refine (TL.out _ (by assumption)).mono ?_; rintro e u1 ⟨g1, k1, rfl, TL2⟩)
    | (go_at_call 19; with_reducible refine (TL2.out).mono ?_; rintro e u2 ⟨x2, y2, z2, rfl, TL3⟩)
    | (go_at_call 15; with_reducible refine (TL3.out).mono ?_; rintro e u3 ⟨x3, y3, z3, t3, rfl, TL4⟩)
    | (go_at_call 17; with_reducible refine (TL4.out).mono ?_; rintro e u4 ⟨rfl, TL5⟩)
    | (go_at_call 19; with_reducible refine (TL5.out).mono ?_; rintro e u5 ⟨x5, z5, rfl, HN⟩))
  rw [HP.out]
  exact ⟨rfl, HN.out⟩
set_option maxHeartbeats 40000000 in
set_option maxRecDepth 100000 in
theorem walk_no_no (w : World) (aB al aA : Option Addr) (bl cB L cl A cA : Nat) (most : Int) (xx yy : Nat) (hyy : yy ≠ 0) (HH : Hid (∀ V, Nw w V → ∃ a1 c1 W1, Hid (∀ ty, (Builtin.append_ #[22, 22] ty #[.slice (some ⟨V.heap.size, 0, none⟩) 0 0, .slice aB bl cB]).run Try.prog (V.alloc (.cells #[] 5)) = .ok (.slice a1 bl c1) W1) ∧ Hid (Calls Try.prog 15 #[.slice a1 bl c1] W1 fun e w2 => ∃ a2 c2, e = .returned (.tuple #[.slice a2 0 c2, .int .i64 xx, .int .i64 yy]) ∧ Nw w w2))) (y : Nat) (hy : y ≠ 0) (TL : Hid (∀ V, Nw w V → Calls Try.prog 18 #[.slice al L cl] V fun e u1 => ∃ g1 c1, e = .returned (.slice (some ⟨g1, 0, none⟩) L c1) ∧ Hid (Calls Try.prog 19 #[.slice (some ⟨g1, 0, none⟩) L c1] u1 fun e u2 => ∃ a2 l2 c2, e = .returned (.tuple #[.slice a2 l2 c2, .int .i64 y]) ∧ Hid (Calls Try.prog 19 #[.slice (some ⟨u2.heap.size + 1, 0, none⟩) 1 1] ((u2.alloc (.cells #[.int .u8 97, .int .u8 98] 5 (2, 3))).alloc (.cells #[.slice (some ⟨u2.heap.size, 0, none⟩) 2 2, .int .i64 0, .int .i64 0] 36)) fun e w9 => ∃ a9 c9, e = .returned (.tuple #[.slice a9 3 c9, .int .i64 0]) ∧ Hid (Nw w w9))))) :
    Calls Try.prog 7 #[.agg #[.slice aB bl cB, .slice al L cl, .slice aA A cA, .int .i64 most]] w fun e w' => e = .returned (.bool true) ∧ Nw w w' := by
  obtain ⟨P, hP⟩ : ∃ P : Ending → World → Prop, P = fun e w' => e = .returned (.bool true) ∧ Nw w w' := ⟨_, rfl⟩
  rw [← hP]
  have HP : Hid (P = fun e w' => e = .returned (.bool true) ∧ Nw w w') := hP
  clear hP
  have hz0 : ¬ (yy : Int) = 0 := by omega
  have hzb : ((yy : Int) == 0) = false := by simp; omega
  have hz1 : ¬ (y : Int) = 0 := by omega
  have hzc : ((y : Int) == 0) = false := by simp; omega
  have hcv := fun (U : World) => Lib.run_convert_bytes_const (P := Try.prog) U 22 5 #[.int .u8 97, .int .u8 98] 2 2 Try.underlying22 Try.underlying5
  simp only [List.size_toArray, List.length_cons, List.length_nil, Nat.reduceAdd] at hcv
  go_enter Try.func7, Try.ntmps7
  go_wp2_with fail
  go_quiet (fail)
  obtain ⟨a1, c1, W1, HAP1, HC1⟩ := HH.out ((w.alloc (.cells #[.slice aB bl cB, .slice al L cl, .slice aA A cA, .int .i64 most] 47)).drewN nq) (((Fr.refl _ _).alloc _).drewN _)
  go_wp2_with (first
    | (at_builtin; refine Lib.wpList_append_run _ rfl _ _ 22 22 rfl (.slice (some ⟨((w.alloc (.cells #[.slice aB bl cB, .slice al L cl, .slice aA A cA, .int .i64 most] 47)).drewN nq).heap.size, 0, none⟩) 0 0) (.slice aB bl cB) (by simp [Act.eval]) (by simp [Act.eval]) _ _ (HAP1.out _) ?_)
    | (go_at_call 15; with_reducible refine (HC1.out).mono ?_; rintro e w2 ⟨a2, c2, rfl, n2⟩)
    | (go_at_call 18; with_reducible refine (TL.out _ (by assumption)).mono ?_; rintro e u1 ⟨g1, k1, rfl, TL2⟩)
    | (go_at_call 19; with_reducible refine (TL2.out).mono ?_; rintro e u2 ⟨x2, y2, z2, rfl, TL5⟩)
    | (go_at_call 19; with_reducible refine (TL5.out).mono ?_; rintro e u5 ⟨x5, z5, rfl, HN⟩))
  rw [HP.out]
  exact ⟨rfl, HN.out⟩
set_option maxHeartbeats 40000000 in
set_option maxRecDepth 100000 in
theorem walk_ok0_ok (w : World) (aB al aA : Option Addr) (bl cB L cl A cA : Nat) (most : Int) (rl ye : Nat) (Q : Prop) (hQ : Q) (HH : Hid (∀ V, Nw w V → ∃ a1 c1 W1, Hid (∀ ty, (Builtin.append_ #[22, 22] ty #[.slice (some ⟨V.heap.size, 0, none⟩) 0 0, .slice aB bl cB]).run Try.prog (V.alloc (.cells #[] 5)) = .ok (.slice a1 bl c1) W1) ∧ Hid (Calls Try.prog 15 #[.slice a1 bl c1] W1 fun e w2 => ∃ a2 l2 c2, ∃ z2 : Int, e = .returned (.tuple #[.slice a2 l2 c2, .int .i64 z2, .int .i64 0]) ∧ Hid (Calls Try.prog 19 #[.slice a2 l2 c2] w2 fun e w3 => ∃ a3 c3, e = .returned (.tuple #[.slice a3 bl c3, .int .i64 0]) ∧ Hid (Q → Calls Try.prog 12 #[.slice a3 bl c3, .slice aB bl cB] w3 fun e w' => e = .returned (.bool true) ∧ Nw w3 w') ∧ Hid (∀ V3, Nw w3 V3 → ∃ a4 c4 W4, Hid (∀ ty, (Builtin.append_ #[22, 22] ty #[.slice (some ⟨V3.heap.size, 0, none⟩) 0 0, .slice aA A cA]).run Try.prog (V3.alloc (.cells #[] 5)) = .ok (.slice a4 A c4) W4) ∧ Hid (Calls Try.prog 21 #[.slice a2 l2 c2, .slice a4 A c4, .int .i64 most] W4 fun e w5 => ∃ a5 c5, e = .returned (.tuple #[.slice a5 rl c5, .int .i64 ye]) ∧ ∃ a6 c6 W6, Hid (∀ ty, (Builtin.append_ #[22, 22] ty #[.slice (some ⟨w5.heap.size, 0, none⟩) 0 0, .slice aB bl cB]).run Try.prog (w5.alloc (.cells #[] 5)) = .ok (.slice a6 bl c6) W6) ∧ ∃ a7 c7 W7, Hid (∀ ty, (Builtin.append_ #[22, 22] ty #[.slice (some ⟨W6.heap.size, 0, none⟩) 0 0, .slice aA A cA]).run Try.prog (W6.alloc (.cells #[] 5)) = .ok (.slice a7 A c7) W7) ∧ Hid (Calls Try.prog 10 #[.slice a6 bl c6, .slice a7 A c7, .int .i64 most] W7 fun e w8 => ∃ a8 c8, ∃ z8 : Int, e = .returned (.tuple #[.slice a8 rl c8, .int .i64 z8, .int .i64 ye]) ∧ Hid (Calls Try.prog 12 #[.slice a5 rl c5, .slice a8 rl c8] w8 fun e w9 => e = .returned (.bool true) ∧ Nw w w9)))))))) (TL : Hid (∀ V, Nw w V → Calls Try.prog 18 #[.slice al L cl] V fun e u1 => ∃ g1 c1, e = .returned (.slice (some ⟨g1, 0, none⟩) L c1) ∧ Hid (Calls Try.prog 19 #[.slice (some ⟨g1, 0, none⟩) L c1] u1 fun e u2 => ∃ a2 l2 c2, e = .returned (.tuple #[.slice a2 l2 c2, .int .i64 0]) ∧ Hid (Calls Try.prog 15 #[.slice a2 l2 c2] u2 fun e u3 => ∃ a3 l3 c3, ∃ z3 : Int, e = .returned (.tuple #[.slice a3 l3 c3, .int .i64 z3, .int .i64 0]) ∧ Hid (Calls Try.prog 17 #[.slice a3 l3 c3, .slice al L cl] u3 fun e u4 => e = .returned (.bool true) ∧ Hid (Calls Try.prog 19 #[.slice (some ⟨u4.heap.size + 1, 0, none⟩) 1 1] ((u4.alloc (.cells #[.int .u8 97, .int .u8 98] 5 (2, 3))).alloc (.cells #[.slice (some ⟨u4.heap.size, 0, none⟩) 2 2, .int .i64 0, .int .i64 0] 36)) fun e w9 => ∃ a9 c9, e = .returned (.tuple #[.slice a9 3 c9, .int .i64 0]) ∧ Hid (Nw w w9))))))) :
    Calls Try.prog 7 #[.agg #[.slice aB bl cB, .slice al L cl, .slice aA A cA, .int .i64 most]] w fun e w' => e = .returned (.bool true) ∧ Nw w w' := by
  obtain ⟨P, hP⟩ : ∃ P : Ending → World → Prop, P = fun e w' => e = .returned (.bool true) ∧ Nw w w' := ⟨_, rfl⟩
  rw [← hP]
  have HP : Hid (P = fun e w' => e = .returned (.bool true) ∧ Nw w w') := hP
  clear hP
  by_cases hye : ye = 0
  · have hzy : (ye : Int) = 0 := by omega
    have hzd : ((ye : Int) == 0) = true := by simp; omega
    have hcv := fun (U : World) => Lib.run_convert_bytes_const (P := Try.prog) U 22 5 #[.int .u8 97, .int .u8 98] 2 2 Try.underlying22 Try.underlying5
    simp only [List.size_toArray, List.length_cons, List.length_nil, Nat.reduceAdd] at hcv
    go_enter Try.func7, Try.ntmps7
    go_wp2_with fail
    go_quiet (fail)
    obtain ⟨a1, c1, W1, HAP1, HC1⟩ := HH.out ((w.alloc (.cells #[.slice aB bl cB, .slice al L cl, .slice aA A cA, .int .i64 most] 47)).drewN nq) (((Fr.refl _ _).alloc _).drewN _)
    go_wp2_with (first
      | (at_builtin; refine Lib.wpList_append_run _ rfl _ _ 22 22 rfl (.slice (some ⟨((w.alloc (.cells #[.slice aB bl cB, .slice al L cl, .slice aA A cA, .int .i64 most] 47)).drewN nq).heap.size, 0, none⟩) 0 0) (.slice aB bl cB) (by simp [Act.eval]) (by simp [Act.eval]) _ _ (HAP1.out _) ?_)
      | (go_at_call 15; with_reducible refine (HC1.out).mono ?_; rintro e w2 ⟨a2, l2, c2, z2, rfl, HC2⟩)
      | (go_at_call 19; with_reducible refine (HC2.out).mono ?_; rintro e w3 ⟨a3, c3, rfl, S1, HC4⟩)
      | (go_at_call 12; with_reducible refine (S1.out hQ).mono ?_; rintro e v1 ⟨rfl, n1⟩; obtain ⟨a4, c4, W4, HAP4, HC5⟩ := HC4.out v1 n1)
      | (at_builtin; refine Lib.wpList_append_run _ rfl _ _ 22 22 rfl (.slice (some ⟨v1.heap.size, 0, none⟩) 0 0) (.slice aA A cA) (by simp [Act.eval]) (by simp [Act.eval]) _ _ (HAP4.out _) ?_)
      | (go_at_call 21; with_reducible refine (HC5.out).mono ?_; rintro e w5 ⟨a5, c5, rfl, a6, c6, W6, HAP6, a7, c7, W7, HAP7, HC8⟩)
      | (at_builtin; refine Lib.wpList_append_run _ rfl _ _ 22 22 rfl (.slice (some ⟨w5.heap.size, 0, none⟩) 0 0) (.slice aB bl cB) (by simp [Act.eval]) (by simp [Act.eval]) _ _ (HAP6.out _) ?_)
      | (at_builtin; refine Lib.wpList_append_run _ rfl _ _ 22 22 rfl (.slice (some ⟨W6.heap.size, 0, none⟩) 0 0) (.slice aA A cA) (by simp [Act.eval]) (by simp [Act.eval]) _ _ (HAP7.out _) ?_)
      | (go_at_call 10; with_reducible refine (HC8.out).mono ?_; rintro e w8 ⟨a8, c8, z8, rfl, HC9⟩)
      | (go_at_call 12; with_reducible refine (HC9.out).mono ?_; rintro e w9 ⟨rfl, n9⟩)
      | (go_at_call 18; with_reducible refine (TL.out _ (by assumption)).mono ?_; rintro e u1 ⟨g1, k1, rfl, TL2⟩)
      | (go_at_call 19; with_reducible refine (TL2.out).mono ?_; rintro e u2 ⟨x2, y2, z2, rfl, TL3⟩)
      | (go_at_call 15; with_reducible refine (TL3.out).mono ?_; rintro e u3 ⟨x3, y3, z3, t3, rfl, TL4⟩)
      | (go_at_call 17; with_reducible refine (TL4.out).mono ?_; rintro e u4 ⟨rfl, TL5⟩)
      | (go_at_call 19; with_reducible refine (TL5.out).mono ?_; rintro e u5 ⟨x5, z5, rfl, HN⟩))
    rw [HP.out]
    exact ⟨rfl, HN.out⟩
  · have hzy : ¬ (ye : Int) = 0 := by omega
    have hzd : ((ye : Int) == 0) = false := by simp; omega
    have hcv := fun (U : World) => Lib.run_convert_bytes_const (P := Try.prog) U 22 5 #[.int .u8 97, .int .u8 98] 2 2 Try.underlying22 Try.underlying5
    simp only [List.size_toArray, List.length_cons, List.length_nil, Nat.reduceAdd] at hcv
    go_enter Try.func7, Try.ntmps7
    go_wp2_with fail
    go_quiet (fail)
    obtain ⟨a1, c1, W1, HAP1, HC1⟩ := HH.out ((w.alloc (.cells #[.slice aB bl cB, .slice al L cl, .slice aA A cA, .int .i64 most] 47)).drewN nq) (((Fr.refl _ _).alloc _).drewN _)
    go_wp2_with (first
      | (at_builtin; refine Lib.wpList_append_run _ rfl _ _ 22 22 rfl (.slice (some ⟨((w.alloc (.cells #[.slice aB bl cB, .slice al L cl, .slice aA A cA, .int .i64 most] 47)).drewN nq).heap.size, 0, none⟩) 0 0) (.slice aB bl cB) (by simp [Act.eval]) (by simp [Act.eval]) _ _ (HAP1.out _) ?_)
      | (go_at_call 15; with_reducible refine (HC1.out).mono ?_; rintro e w2 ⟨a2, l2, c2, z2, rfl, HC2⟩)
      | (go_at_call 19; with_reducible refine (HC2.out).mono ?_; rintro e w3 ⟨a3, c3, rfl, S1, HC4⟩)
      | (go_at_call 12; with_reducible refine (S1.out hQ).mono ?_; rintro e v1 ⟨rfl, n1⟩; obtain ⟨a4, c4, W4, HAP4, HC5⟩ := HC4.out v1 n1)
      | (at_builtin; refine Lib.wpList_append_run _ rfl _ _ 22 22 rfl (.slice (some ⟨v1.heap.size, 0, none⟩) 0 0) (.slice aA A cA) (by simp [Act.eval]) (by simp [Act.eval]) _ _ (HAP4.out _) ?_)
      | (go_at_call 21; with_reducible refine (HC5.out).mono ?_; rintro e w5 ⟨a5, c5, rfl, a6, c6, W6, HAP6, a7, c7, W7, HAP7, HC8⟩)
      | (at_builtin; refine Lib.wpList_append_run _ rfl _ _ 22 22 rfl (.slice (some ⟨w5.heap.size, 0, none⟩) 0 0) (.slice aB bl cB) (by simp [Act.eval]) (by simp [Act.eval]) _ _ (HAP6.out _) ?_)
      | (at_builtin; refine Lib.wpList_append_run _ rfl _ _ 22 22 rfl (.slice (some ⟨W6.heap.size, 0, none⟩) 0 0) (.slice aA A cA) (by simp [Act.eval]) (by simp [Act.eval]) _ _ (HAP7.out _) ?_)
      | (go_at_call 10; with_reducible refine (HC8.out).mono ?_; rintro e w8 ⟨a8, c8, z8, rfl, HC9⟩)
      | (go_at_call 12; with_reducible refine (HC9.out).mono ?_; rintro e w9 ⟨rfl, n9⟩)
      | (go_at_call 18; with_reducible refine (TL.out _ (by assumption)).mono ?_; rintro e u1 ⟨g1, k1, rfl, TL2⟩)
      | (go_at_call 19; with_reducible refine (TL2.out).mono ?_; rintro e u2 ⟨x2, y2, z2, rfl, TL3⟩)
      | (go_at_call 15; with_reducible refine (TL3.out).mono ?_; rintro e u3 ⟨x3, y3, z3, t3, rfl, TL4⟩)
      | (go_at_call 17; with_reducible refine (TL4.out).mono ?_; rintro e u4 ⟨rfl, TL5⟩)
      | (go_at_call 19; with_reducible refine (TL5.out).mono ?_; rintro e u5 ⟨x5, z5, rfl, HN⟩))
    rw [HP.out]
    exact ⟨rfl, HN.out⟩
set_option maxHeartbeats 40000000 in
set_option maxRecDepth 100000 in
theorem walk_ok0_no (w : World) (aB al aA : Option Addr) (bl cB L cl A cA : Nat) (most : Int) (rl ye : Nat) (Q : Prop) (hQ : Q) (HH : Hid (∀ V, Nw w V → ∃ a1 c1 W1, Hid (∀ ty, (Builtin.append_ #[22, 22] ty #[.slice (some ⟨V.heap.size, 0, none⟩) 0 0, .slice aB bl cB]).run Try.prog (V.alloc (.cells #[] 5)) = .ok (.slice a1 bl c1) W1) ∧ Hid (Calls Try.prog 15 #[.slice a1 bl c1] W1 fun e w2 => ∃ a2 l2 c2, ∃ z2 : Int, e = .returned (.tuple #[.slice a2 l2 c2, .int .i64 z2, .int .i64 0]) ∧ Hid (Calls Try.prog 19 #[.slice a2 l2 c2] w2 fun e w3 => ∃ a3 c3, e = .returned (.tuple #[.slice a3 bl c3, .int .i64 0]) ∧ Hid (Q → Calls Try.prog 12 #[.slice a3 bl c3, .slice aB bl cB] w3 fun e w' => e = .returned (.bool true) ∧ Nw w3 w') ∧ Hid (∀ V3, Nw w3 V3 → ∃ a4 c4 W4, Hid (∀ ty, (Builtin.append_ #[22, 22] ty #[.slice (some ⟨V3.heap.size, 0, none⟩) 0 0, .slice aA A cA]).run Try.prog (V3.alloc (.cells #[] 5)) = .ok (.slice a4 A c4) W4) ∧ Hid (Calls Try.prog 21 #[.slice a2 l2 c2, .slice a4 A c4, .int .i64 most] W4 fun e w5 => ∃ a5 c5, e = .returned (.tuple #[.slice a5 rl c5, .int .i64 ye]) ∧ ∃ a6 c6 W6, Hid (∀ ty, (Builtin.append_ #[22, 22] ty #[.slice (some ⟨w5.heap.size, 0, none⟩) 0 0, .slice aB bl cB]).run Try.prog (w5.alloc (.cells #[] 5)) = .ok (.slice a6 bl c6) W6) ∧ ∃ a7 c7 W7, Hid (∀ ty, (Builtin.append_ #[22, 22] ty #[.slice (some ⟨W6.heap.size, 0, none⟩) 0 0, .slice aA A cA]).run Try.prog (W6.alloc (.cells #[] 5)) = .ok (.slice a7 A c7) W7) ∧ Hid (Calls Try.prog 10 #[.slice a6 bl c6, .slice a7 A c7, .int .i64 most] W7 fun e w8 => ∃ a8 c8, ∃ z8 : Int, e = .returned (.tuple #[.slice a8 rl c8, .int .i64 z8, .int .i64 ye]) ∧ Hid (Calls Try.prog 12 #[.slice a5 rl c5, .slice a8 rl c8] w8 fun e w9 => e = .returned (.bool true) ∧ Nw w w9)))))))) (y : Nat) (hy : y ≠ 0) (TL : Hid (∀ V, Nw w V → Calls Try.prog 18 #[.slice al L cl] V fun e u1 => ∃ g1 c1, e = .returned (.slice (some ⟨g1, 0, none⟩) L c1) ∧ Hid (Calls Try.prog 19 #[.slice (some ⟨g1, 0, none⟩) L c1] u1 fun e u2 => ∃ a2 l2 c2, e = .returned (.tuple #[.slice a2 l2 c2, .int .i64 y]) ∧ Hid (Calls Try.prog 19 #[.slice (some ⟨u2.heap.size + 1, 0, none⟩) 1 1] ((u2.alloc (.cells #[.int .u8 97, .int .u8 98] 5 (2, 3))).alloc (.cells #[.slice (some ⟨u2.heap.size, 0, none⟩) 2 2, .int .i64 0, .int .i64 0] 36)) fun e w9 => ∃ a9 c9, e = .returned (.tuple #[.slice a9 3 c9, .int .i64 0]) ∧ Hid (Nw w w9))))) :
    Calls Try.prog 7 #[.agg #[.slice aB bl cB, .slice al L cl, .slice aA A cA, .int .i64 most]] w fun e w' => e = .returned (.bool true) ∧ Nw w w' := by
  obtain ⟨P, hP⟩ : ∃ P : Ending → World → Prop, P = fun e w' => e = .returned (.bool true) ∧ Nw w w' := ⟨_, rfl⟩
  rw [← hP]
  have HP : Hid (P = fun e w' => e = .returned (.bool true) ∧ Nw w w') := hP
  clear hP
  have hz1 : ¬ (y : Int) = 0 := by omega
  have hzc : ((y : Int) == 0) = false := by simp; omega
  by_cases hye : ye = 0
  · have hzy : (ye : Int) = 0 := by omega
    have hzd : ((ye : Int) == 0) = true := by simp; omega
    have hcv := fun (U : World) => Lib.run_convert_bytes_const (P := Try.prog) U 22 5 #[.int .u8 97, .int .u8 98] 2 2 Try.underlying22 Try.underlying5
    simp only [List.size_toArray, List.length_cons, List.length_nil, Nat.reduceAdd] at hcv
    go_enter Try.func7, Try.ntmps7
    go_wp2_with fail
    go_quiet (fail)
    obtain ⟨a1, c1, W1, HAP1, HC1⟩ := HH.out ((w.alloc (.cells #[.slice aB bl cB, .slice al L cl, .slice aA A cA, .int .i64 most] 47)).drewN nq) (((Fr.refl _ _).alloc _).drewN _)
    go_wp2_with (first
      | (at_builtin; refine Lib.wpList_append_run _ rfl _ _ 22 22 rfl (.slice (some ⟨((w.alloc (.cells #[.slice aB bl cB, .slice al L cl, .slice aA A cA, .int .i64 most] 47)).drewN nq).heap.size, 0, none⟩) 0 0) (.slice aB bl cB) (by simp [Act.eval]) (by simp [Act.eval]) _ _ (HAP1.out _) ?_)
      | (go_at_call 15; with_reducible refine (HC1.out).mono ?_; rintro e w2 ⟨a2, l2, c2, z2, rfl, HC2⟩)
      | (go_at_call 19; with_reducible refine (HC2.out).mono ?_; rintro e w3 ⟨a3, c3, rfl, S1, HC4⟩)
      | (go_at_call 12; with_reducible refine (S1.out hQ).mono ?_; rintro e v1 ⟨rfl, n1⟩; obtain ⟨a4, c4, W4, HAP4, HC5⟩ := HC4.out v1 n1)
      | (at_builtin; refine Lib.wpList_append_run _ rfl _ _ 22 22 rfl (.slice (some ⟨v1.heap.size, 0, none⟩) 0 0) (.slice aA A cA) (by simp [Act.eval]) (by simp [Act.eval]) _ _ (HAP4.out _) ?_)
      | (go_at_call 21; with_reducible refine (HC5.out).mono ?_; rintro e w5 ⟨a5, c5, rfl, a6, c6, W6, HAP6, a7, c7, W7, HAP7, HC8⟩)
      | (at_builtin; refine Lib.wpList_append_run _ rfl _ _ 22 22 rfl (.slice (some ⟨w5.heap.size, 0, none⟩) 0 0) (.slice aB bl cB) (by simp [Act.eval]) (by simp [Act.eval]) _ _ (HAP6.out _) ?_)
      | (at_builtin; refine Lib.wpList_append_run _ rfl _ _ 22 22 rfl (.slice (some ⟨W6.heap.size, 0, none⟩) 0 0) (.slice aA A cA) (by simp [Act.eval]) (by simp [Act.eval]) _ _ (HAP7.out _) ?_)
      | (go_at_call 10; with_reducible refine (HC8.out).mono ?_; rintro e w8 ⟨a8, c8, z8, rfl, HC9⟩)
      | (go_at_call 12; with_reducible refine (HC9.out).mono ?_; rintro e w9 ⟨rfl, n9⟩)
      | (go_at_call 18; with_reducible refine (TL.out _ (by assumption)).mono ?_; rintro e u1 ⟨g1, k1, rfl, TL2⟩)
      | (go_at_call 19; with_reducible refine (TL2.out).mono ?_; rintro e u2 ⟨x2, y2, z2, rfl, TL5⟩)
      | (go_at_call 19; with_reducible refine (TL5.out).mono ?_; rintro e u5 ⟨x5, z5, rfl, HN⟩))
    rw [HP.out]
    exact ⟨rfl, HN.out⟩
  · have hzy : ¬ (ye : Int) = 0 := by omega
    have hzd : ((ye : Int) == 0) = false := by simp; omega
    have hcv := fun (U : World) => Lib.run_convert_bytes_const (P := Try.prog) U 22 5 #[.int .u8 97, .int .u8 98] 2 2 Try.underlying22 Try.underlying5
    simp only [List.size_toArray, List.length_cons, List.length_nil, Nat.reduceAdd] at hcv
    go_enter Try.func7, Try.ntmps7
    go_wp2_with fail
    go_quiet (fail)
    obtain ⟨a1, c1, W1, HAP1, HC1⟩ := HH.out ((w.alloc (.cells #[.slice aB bl cB, .slice al L cl, .slice aA A cA, .int .i64 most] 47)).drewN nq) (((Fr.refl _ _).alloc _).drewN _)
    go_wp2_with (first
      | (at_builtin; refine Lib.wpList_append_run _ rfl _ _ 22 22 rfl (.slice (some ⟨((w.alloc (.cells #[.slice aB bl cB, .slice al L cl, .slice aA A cA, .int .i64 most] 47)).drewN nq).heap.size, 0, none⟩) 0 0) (.slice aB bl cB) (by simp [Act.eval]) (by simp [Act.eval]) _ _ (HAP1.out _) ?_)
      | (go_at_call 15; with_reducible refine (HC1.out).mono ?_; rintro e w2 ⟨a2, l2, c2, z2, rfl, HC2⟩)
      | (go_at_call 19; with_reducible refine (HC2.out).mono ?_; rintro e w3 ⟨a3, c3, rfl, S1, HC4⟩)
      | (go_at_call 12; with_reducible refine (S1.out hQ).mono ?_; rintro e v1 ⟨rfl, n1⟩; obtain ⟨a4, c4, W4, HAP4, HC5⟩ := HC4.out v1 n1)
      | (at_builtin; refine Lib.wpList_append_run _ rfl _ _ 22 22 rfl (.slice (some ⟨v1.heap.size, 0, none⟩) 0 0) (.slice aA A cA) (by simp [Act.eval]) (by simp [Act.eval]) _ _ (HAP4.out _) ?_)
      | (go_at_call 21; with_reducible refine (HC5.out).mono ?_; rintro e w5 ⟨a5, c5, rfl, a6, c6, W6, HAP6, a7, c7, W7, HAP7, HC8⟩)
      | (at_builtin; refine Lib.wpList_append_run _ rfl _ _ 22 22 rfl (.slice (some ⟨w5.heap.size, 0, none⟩) 0 0) (.slice aB bl cB) (by simp [Act.eval]) (by simp [Act.eval]) _ _ (HAP6.out _) ?_)
      | (at_builtin; refine Lib.wpList_append_run _ rfl _ _ 22 22 rfl (.slice (some ⟨W6.heap.size, 0, none⟩) 0 0) (.slice aA A cA) (by simp [Act.eval]) (by simp [Act.eval]) _ _ (HAP7.out _) ?_)
      | (go_at_call 10; with_reducible refine (HC8.out).mono ?_; rintro e w8 ⟨a8, c8, z8, rfl, HC9⟩)
      | (go_at_call 12; with_reducible refine (HC9.out).mono ?_; rintro e w9 ⟨rfl, n9⟩)
      | (go_at_call 18; with_reducible refine (TL.out _ (by assumption)).mono ?_; rintro e u1 ⟨g1, k1, rfl, TL2⟩)
      | (go_at_call 19; with_reducible refine (TL2.out).mono ?_; rintro e u2 ⟨x2, y2, z2, rfl, TL5⟩)
      | (go_at_call 19; with_reducible refine (TL5.out).mono ?_; rintro e u5 ⟨x5, z5, rfl, HN⟩))
    rw [HP.out]
    exact ⟨rfl, HN.out⟩
set_option maxHeartbeats 40000000 in
set_option maxRecDepth 100000 in
theorem walk_ok2_ok (w : World) (aB al aA : Option Addr) (bl cB L cl A cA : Nat) (most : Int) (rl ye : Nat) (Q : Prop) (HH : Hid (∀ V, Nw w V → ∃ a1 c1 W1, Hid (∀ ty, (Builtin.append_ #[22, 22] ty #[.slice (some ⟨V.heap.size, 0, none⟩) 0 0, .slice aB bl cB]).run Try.prog (V.alloc (.cells #[] 5)) = .ok (.slice a1 bl c1) W1) ∧ Hid (Calls Try.prog 15 #[.slice a1 bl c1] W1 fun e w2 => ∃ a2 l2 c2, ∃ z2 : Int, e = .returned (.tuple #[.slice a2 l2 c2, .int .i64 z2, .int .i64 0]) ∧ Hid (Calls Try.prog 19 #[.slice a2 l2 c2] w2 fun e w3 => ∃ a3 c3, e = .returned (.tuple #[.slice a3 0 c3, .int .i64 2]) ∧ Hid (Q → Calls Try.prog 12 #[.slice a3 0 c3, .slice aB bl cB] w3 fun e w' => e = .returned (.bool true) ∧ Nw w3 w') ∧ Hid (∀ V3, Nw w3 V3 → ∃ a4 c4 W4, Hid (∀ ty, (Builtin.append_ #[22, 22] ty #[.slice (some ⟨V3.heap.size, 0, none⟩) 0 0, .slice aA A cA]).run Try.prog (V3.alloc (.cells #[] 5)) = .ok (.slice a4 A c4) W4) ∧ Hid (Calls Try.prog 21 #[.slice a2 l2 c2, .slice a4 A c4, .int .i64 most] W4 fun e w5 => ∃ a5 c5, e = .returned (.tuple #[.slice a5 rl c5, .int .i64 ye]) ∧ ∃ a6 c6 W6, Hid (∀ ty, (Builtin.append_ #[22, 22] ty #[.slice (some ⟨w5.heap.size, 0, none⟩) 0 0, .slice aB bl cB]).run Try.prog (w5.alloc (.cells #[] 5)) = .ok (.slice a6 bl c6) W6) ∧ ∃ a7 c7 W7, Hid (∀ ty, (Builtin.append_ #[22, 22] ty #[.slice (some ⟨W6.heap.size, 0, none⟩) 0 0, .slice aA A cA]).run Try.prog (W6.alloc (.cells #[] 5)) = .ok (.slice a7 A c7) W7) ∧ Hid (Calls Try.prog 10 #[.slice a6 bl c6, .slice a7 A c7, .int .i64 most] W7 fun e w8 => ∃ a8 c8, ∃ z8 : Int, e = .returned (.tuple #[.slice a8 rl c8, .int .i64 z8, .int .i64 ye]) ∧ Hid (Calls Try.prog 12 #[.slice a5 rl c5, .slice a8 rl c8] w8 fun e w9 => e = .returned (.bool true) ∧ Nw w w9)))))))) (TL : Hid (∀ V, Nw w V → Calls Try.prog 18 #[.slice al L cl] V fun e u1 => ∃ g1 c1, e = .returned (.slice (some ⟨g1, 0, none⟩) L c1) ∧ Hid (Calls Try.prog 19 #[.slice (some ⟨g1, 0, none⟩) L c1] u1 fun e u2 => ∃ a2 l2 c2, e = .returned (.tuple #[.slice a2 l2 c2, .int .i64 0]) ∧ Hid (Calls Try.prog 15 #[.slice a2 l2 c2] u2 fun e u3 => ∃ a3 l3 c3, ∃ z3 : Int, e = .returned (.tuple #[.slice a3 l3 c3, .int .i64 z3, .int .i64 0]) ∧ Hid (Calls Try.prog 17 #[.slice a3 l3 c3, .slice al L cl] u3 fun e u4 => e = .returned (.bool true) ∧ Hid (Calls Try.prog 19 #[.slice (some ⟨u4.heap.size + 1, 0, none⟩) 1 1] ((u4.alloc (.cells #[.int .u8 97, .int .u8 98] 5 (2, 3))).alloc (.cells #[.slice (some ⟨u4.heap.size, 0, none⟩) 2 2, .int .i64 0, .int .i64 0] 36)) fun e w9 => ∃ a9 c9, e = .returned (.tuple #[.slice a9 3 c9, .int .i64 0]) ∧ Hid (Nw w w9))))))) :
    Calls Try.prog 7 #[.agg #[.slice aB bl cB, .slice al L cl, .slice aA A cA, .int .i64 most]] w fun e w' => e = .returned (.bool true) ∧ Nw w w' := by
  obtain ⟨P, hP⟩ : ∃ P : Ending → World → Prop, P = fun e w' => e = .returned (.bool true) ∧ Nw w w' := ⟨_, rfl⟩
  rw [← hP]
  have HP : Hid (P = fun e w' => e = .returned (.bool true) ∧ Nw w w') := hP
  clear hP
  by_cases hye : ye = 0
  · have hzy : (ye : Int) = 0 := by omega
    have hzd : ((ye : Int) == 0) = true := by simp; omega
    have hcv := fun (U : World) => Lib.run_convert_bytes_const (P := Try.prog) U 22 5 #[.int .u8 97, .int .u8 98] 2 2 Try.underlying22 Try.underlying5
    simp only [List.size_toArray, List.length_cons, List.length_nil, Nat.reduceAdd] at hcv
    go_enter Try.func7, Try.ntmps7
    go_wp2_with fail
    go_quiet (fail)
    obtain ⟨a1, c1, W1, HAP1, HC1⟩ := HH.out ((w.alloc (.cells #[.slice aB bl cB, .slice al L cl, .slice aA A cA, .int .i64 most] 47)).drewN nq) (((Fr.refl _ _).alloc _).drewN _)
    go_wp2_with (first
      | (at_builtin; refine Lib.wpList_append_run _ rfl _ _ 22 22 rfl (.slice (some ⟨((w.alloc (.cells #[.slice aB bl cB, .slice al L cl, .slice aA A cA, .int .i64 most] 47)).drewN nq).heap.size, 0, none⟩) 0 0) (.slice aB bl cB) (by simp [Act.eval]) (by simp [Act.eval]) _ _ (HAP1.out _) ?_)
      | (go_at_call 15; with_reducible refine (HC1.out).mono ?_; rintro e w2 ⟨a2, l2, c2, z2, rfl, HC2⟩)
      | (go_at_call 19; with_reducible refine (HC2.out).mono ?_; rintro e w3 ⟨a3, c3, rfl, S1, HC4⟩; obtain ⟨a4, c4, W4, HAP4, HC5⟩ := HC4.out w3 (Fr.refl _ _))
      | (at_builtin; refine Lib.wpList_append_run _ rfl _ _ 22 22 rfl (.slice (some ⟨w3.heap.size, 0, none⟩) 0 0) (.slice aA A cA) (by simp [Act.eval]) (by simp [Act.eval]) _ _ (HAP4.out _) ?_)
      | (go_at_call 21; with_reducible refine (HC5.out).mono ?_; rintro e w5 ⟨a5, c5, rfl, a6, c6, W6, HAP6, a7, c7, W7, HAP7, HC8⟩)
      | (at_builtin; refine Lib.wpList_append_run _ rfl _ _ 22 22 rfl (.slice (some ⟨w5.heap.size, 0, none⟩) 0 0) (.slice aB bl cB) (by simp [Act.eval]) (by simp [Act.eval]) _ _ (HAP6.out _) ?_)
      | (at_builtin; refine Lib.wpList_append_run _ rfl _ _ 22 22 rfl (.slice (some ⟨W6.heap.size, 0, none⟩) 0 0) (.slice aA A cA) (by simp [Act.eval]) (by simp [Act.eval]) _ _ (HAP7.out _) ?_)
      | (go_at_call 10; with_reducible refine (HC8.out).mono ?_; rintro e w8 ⟨a8, c8, z8, rfl, HC9⟩)
      | (go_at_call 12; with_reducible refine (HC9.out).mono ?_; rintro e w9 ⟨rfl, n9⟩)
      | (go_at_call 18; with_reducible refine (TL.out _ (by assumption)).mono ?_; rintro e u1 ⟨g1, k1, rfl, TL2⟩)
      | (go_at_call 19; with_reducible refine (TL2.out).mono ?_; rintro e u2 ⟨x2, y2, z2, rfl, TL3⟩)
      | (go_at_call 15; with_reducible refine (TL3.out).mono ?_; rintro e u3 ⟨x3, y3, z3, t3, rfl, TL4⟩)
      | (go_at_call 17; with_reducible refine (TL4.out).mono ?_; rintro e u4 ⟨rfl, TL5⟩)
      | (go_at_call 19; with_reducible refine (TL5.out).mono ?_; rintro e u5 ⟨x5, z5, rfl, HN⟩))
    rw [HP.out]
    exact ⟨rfl, HN.out⟩
  · have hzy : ¬ (ye : Int) = 0 := by omega
    have hzd : ((ye : Int) == 0) = false := by simp; omega
    have hcv := fun (U : World) => Lib.run_convert_bytes_const (P := Try.prog) U 22 5 #[.int .u8 97, .int .u8 98] 2 2 Try.underlying22 Try.underlying5
    simp only [List.size_toArray, List.length_cons, List.length_nil, Nat.reduceAdd] at hcv
    go_enter Try.func7, Try.ntmps7
    go_wp2_with fail
    go_quiet (fail)
    obtain ⟨a1, c1, W1, HAP1, HC1⟩ := HH.out ((w.alloc (.cells #[.slice aB bl cB, .slice al L cl, .slice aA A cA, .int .i64 most] 47)).drewN nq) (((Fr.refl _ _).alloc _).drewN _)
    go_wp2_with (first
      | (at_builtin; refine Lib.wpList_append_run _ rfl _ _ 22 22 rfl (.slice (some ⟨((w.alloc (.cells #[.slice aB bl cB, .slice al L cl, .slice aA A cA, .int .i64 most] 47)).drewN nq).heap.size, 0, none⟩) 0 0) (.slice aB bl cB) (by simp [Act.eval]) (by simp [Act.eval]) _ _ (HAP1.out _) ?_)
      | (go_at_call 15; with_reducible refine (HC1.out).mono ?_; rintro e w2 ⟨a2, l2, c2, z2, rfl, HC2⟩)
      | (go_at_call 19; with_reducible refine (HC2.out).mono ?_; rintro e w3 ⟨a3, c3, rfl, S1, HC4⟩; obtain ⟨a4, c4, W4, HAP4, HC5⟩ := HC4.out w3 (Fr.refl _ _))
      | (at_builtin; refine Lib.wpList_append_run _ rfl _ _ 22 22 rfl (.slice (some ⟨w3.heap.size, 0, none⟩) 0 0) (.slice aA A cA) (by simp [Act.eval]) (by simp [Act.eval]) _ _ (HAP4.out _) ?_)
      | (go_at_call 21; with_reducible refine (HC5.out).mono ?_; rintro e w5 ⟨a5, c5, rfl, a6, c6, W6, HAP6, a7, c7, W7, HAP7, HC8⟩)
      | (at_builtin; refine Lib.wpList_append_run _ rfl _ _ 22 22 rfl (.slice (some ⟨w5.heap.size, 0, none⟩) 0 0) (.slice aB bl cB) (by simp [Act.eval]) (by simp [Act.eval]) _ _ (HAP6.out _) ?_)
      | (at_builtin; refine Lib.wpList_append_run _ rfl _ _ 22 22 rfl (.slice (some ⟨W6.heap.size, 0, none⟩) 0 0) (.slice aA A cA) (by simp [Act.eval]) (by simp [Act.eval]) _ _ (HAP7.out _) ?_)
      | (go_at_call 10; with_reducible refine (HC8.out).mono ?_; rintro e w8 ⟨a8, c8, z8, rfl, HC9⟩)
      | (go_at_call 12; with_reducible refine (HC9.out).mono ?_; rintro e w9 ⟨rfl, n9⟩)
      | (go_at_call 18; with_reducible refine (TL.out _ (by assumption)).mono ?_; rintro e u1 ⟨g1, k1, rfl, TL2⟩)
      | (go_at_call 19; with_reducible refine (TL2.out).mono ?_; rintro e u2 ⟨x2, y2, z2, rfl, TL3⟩)
      | (go_at_call 15; with_reducible refine (TL3.out).mono ?_; rintro e u3 ⟨x3, y3, z3, t3, rfl, TL4⟩)
      | (go_at_call 17; with_reducible refine (TL4.out).mono ?_; rintro e u4 ⟨rfl, TL5⟩)
      | (go_at_call 19; with_reducible refine (TL5.out).mono ?_; rintro e u5 ⟨x5, z5, rfl, HN⟩))
    rw [HP.out]
    exact ⟨rfl, HN.out⟩
set_option maxHeartbeats 40000000 in
set_option maxRecDepth 100000 in
theorem walk_ok2_no (w : World) (aB al aA : Option Addr) (bl cB L cl A cA : Nat) (most : Int) (rl ye : Nat) (Q : Prop) (HH : Hid (∀ V, Nw w V → ∃ a1 c1 W1, Hid (∀ ty, (Builtin.append_ #[22, 22] ty #[.slice (some ⟨V.heap.size, 0, none⟩) 0 0, .slice aB bl cB]).run Try.prog (V.alloc (.cells #[] 5)) = .ok (.slice a1 bl c1) W1) ∧ Hid (Calls Try.prog 15 #[.slice a1 bl c1] W1 fun e w2 => ∃ a2 l2 c2, ∃ z2 : Int, e = .returned (.tuple #[.slice a2 l2 c2, .int .i64 z2, .int .i64 0]) ∧ Hid (Calls Try.prog 19 #[.slice a2 l2 c2] w2 fun e w3 => ∃ a3 c3, e = .returned (.tuple #[.slice a3 0 c3, .int .i64 2]) ∧ Hid (Q → Calls Try.prog 12 #[.slice a3 0 c3, .slice aB bl cB] w3 fun e w' => e = .returned (.bool true) ∧ Nw w3 w') ∧ Hid (∀ V3, Nw w3 V3 → ∃ a4 c4 W4, Hid (∀ ty, (Builtin.append_ #[22, 22] ty #[.slice (some ⟨V3.heap.size, 0, none⟩) 0 0, .slice aA A cA]).run Try.prog (V3.alloc (.cells #[] 5)) = .ok (.slice a4 A c4) W4) ∧ Hid (Calls Try.prog 21 #[.slice a2 l2 c2, .slice a4 A c4, .int .i64 most] W4 fun e w5 => ∃ a5 c5, e = .returned (.tuple #[.slice a5 rl c5, .int .i64 ye]) ∧ ∃ a6 c6 W6, Hid (∀ ty, (Builtin.append_ #[22, 22] ty #[.slice (some ⟨w5.heap.size, 0, none⟩) 0 0, .slice aB bl cB]).run Try.prog (w5.alloc (.cells #[] 5)) = .ok (.slice a6 bl c6) W6) ∧ ∃ a7 c7 W7, Hid (∀ ty, (Builtin.append_ #[22, 22] ty #[.slice (some ⟨W6.heap.size, 0, none⟩) 0 0, .slice aA A cA]).run Try.prog (W6.alloc (.cells #[] 5)) = .ok (.slice a7 A c7) W7) ∧ Hid (Calls Try.prog 10 #[.slice a6 bl c6, .slice a7 A c7, .int .i64 most] W7 fun e w8 => ∃ a8 c8, ∃ z8 : Int, e = .returned (.tuple #[.slice a8 rl c8, .int .i64 z8, .int .i64 ye]) ∧ Hid (Calls Try.prog 12 #[.slice a5 rl c5, .slice a8 rl c8] w8 fun e w9 => e = .returned (.bool true) ∧ Nw w w9)))))))) (y : Nat) (hy : y ≠ 0) (TL : Hid (∀ V, Nw w V → Calls Try.prog 18 #[.slice al L cl] V fun e u1 => ∃ g1 c1, e = .returned (.slice (some ⟨g1, 0, none⟩) L c1) ∧ Hid (Calls Try.prog 19 #[.slice (some ⟨g1, 0, none⟩) L c1] u1 fun e u2 => ∃ a2 l2 c2, e = .returned (.tuple #[.slice a2 l2 c2, .int .i64 y]) ∧ Hid (Calls Try.prog 19 #[.slice (some ⟨u2.heap.size + 1, 0, none⟩) 1 1] ((u2.alloc (.cells #[.int .u8 97, .int .u8 98] 5 (2, 3))).alloc (.cells #[.slice (some ⟨u2.heap.size, 0, none⟩) 2 2, .int .i64 0, .int .i64 0] 36)) fun e w9 => ∃ a9 c9, e = .returned (.tuple #[.slice a9 3 c9, .int .i64 0]) ∧ Hid (Nw w w9))))) :
    Calls Try.prog 7 #[.agg #[.slice aB bl cB, .slice al L cl, .slice aA A cA, .int .i64 most]] w fun e w' => e = .returned (.bool true) ∧ Nw w w' := by
  obtain ⟨P, hP⟩ : ∃ P : Ending → World → Prop, P = fun e w' => e = .returned (.bool true) ∧ Nw w w' := ⟨_, rfl⟩
  rw [← hP]
  have HP : Hid (P = fun e w' => e = .returned (.bool true) ∧ Nw w w') := hP
  clear hP
  have hz1 : ¬ (y : Int) = 0 := by omega
  have hzc : ((y : Int) == 0) = false := by simp; omega
  by_cases hye : ye = 0
  · have hzy : (ye : Int) = 0 := by omega
    have hzd : ((ye : Int) == 0) = true := by simp; omega
    have hcv := fun (U : World) => Lib.run_convert_bytes_const (P := Try.prog) U 22 5 #[.int .u8 97, .int .u8 98] 2 2 Try.underlying22 Try.underlying5
    simp only [List.size_toArray, List.length_cons, List.length_nil, Nat.reduceAdd] at hcv
    go_enter Try.func7, Try.ntmps7
    go_wp2_with fail
    go_quiet (fail)
    obtain ⟨a1, c1, W1, HAP1, HC1⟩ := HH.out ((w.alloc (.cells #[.slice aB bl cB, .slice al L cl, .slice aA A cA, .int .i64 most] 47)).drewN nq) (((Fr.refl _ _).alloc _).drewN _)
    go_wp2_with (first
      | (at_builtin; refine Lib.wpList_append_run _ rfl _ _ 22 22 rfl (.slice (some ⟨((w.alloc (.cells #[.slice aB bl cB, .slice al L cl, .slice aA A cA, .int .i64 most] 47)).drewN nq).heap.size, 0, none⟩) 0 0) (.slice aB bl cB) (by simp [Act.eval]) (by simp [Act.eval]) _ _ (HAP1.out _) ?_)
      | (go_at_call 15; with_reducible refine (HC1.out).mono ?_; rintro e w2 ⟨a2, l2, c2, z2, rfl, HC2⟩)
      | (go_at_call 19; with_reducible refine (HC2.out).mono ?_; rintro e w3 ⟨a3, c3, rfl, S1, HC4⟩; obtain ⟨a4, c4, W4, HAP4, HC5⟩ := HC4.out w3 (Fr.refl _ _))
      | (at_builtin; refine Lib.wpList_append_run _ rfl _ _ 22 22 rfl (.slice (some ⟨w3.heap.size, 0, none⟩) 0 0) (.slice aA A cA) (by simp [Act.eval]) (by simp [Act.eval]) _ _ (HAP4.out _) ?_)
      | (go_at_call 21; with_reducible refine (HC5.out).mono ?_; rintro e w5 ⟨a5, c5, rfl, a6, c6, W6, HAP6, a7, c7, W7, HAP7, HC8⟩)
      | (at_builtin; refine Lib.wpList_append_run _ rfl _ _ 22 22 rfl (.slice (some ⟨w5.heap.size, 0, none⟩) 0 0) (.slice aB bl cB) (by simp [Act.eval]) (by simp [Act.eval]) _ _ (HAP6.out _) ?_)
      | (at_builtin; refine Lib.wpList_append_run _ rfl _ _ 22 22 rfl (.slice (some ⟨W6.heap.size, 0, none⟩) 0 0) (.slice aA A cA) (by simp [Act.eval]) (by simp [Act.eval]) _ _ (HAP7.out _) ?_)
      | (go_at_call 10; with_reducible refine (HC8.out).mono ?_; rintro e w8 ⟨a8, c8, z8, rfl, HC9⟩)
      | (go_at_call 12; with_reducible refine (HC9.out).mono ?_; rintro e w9 ⟨rfl, n9⟩)
      | (go_at_call 18; with_reducible refine (TL.out _ (by assumption)).mono ?_; rintro e u1 ⟨g1, k1, rfl, TL2⟩)
      | (go_at_call 19; with_reducible refine (TL2.out).mono ?_; rintro e u2 ⟨x2, y2, z2, rfl, TL5⟩)
      | (go_at_call 19; with_reducible refine (TL5.out).mono ?_; rintro e u5 ⟨x5, z5, rfl, HN⟩))
    rw [HP.out]
    exact ⟨rfl, HN.out⟩
  · have hzy : ¬ (ye : Int) = 0 := by omega
    have hzd : ((ye : Int) == 0) = false := by simp; omega
    have hcv := fun (U : World) => Lib.run_convert_bytes_const (P := Try.prog) U 22 5 #[.int .u8 97, .int .u8 98] 2 2 Try.underlying22 Try.underlying5
    simp only [List.size_toArray, List.length_cons, List.length_nil, Nat.reduceAdd] at hcv
    go_enter Try.func7, Try.ntmps7
    go_wp2_with fail
    go_quiet (fail)
    obtain ⟨a1, c1, W1, HAP1, HC1⟩ := HH.out ((w.alloc (.cells #[.slice aB bl cB, .slice al L cl, .slice aA A cA, .int .i64 most] 47)).drewN nq) (((Fr.refl _ _).alloc _).drewN _)
    go_wp2_with (first
      | (at_builtin; refine Lib.wpList_append_run _ rfl _ _ 22 22 rfl (.slice (some ⟨((w.alloc (.cells #[.slice aB bl cB, .slice al L cl, .slice aA A cA, .int .i64 most] 47)).drewN nq).heap.size, 0, none⟩) 0 0) (.slice aB bl cB) (by simp [Act.eval]) (by simp [Act.eval]) _ _ (HAP1.out _) ?_)
      | (go_at_call 15; with_reducible refine (HC1.out).mono ?_; rintro e w2 ⟨a2, l2, c2, z2, rfl, HC2⟩)
      | (go_at_call 19; with_reducible refine (HC2.out).mono ?_; rintro e w3 ⟨a3, c3, rfl, S1, HC4⟩; obtain ⟨a4, c4, W4, HAP4, HC5⟩ := HC4.out w3 (Fr.refl _ _))
      | (at_builtin; refine Lib.wpList_append_run _ rfl _ _ 22 22 rfl (.slice (some ⟨w3.heap.size, 0, none⟩) 0 0) (.slice aA A cA) (by simp [Act.eval]) (by simp [Act.eval]) _ _ (HAP4.out _) ?_)
      | (go_at_call 21; with_reducible refine (HC5.out).mono ?_; rintro e w5 ⟨a5, c5, rfl, a6, c6, W6, HAP6, a7, c7, W7, HAP7, HC8⟩)
      | (at_builtin; refine Lib.wpList_append_run _ rfl _ _ 22 22 rfl (.slice (some ⟨w5.heap.size, 0, none⟩) 0 0) (.slice aB bl cB) (by simp [Act.eval]) (by simp [Act.eval]) _ _ (HAP6.out _) ?_)
      | (at_builtin; refine Lib.wpList_append_run _ rfl _ _ 22 22 rfl (.slice (some ⟨W6.heap.size, 0, none⟩) 0 0) (.slice aA A cA) (by simp [Act.eval]) (by simp [Act.eval]) _ _ (HAP7.out _) ?_)
      | (go_at_call 10; with_reducible refine (HC8.out).mono ?_; rintro e w8 ⟨a8, c8, z8, rfl, HC9⟩)
      | (go_at_call 12; with_reducible refine (HC9.out).mono ?_; rintro e w9 ⟨rfl, n9⟩)
      | (go_at_call 18; with_reducible refine (TL.out _ (by assumption)).mono ?_; rintro e u1 ⟨g1, k1, rfl, TL2⟩)
      | (go_at_call 19; with_reducible refine (TL2.out).mono ?_; rintro e u2 ⟨x2, y2, z2, rfl, TL5⟩)
      | (go_at_call 19; with_reducible refine (TL5.out).mono ?_; rintro e u5 ⟨x5, z5, rfl, HN⟩))
    rw [HP.out]
    exact ⟨rfl, HN.out⟩
end Go.Proofs.Ytpnacppmdlnjlaa

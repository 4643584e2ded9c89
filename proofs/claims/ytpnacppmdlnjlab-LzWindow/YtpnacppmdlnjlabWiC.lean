import Derived.Test.YtpnacppmdlnjlabWiB
namespace Go.Proofs.Ytpnacppmdlnjlab
open Go.RowKit
set_option linter.unusedVariables false
theorem step_append_w {ops : Array Oper} {o : Oper} {a : Act} {w : World} {K : Act → World → Prop} {Q : Exit → Act → World → Prop} {E : Prop} (hg : o.guard = none) (s x : Operand) (hop : o.op = Op.call { callee := Callee.builtin Builtin.append, args := #[s, x], argTypes := #[22, 22] })
    (vs vx : Value) (hs : a.eval s = vs) (hx : a.eval x = vx) (v' : Value) (W : World) (hrun : ∀ ty, (Builtin.append_ #[22, 22] ty #[vs, vx]).run Try.prog w = .ok v' W) (hK : K (a.put o.dst v') W) :
    if Region.wanted o (yielded ops a.tmps) = true then Oper.wp Try.prog o a w K Q else E := by
  have hw : Region.wanted o (yielded ops a.tmps) = true := by simp [Region.wanted, hg]
  rw [if_pos hw]
  unfold Oper.wp
  simp [execOp, hop, resolve, invoke, builtin, hs, hx, hrun, Result.andThen]
  exact hK
set_option maxHeartbeats 40000000 in
set_option maxRecDepth 100000 in
theorem walk_ne (w WE : World) (ap aa af : Option Addr) (N cp A0 ca A Fl cf : Nat) (hN : N ≤ 4194304) (hA0 : A = A0) (hA : 65535 < A) (hA1 : 65535 ≤ A) (hA2 : A ≤ 140737488351232) (gE cE : Nat) (hE : A ≤ cE) (hE2 : cE < 9223372036854775808) (a4 a5 : Option Addr) (c4 c5 : Nat) (W4 W5 : World)
    (HAP1 : Hid (∀ ty, (Builtin.append_ #[22, 22] ty #[.slice (some ⟨w.heap.size, 0, none⟩) 0 0, .slice aa A0 ca]).run Try.prog (w.alloc (.cells #[] 5)) = .ok (.slice (some ⟨gE, 0, none⟩) A cE) WE))
    (HAP4 : Hid (∀ ty, (Builtin.append_ #[22, 22] ty #[.slice (some ⟨WE.heap.size, 0, none⟩) 0 0, .slice ap N cp]).run Try.prog (WE.alloc (.cells #[] 5)) = .ok (.slice a4 N c4) W4))
    (HAP5 : Hid (∀ ty, (Builtin.append_ #[22, 22] ty #[.slice (some ⟨W4.heap.size, 0, none⟩) 0 0, .slice (some ⟨gE, 0, none⟩) A cE]).run Try.prog (W4.alloc (.cells #[] 5)) = .ok (.slice a5 A c5) W5))
    (HC6 : Hid (Calls Try.prog 6 #[.slice a4 N c4, .slice a5 A c5] W5 fun e w6 => ∃ a6 l6 c6, e = .returned (.tuple #[.slice a6 l6 c6, .int .i64 0]) ∧
      Hid (∃ aA cA X1, Hid (∀ ty, (Builtin.append_ #[22, 22] ty #[.slice (some ⟨w6.heap.size, 0, none⟩) 0 0, .slice ap N cp]).run Try.prog (w6.drew.alloc (.cells #[] 5)) = .ok (.slice aA N cA) X1) ∧ ∃ aB cB X2, Hid (∀ ty, (Builtin.append_ #[22, 22] ty #[.slice (some ⟨X1.heap.size, 0, none⟩) 0 0, .slice af Fl cf]).run Try.prog (X1.alloc (.cells #[] 5)) = .ok (.slice aB Fl cB) X2) ∧ ∃ aC cC X3, Hid (∀ ty, (Builtin.append_ #[22, 22] ty #[.slice aB Fl cB, .slice (some ⟨gE, A - 65535, none⟩) 65535 (cE - (A - 65535))]).run Try.prog X2 = .ok (.slice aC (Fl + 65535) cC) X3) ∧ Hid (Calls Try.prog 6 #[.slice aA N cA, .slice aC (Fl + 65535) cC] X3 fun e w9 => ∃ a9 l9 c9, e = .returned (.tuple #[.slice a9 l9 c9, .int .i64 0]) ∧ WRst w (.slice ap N cp) N (A - 65535) gE cE a6 l6 c6 a9 l9 c9 w9)) ∧
      Hid (WTwo ((w6.drew.alloc (.cells #[] 5)).alloc (.cells #[] 5)) w6.heap.size (w6.heap.size + 1) (.slice ap N cp) (.slice af Fl cf) (.slice (some ⟨gE, A - 65535, none⟩) 65535 (cE - (A - 65535))) N Fl fun e w9 => ∃ a9 l9 c9, e = .returned (.tuple #[.slice a9 l9 c9, .int .i64 0]) ∧ WRst w (.slice ap N cp) N (A - 65535) gE cE a6 l6 c6 a9 l9 c9 w9) ∧
      Hid (WTwo ((w6.drew.alloc (.cells #[] 5)).alloc (.cells #[] 5)) (w6.heap.size + 1) w6.heap.size (.slice ap N cp) (.slice af Fl cf) (.slice (some ⟨gE, A - 65535, none⟩) 65535 (cE - (A - 65535))) N Fl fun e w9 => ∃ a9 l9 c9, e = .returned (.tuple #[.slice a9 l9 c9, .int .i64 0]) ∧ WRst w (.slice ap N cp) N (A - 65535) gE cE a6 l6 c6 a9 l9 c9 w9))) :
    Calls Try.prog 4 #[.slice ap N cp, .slice aa A0 ca, .slice af Fl cf] w fun e w' => e = .returned (.bool true) ∧ Nw w w' := by
  obtain ⟨P, hP⟩ : ∃ P : Ending → World → Prop, P = fun e w' => e = .returned (.bool true) ∧ Nw w w' := ⟨_, rfl⟩
  rw [← hP]
  have HP : Hid (P = fun e w' => e = .returned (.bool true) ∧ Nw w w') := hP
  clear hP
  have hz0 : ¬ (4194304 : Int) < (N : Int) := by omega
  have hz2 : (A : Int) - 65535 = ((A - 65535 : Nat) : Int) := by omega
  have hz3 : ((A - 65535 : Nat) : Int) ≤ (A : Int) := by omega
  have hz4 : ¬ cE = A - 65535 := by omega
  have hz5 : A - (A - 65535) = 65535 := by omega
  have hz6 : (0 : Int) ≤ ((A - 65535 : Nat) : Int) := by omega
  have hz7 : (A : Int) ≤ (cE : Int) := by omega
  have hz8 : A - 65535 ≤ A := by omega
  have hz9 : IntKind.i64.wrap ((A : Int) - 65535) = ((A - 65535 : Nat) : Int) := by rw [IntKind.wrap_i64]; omega
  have hz10 : IntKind.i64.wrap ((A - 65535 : Nat) : Int) = ((A - 65535 : Nat) : Int) := by rw [IntKind.wrap_i64]; omega
  subst hA0
  have hz1 : ¬ (A : Int) < 65535 := by omega
  have hzq : ¬ (A : Int) = 65535 := by omega
  have hzb : ((A : Int) == 65535) = false := by simp; omega
  generalize A - 65535 = lo at *
  go_enter Try.func4, Try.ntmps4
  go_wp2_with (first
    | (at_builtin; refine Lib.wpList_append_run _ rfl _ _ 22 22 rfl (.slice (some ⟨w.heap.size, 0, none⟩) 0 0) (.slice aa A ca) (by simp [Act.eval]) (by simp [Act.eval]) _ _ (HAP1.out _) ?_)
    | (at_builtin; refine Lib.wpList_append_run _ rfl _ _ 22 22 rfl (.slice (some ⟨WE.heap.size, 0, none⟩) 0 0) (.slice ap N cp) (by simp [Act.eval]) (by simp [Act.eval]) _ _ (HAP4.out _) ?_)
    | (at_builtin; refine Lib.wpList_append_run _ rfl _ _ 22 22 rfl (.slice (some ⟨W4.heap.size, 0, none⟩) 0 0) (.slice (some ⟨gE, 0, none⟩) A cE) (by simp [Act.eval]) (by simp [Act.eval]) _ _ (HAP5.out _) ?_)
    | (go_at_call 6; with_reducible refine (HC6.out).mono ?_; rintro e w6 ⟨a6, l6, c6, rfl, S1, S2, S3⟩))
  obtain ⟨aA, cA, X1, HA1, aB, cB, X2, HB1, aC, cC, X3, HC1, HE1⟩ := S1.out
  obtain ⟨bA, dA, Y1, HA2, bB, dB, Y2, HB2, bC, dC, Y3, HC2, HE2⟩ := S2.out
  obtain ⟨eA, fA, Z1, HA3, eB, fB, Z2, HB3, eC, fC, Z3, HC3, HE3⟩ := S3.out
  clear S1 S2 S3
  go_region_held3 (fun w' => True) (trivial)
    (first
      | (refine step_append_w rfl _ _ rfl (.slice (some ⟨w6.heap.size, 0, none⟩) 0 0) (.slice ap N cp) ?_ ?_ _ _ (HA1.out) ?_; (solve | simp [Act.eval]); (solve | simp [Act.eval]))
      | (refine step_append_w rfl _ _ rfl (.slice (some ⟨X1.heap.size, 0, none⟩) 0 0) (.slice af Fl cf) ?_ ?_ _ _ (HB1.out) ?_; (solve | simp [Act.eval]); (solve | simp [Act.eval]))
      | (refine step_append_w rfl _ _ rfl (.slice aB Fl cB) (.slice (some ⟨gE, lo, none⟩) 65535 (cE - lo)) ?_ ?_ _ _ (HC1.out) ?_; (solve | simp [Act.eval]); (solve | simp [Act.eval]))
      | (refine step_append_w rfl _ _ rfl (.slice (some ⟨w6.heap.size, 0, none⟩) 0 0) (.slice ap N cp) ?_ ?_ _ _ (HA2.out) ?_; (solve | simp [Act.eval]); (solve | simp [Act.eval]))
      | (refine step_append_w rfl _ _ rfl (.slice (some ⟨w6.heap.size + 1, 0, none⟩) 0 0) (.slice af Fl cf) ?_ ?_ _ _ (HB2.out) ?_; (solve | simp [Act.eval]); (solve | simp [Act.eval]))
      | (refine step_append_w rfl _ _ rfl (.slice bB Fl dB) (.slice (some ⟨gE, lo, none⟩) 65535 (cE - lo)) ?_ ?_ _ _ (HC2.out) ?_; (solve | simp [Act.eval]); (solve | simp [Act.eval]))
      | (refine step_append_w rfl _ _ rfl (.slice (some ⟨w6.heap.size + 1, 0, none⟩) 0 0) (.slice ap N cp) ?_ ?_ _ _ (HA3.out) ?_; (solve | simp [Act.eval]); (solve | simp [Act.eval]))
      | (refine step_append_w rfl _ _ rfl (.slice (some ⟨w6.heap.size, 0, none⟩) 0 0) (.slice af Fl cf) ?_ ?_ _ _ (HB3.out) ?_; (solve | simp [Act.eval]); (solve | simp [Act.eval]))
      | (refine step_append_w rfl _ _ rfl (.slice eB Fl fB) (.slice (some ⟨gE, lo, none⟩) 65535 (cE - lo)) ?_ ?_ _ _ (HC3.out) ?_; (solve | simp [Act.eval]); (solve | simp [Act.eval]))
      | (go_at_call 6; with_reducible refine (HE1.out).mono ?_; rintro e w9 ⟨a9, l9, c9, rfl, SS, SD⟩)
      | (go_at_call 6; with_reducible refine (HE2.out).mono ?_; rintro e w9 ⟨a9, l9, c9, rfl, SS, SD⟩)
      | (go_at_call 6; with_reducible refine (HE3.out).mono ?_; rintro e w9 ⟨a9, l9, c9, rfl, SS, SD⟩))
  all_goals obtain ⟨a10, c10, W10, HAP10, HC11⟩ := SD.out w9 (Fr.refl _ _)
  all_goals go_wp2_with (first
    | (at_builtin; refine Lib.wpList_append_run _ rfl _ _ 22 22 rfl (.slice (some ⟨w9.heap.size, 0, none⟩) 0 0) (.slice (some ⟨gE, lo, none⟩) 65535 (cE - lo)) (by simp [Act.eval]) (by simp [Act.eval]) _ _ (HAP10.out _) ?_)
    | (go_at_call 5; with_reducible refine (HC11.out).mono ?_; rintro e w11 ⟨a11, c11, z11, rfl, HC12⟩)
    | (go_at_call 7; with_reducible refine (HC12.out).mono ?_; rintro e w12 ⟨rfl, HN⟩))
  all_goals (rw [HP.out]; exact ⟨rfl, HN⟩)
set_option maxHeartbeats 40000000 in
set_option maxRecDepth 100000 in
theorem walk_eq (w WE : World) (ap aa af : Option Addr) (N cp A0 ca A Fl cf : Nat) (hN : N ≤ 4194304) (hA0 : A = A0) (hA : Hid (A = 65535)) (hA1 : 65535 ≤ A) (hA2 : A ≤ 140737488351232) (gE cE : Nat) (hE : A ≤ cE) (hE2 : cE < 9223372036854775808) (a4 a5 : Option Addr) (c4 c5 : Nat) (W4 W5 : World)
    (HAP1 : Hid (∀ ty, (Builtin.append_ #[22, 22] ty #[.slice (some ⟨w.heap.size, 0, none⟩) 0 0, .slice aa A0 ca]).run Try.prog (w.alloc (.cells #[] 5)) = .ok (.slice (some ⟨gE, 0, none⟩) A cE) WE))
    (HAP4 : Hid (∀ ty, (Builtin.append_ #[22, 22] ty #[.slice (some ⟨WE.heap.size, 0, none⟩) 0 0, .slice ap N cp]).run Try.prog (WE.alloc (.cells #[] 5)) = .ok (.slice a4 N c4) W4))
    (HAP5 : Hid (∀ ty, (Builtin.append_ #[22, 22] ty #[.slice (some ⟨W4.heap.size, 0, none⟩) 0 0, .slice (some ⟨gE, 0, none⟩) A cE]).run Try.prog (W4.alloc (.cells #[] 5)) = .ok (.slice a5 A c5) W5))
    (HC6 : Hid (Calls Try.prog 6 #[.slice a4 N c4, .slice a5 A c5] W5 fun e w6 => ∃ a6 l6 c6, e = .returned (.tuple #[.slice a6 l6 c6, .int .i64 0]) ∧
      Hid (∃ aA cA X1, Hid (∀ ty, (Builtin.append_ #[22, 22] ty #[.slice (some ⟨w6.heap.size, 0, none⟩) 0 0, .slice ap N cp]).run Try.prog (w6.drew.alloc (.cells #[] 5)) = .ok (.slice aA N cA) X1) ∧ ∃ aB cB X2, Hid (∀ ty, (Builtin.append_ #[22, 22] ty #[.slice (some ⟨X1.heap.size, 0, none⟩) 0 0, .slice af Fl cf]).run Try.prog (X1.alloc (.cells #[] 5)) = .ok (.slice aB Fl cB) X2) ∧ ∃ aC cC X3, Hid (∀ ty, (Builtin.append_ #[22, 22] ty #[.slice aB Fl cB, .slice (some ⟨gE, A - 65535, none⟩) 65535 (cE - (A - 65535))]).run Try.prog X2 = .ok (.slice aC (Fl + 65535) cC) X3) ∧ Hid (Calls Try.prog 6 #[.slice aA N cA, .slice aC (Fl + 65535) cC] X3 fun e w9 => ∃ a9 l9 c9, e = .returned (.tuple #[.slice a9 l9 c9, .int .i64 0]) ∧ WRst w (.slice ap N cp) N (A - 65535) gE cE a6 l6 c6 a9 l9 c9 w9)) ∧
      Hid (WTwo ((w6.drew.alloc (.cells #[] 5)).alloc (.cells #[] 5)) w6.heap.size (w6.heap.size + 1) (.slice ap N cp) (.slice af Fl cf) (.slice (some ⟨gE, A - 65535, none⟩) 65535 (cE - (A - 65535))) N Fl fun e w9 => ∃ a9 l9 c9, e = .returned (.tuple #[.slice a9 l9 c9, .int .i64 0]) ∧ WRst w (.slice ap N cp) N (A - 65535) gE cE a6 l6 c6 a9 l9 c9 w9) ∧
      Hid (WTwo ((w6.drew.alloc (.cells #[] 5)).alloc (.cells #[] 5)) (w6.heap.size + 1) w6.heap.size (.slice ap N cp) (.slice af Fl cf) (.slice (some ⟨gE, A - 65535, none⟩) 65535 (cE - (A - 65535))) N Fl fun e w9 => ∃ a9 l9 c9, e = .returned (.tuple #[.slice a9 l9 c9, .int .i64 0]) ∧ WRst w (.slice ap N cp) N (A - 65535) gE cE a6 l6 c6 a9 l9 c9 w9))) :
    Calls Try.prog 4 #[.slice ap N cp, .slice aa A0 ca, .slice af Fl cf] w fun e w' => e = .returned (.bool true) ∧ Nw w w' := by
  obtain ⟨P, hP⟩ : ∃ P : Ending → World → Prop, P = fun e w' => e = .returned (.bool true) ∧ Nw w w' := ⟨_, rfl⟩
  rw [← hP]
  have HP : Hid (P = fun e w' => e = .returned (.bool true) ∧ Nw w w') := hP
  clear hP
  have hz0 : ¬ (4194304 : Int) < (N : Int) := by omega
  have hz2 : (A : Int) - 65535 = ((A - 65535 : Nat) : Int) := by omega
  have hz3 : ((A - 65535 : Nat) : Int) ≤ (A : Int) := by omega
  have hz4 : ¬ cE = A - 65535 := by omega
  have hz5 : A - (A - 65535) = 65535 := by omega
  have hz6 : (0 : Int) ≤ ((A - 65535 : Nat) : Int) := by omega
  have hz7 : (A : Int) ≤ (cE : Int) := by omega
  have hz8 : A - 65535 ≤ A := by omega
  have hz9 : IntKind.i64.wrap ((A : Int) - 65535) = ((A - 65535 : Nat) : Int) := by rw [IntKind.wrap_i64]; omega
  have hz10 : IntKind.i64.wrap ((A - 65535 : Nat) : Int) = ((A - 65535 : Nat) : Int) := by rw [IntKind.wrap_i64]; omega
  subst hA0
  have hz1 : ¬ (A : Int) < 65535 := by have := hA.out; omega
  have hA3 := hA.out
  have hzd : decide ((A : Int) = 65535) = true := by simp; omega
  have hzb : ((A : Int) == 65535) = true := by simp; omega
  clear hA3
  generalize A - 65535 = lo at *
  go_enter Try.func4, Try.ntmps4
  go_wp2_with (first
    | (at_builtin; refine Lib.wpList_append_run _ rfl _ _ 22 22 rfl (.slice (some ⟨w.heap.size, 0, none⟩) 0 0) (.slice aa A ca) (by simp [Act.eval]) (by simp [Act.eval]) _ _ (HAP1.out _) ?_)
    | (at_builtin; refine Lib.wpList_append_run _ rfl _ _ 22 22 rfl (.slice (some ⟨WE.heap.size, 0, none⟩) 0 0) (.slice ap N cp) (by simp [Act.eval]) (by simp [Act.eval]) _ _ (HAP4.out _) ?_)
    | (at_builtin; refine Lib.wpList_append_run _ rfl _ _ 22 22 rfl (.slice (some ⟨W4.heap.size, 0, none⟩) 0 0) (.slice (some ⟨gE, 0, none⟩) A cE) (by simp [Act.eval]) (by simp [Act.eval]) _ _ (HAP5.out _) ?_)
    | (go_at_call 6; with_reducible refine (HC6.out).mono ?_; rintro e w6 ⟨a6, l6, c6, rfl, S1, S2, S3⟩))
  obtain ⟨aA, cA, X1, HA1, aB, cB, X2, HB1, aC, cC, X3, HC1, HE1⟩ := S1.out
  obtain ⟨bA, dA, Y1, HA2, bB, dB, Y2, HB2, bC, dC, Y3, HC2, HE2⟩ := S2.out
  obtain ⟨eA, fA, Z1, HA3, eB, fB, Z2, HB3, eC, fC, Z3, HC3, HE3⟩ := S3.out
  clear S1 S2 S3
  go_region_held3 (fun w' => True) (trivial)
    (first
      | (refine step_append_w rfl _ _ rfl (.slice (some ⟨w6.heap.size, 0, none⟩) 0 0) (.slice ap N cp) ?_ ?_ _ _ (HA1.out) ?_; (solve | simp [Act.eval]); (solve | simp [Act.eval]))
      | (refine step_append_w rfl _ _ rfl (.slice (some ⟨X1.heap.size, 0, none⟩) 0 0) (.slice af Fl cf) ?_ ?_ _ _ (HB1.out) ?_; (solve | simp [Act.eval]); (solve | simp [Act.eval]))
      | (refine step_append_w rfl _ _ rfl (.slice aB Fl cB) (.slice (some ⟨gE, lo, none⟩) 65535 (cE - lo)) ?_ ?_ _ _ (HC1.out) ?_; (solve | simp [Act.eval]); (solve | simp [Act.eval]))
      | (refine step_append_w rfl _ _ rfl (.slice (some ⟨w6.heap.size, 0, none⟩) 0 0) (.slice ap N cp) ?_ ?_ _ _ (HA2.out) ?_; (solve | simp [Act.eval]); (solve | simp [Act.eval]))
      | (refine step_append_w rfl _ _ rfl (.slice (some ⟨w6.heap.size + 1, 0, none⟩) 0 0) (.slice af Fl cf) ?_ ?_ _ _ (HB2.out) ?_; (solve | simp [Act.eval]); (solve | simp [Act.eval]))
      | (refine step_append_w rfl _ _ rfl (.slice bB Fl dB) (.slice (some ⟨gE, lo, none⟩) 65535 (cE - lo)) ?_ ?_ _ _ (HC2.out) ?_; (solve | simp [Act.eval]); (solve | simp [Act.eval]))
      | (refine step_append_w rfl _ _ rfl (.slice (some ⟨w6.heap.size + 1, 0, none⟩) 0 0) (.slice ap N cp) ?_ ?_ _ _ (HA3.out) ?_; (solve | simp [Act.eval]); (solve | simp [Act.eval]))
      | (refine step_append_w rfl _ _ rfl (.slice (some ⟨w6.heap.size, 0, none⟩) 0 0) (.slice af Fl cf) ?_ ?_ _ _ (HB3.out) ?_; (solve | simp [Act.eval]); (solve | simp [Act.eval]))
      | (refine step_append_w rfl _ _ rfl (.slice eB Fl fB) (.slice (some ⟨gE, lo, none⟩) 65535 (cE - lo)) ?_ ?_ _ _ (HC3.out) ?_; (solve | simp [Act.eval]); (solve | simp [Act.eval]))
      | (go_at_call 6; with_reducible refine (HE1.out).mono ?_; rintro e w9 ⟨a9, l9, c9, rfl, SS, SD⟩)
      | (go_at_call 6; with_reducible refine (HE2.out).mono ?_; rintro e w9 ⟨a9, l9, c9, rfl, SS, SD⟩)
      | (go_at_call 6; with_reducible refine (HE3.out).mono ?_; rintro e w9 ⟨a9, l9, c9, rfl, SS, SD⟩))
  all_goals go_wp2_with (first
    | (go_at_call 7; with_reducible refine (SS.out _ (by first | assumption | exact Fr.refl _ _)).mono ?_; rintro e v1 ⟨rfl, n1⟩; obtain ⟨a10, c10, W10, HAP10, HC11⟩ := SD.out v1 n1)
    | (at_builtin; refine Lib.wpList_append_run _ rfl _ _ 22 22 rfl (.slice (some ⟨v1.heap.size, 0, none⟩) 0 0) (.slice (some ⟨gE, lo, none⟩) 65535 (cE - lo)) (by simp [Act.eval]) (by simp [Act.eval]) _ _ (HAP10.out _) ?_)
    | (go_at_call 5; with_reducible refine (HC11.out).mono ?_; rintro e w11 ⟨a11, c11, z11, rfl, HC12⟩)
    | (go_at_call 7; with_reducible refine (HC12.out).mono ?_; rintro e w12 ⟨rfl, HN⟩))
  all_goals (rw [HP.out]; exact ⟨rfl, HN⟩)
set_option maxHeartbeats 40000000 in
set_option maxRecDepth 100000 in
theorem walk_short (w WE : World) (ap aa af : Option Addr) (N cp A0 ca A Fl cf : Nat) (hN : N ≤ 4194304) (hA0 : A0 < 65535) (hA : Hid (A = 65535)) (hA1 : 65535 ≤ A) (hA2 : A ≤ 140737488351232) (gE cE : Nat) (hE : A ≤ cE) (hE2 : cE < 9223372036854775808) (a4 a5 : Option Addr) (c4 c5 : Nat) (W4 W5 : World)
    (a1 : Option Addr) (c1 : Nat) (W1 W2 : World)
    (HAP1 : Hid (∀ ty, (Builtin.append_ #[22, 22] ty #[.slice (some ⟨w.heap.size, 0, none⟩) 0 0, .slice aa A0 ca]).run Try.prog (w.alloc (.cells #[] 5)) = .ok (.slice a1 A0 c1) W1))
    (hmk : (Instr.makeSlice 22 (.int .i64 (65535 - A0 : Nat)) (.int .i64 (65535 - A0 : Nat))).run Try.prog W1 = .ok (.slice (some ⟨W1.heap.size, 0, none⟩) (65535 - A0) (65535 - A0)) W2)
    (HAP3 : Hid (∀ ty, (Builtin.append_ #[22, 22] ty #[.slice (some ⟨W1.heap.size, 0, none⟩) (65535 - A0) (65535 - A0), .slice a1 A0 c1]).run Try.prog W2 = .ok (.slice (some ⟨gE, 0, none⟩) A cE) WE))
    (HAP4 : Hid (∀ ty, (Builtin.append_ #[22, 22] ty #[.slice (some ⟨WE.heap.size, 0, none⟩) 0 0, .slice ap N cp]).run Try.prog (WE.alloc (.cells #[] 5)) = .ok (.slice a4 N c4) W4))
    (HAP5 : Hid (∀ ty, (Builtin.append_ #[22, 22] ty #[.slice (some ⟨W4.heap.size, 0, none⟩) 0 0, .slice (some ⟨gE, 0, none⟩) A cE]).run Try.prog (W4.alloc (.cells #[] 5)) = .ok (.slice a5 A c5) W5))
    (HC6 : Hid (Calls Try.prog 6 #[.slice a4 N c4, .slice a5 A c5] W5 fun e w6 => ∃ a6 l6 c6, e = .returned (.tuple #[.slice a6 l6 c6, .int .i64 0]) ∧
      Hid (∃ aA cA X1, Hid (∀ ty, (Builtin.append_ #[22, 22] ty #[.slice (some ⟨w6.heap.size, 0, none⟩) 0 0, .slice ap N cp]).run Try.prog (w6.drew.alloc (.cells #[] 5)) = .ok (.slice aA N cA) X1) ∧ ∃ aB cB X2, Hid (∀ ty, (Builtin.append_ #[22, 22] ty #[.slice (some ⟨X1.heap.size, 0, none⟩) 0 0, .slice af Fl cf]).run Try.prog (X1.alloc (.cells #[] 5)) = .ok (.slice aB Fl cB) X2) ∧ ∃ aC cC X3, Hid (∀ ty, (Builtin.append_ #[22, 22] ty #[.slice aB Fl cB, .slice (some ⟨gE, A - 65535, none⟩) 65535 (cE - (A - 65535))]).run Try.prog X2 = .ok (.slice aC (Fl + 65535) cC) X3) ∧ Hid (Calls Try.prog 6 #[.slice aA N cA, .slice aC (Fl + 65535) cC] X3 fun e w9 => ∃ a9 l9 c9, e = .returned (.tuple #[.slice a9 l9 c9, .int .i64 0]) ∧ WRst w (.slice ap N cp) N (A - 65535) gE cE a6 l6 c6 a9 l9 c9 w9)) ∧
      Hid (WTwo ((w6.drew.alloc (.cells #[] 5)).alloc (.cells #[] 5)) w6.heap.size (w6.heap.size + 1) (.slice ap N cp) (.slice af Fl cf) (.slice (some ⟨gE, A - 65535, none⟩) 65535 (cE - (A - 65535))) N Fl fun e w9 => ∃ a9 l9 c9, e = .returned (.tuple #[.slice a9 l9 c9, .int .i64 0]) ∧ WRst w (.slice ap N cp) N (A - 65535) gE cE a6 l6 c6 a9 l9 c9 w9) ∧
      Hid (WTwo ((w6.drew.alloc (.cells #[] 5)).alloc (.cells #[] 5)) (w6.heap.size + 1) w6.heap.size (.slice ap N cp) (.slice af Fl cf) (.slice (some ⟨gE, A - 65535, none⟩) 65535 (cE - (A - 65535))) N Fl fun e w9 => ∃ a9 l9 c9, e = .returned (.tuple #[.slice a9 l9 c9, .int .i64 0]) ∧ WRst w (.slice ap N cp) N (A - 65535) gE cE a6 l6 c6 a9 l9 c9 w9))) :
    Calls Try.prog 4 #[.slice ap N cp, .slice aa A0 ca, .slice af Fl cf] w fun e w' => e = .returned (.bool true) ∧ Nw w w' := by
  obtain ⟨P, hP⟩ : ∃ P : Ending → World → Prop, P = fun e w' => e = .returned (.bool true) ∧ Nw w w' := ⟨_, rfl⟩
  rw [← hP]
  have HP : Hid (P = fun e w' => e = .returned (.bool true) ∧ Nw w w') := hP
  clear hP
  have hz0 : ¬ (4194304 : Int) < (N : Int) := by omega
  have hz2 : (A : Int) - 65535 = ((A - 65535 : Nat) : Int) := by omega
  have hz3 : ((A - 65535 : Nat) : Int) ≤ (A : Int) := by omega
  have hz4 : ¬ cE = A - 65535 := by omega
  have hz5 : A - (A - 65535) = 65535 := by omega
  have hz6 : (0 : Int) ≤ ((A - 65535 : Nat) : Int) := by omega
  have hz7 : (A : Int) ≤ (cE : Int) := by omega
  have hz8 : A - 65535 ≤ A := by omega
  have hz9 : IntKind.i64.wrap ((A : Int) - 65535) = ((A - 65535 : Nat) : Int) := by rw [IntKind.wrap_i64]; omega
  have hz10 : IntKind.i64.wrap ((A - 65535 : Nat) : Int) = ((A - 65535 : Nat) : Int) := by rw [IntKind.wrap_i64]; omega
  have hz1 : (A0 : Int) < 65535 := by omega
  have hzm : (65535 : Int) - (A0 : Int) = ((65535 - A0 : Nat) : Int) := by omega
  have hzml : 65535 - A0 ≤ 65535 := by omega
  have hzmw : IntKind.i64.wrap ((65535 : Int) - (A0 : Int)) = ((65535 - A0 : Nat) : Int) := by rw [IntKind.wrap_i64]; omega
  generalize 65535 - A0 = mm at *
  have hA3 := hA.out
  have hzd : decide ((A : Int) = 65535) = true := by simp; omega
  have hzb : ((A : Int) == 65535) = true := by simp; omega
  clear hA3
  generalize A - 65535 = lo at *
  go_enter Try.func4, Try.ntmps4
  go_wp2_with (first
    | (at_builtin; refine Lib.wpList_append_run _ rfl _ _ 22 22 rfl (.slice (some ⟨w.heap.size, 0, none⟩) 0 0) (.slice aa A0 ca) (by simp [Act.eval]) (by simp [Act.eval]) _ _ (HAP1.out _) ?_)
    | (at_builtin; refine Lib.wpList_append_run _ rfl _ _ 22 22 rfl (.slice (some ⟨W1.heap.size, 0, none⟩) mm mm) (.slice a1 A0 c1) (by simp [Act.eval]) (by simp [Act.eval]) _ _ (HAP3.out _) ?_)
    | (at_builtin; refine Lib.wpList_append_run _ rfl _ _ 22 22 rfl (.slice (some ⟨WE.heap.size, 0, none⟩) 0 0) (.slice ap N cp) (by simp [Act.eval]) (by simp [Act.eval]) _ _ (HAP4.out _) ?_)
    | (at_builtin; refine Lib.wpList_append_run _ rfl _ _ 22 22 rfl (.slice (some ⟨W4.heap.size, 0, none⟩) 0 0) (.slice (some ⟨gE, 0, none⟩) A cE) (by simp [Act.eval]) (by simp [Act.eval]) _ _ (HAP5.out _) ?_)
    | (go_at_call 6; with_reducible refine (HC6.out).mono ?_; rintro e w6 ⟨a6, l6, c6, rfl, S1, S2, S3⟩))
  obtain ⟨aA, cA, X1, HA1, aB, cB, X2, HB1, aC, cC, X3, HC1, HE1⟩ := S1.out
  obtain ⟨bA, dA, Y1, HA2, bB, dB, Y2, HB2, bC, dC, Y3, HC2, HE2⟩ := S2.out
  obtain ⟨eA, fA, Z1, HA3, eB, fB, Z2, HB3, eC, fC, Z3, HC3, HE3⟩ := S3.out
  clear S1 S2 S3
  go_region_held3 (fun w' => True) (trivial)
    (first
      | (refine step_append_w rfl _ _ rfl (.slice (some ⟨w6.heap.size, 0, none⟩) 0 0) (.slice ap N cp) ?_ ?_ _ _ (HA1.out) ?_; (solve | simp [Act.eval]); (solve | simp [Act.eval]))
      | (refine step_append_w rfl _ _ rfl (.slice (some ⟨X1.heap.size, 0, none⟩) 0 0) (.slice af Fl cf) ?_ ?_ _ _ (HB1.out) ?_; (solve | simp [Act.eval]); (solve | simp [Act.eval]))
      | (refine step_append_w rfl _ _ rfl (.slice aB Fl cB) (.slice (some ⟨gE, lo, none⟩) 65535 (cE - lo)) ?_ ?_ _ _ (HC1.out) ?_; (solve | simp [Act.eval]); (solve | simp [Act.eval]))
      | (refine step_append_w rfl _ _ rfl (.slice (some ⟨w6.heap.size, 0, none⟩) 0 0) (.slice ap N cp) ?_ ?_ _ _ (HA2.out) ?_; (solve | simp [Act.eval]); (solve | simp [Act.eval]))
      | (refine step_append_w rfl _ _ rfl (.slice (some ⟨w6.heap.size + 1, 0, none⟩) 0 0) (.slice af Fl cf) ?_ ?_ _ _ (HB2.out) ?_; (solve | simp [Act.eval]); (solve | simp [Act.eval]))
      | (refine step_append_w rfl _ _ rfl (.slice bB Fl dB) (.slice (some ⟨gE, lo, none⟩) 65535 (cE - lo)) ?_ ?_ _ _ (HC2.out) ?_; (solve | simp [Act.eval]); (solve | simp [Act.eval]))
      | (refine step_append_w rfl _ _ rfl (.slice (some ⟨w6.heap.size + 1, 0, none⟩) 0 0) (.slice ap N cp) ?_ ?_ _ _ (HA3.out) ?_; (solve | simp [Act.eval]); (solve | simp [Act.eval]))
      | (refine step_append_w rfl _ _ rfl (.slice (some ⟨w6.heap.size, 0, none⟩) 0 0) (.slice af Fl cf) ?_ ?_ _ _ (HB3.out) ?_; (solve | simp [Act.eval]); (solve | simp [Act.eval]))
      | (refine step_append_w rfl _ _ rfl (.slice eB Fl fB) (.slice (some ⟨gE, lo, none⟩) 65535 (cE - lo)) ?_ ?_ _ _ (HC3.out) ?_; (solve | simp [Act.eval]); (solve | simp [Act.eval]))
      | (go_at_call 6; with_reducible refine (HE1.out).mono ?_; rintro e w9 ⟨a9, l9, c9, rfl, SS, SD⟩)
      | (go_at_call 6; with_reducible refine (HE2.out).mono ?_; rintro e w9 ⟨a9, l9, c9, rfl, SS, SD⟩)
      | (go_at_call 6; with_reducible refine (HE3.out).mono ?_; rintro e w9 ⟨a9, l9, c9, rfl, SS, SD⟩))
  all_goals go_wp2_with (first
    | (go_at_call 7; with_reducible refine (SS.out _ (by first | assumption | exact Fr.refl _ _)).mono ?_; rintro e v1 ⟨rfl, n1⟩; obtain ⟨a10, c10, W10, HAP10, HC11⟩ := SD.out v1 n1)
    | (at_builtin; refine Lib.wpList_append_run _ rfl _ _ 22 22 rfl (.slice (some ⟨v1.heap.size, 0, none⟩) 0 0) (.slice (some ⟨gE, lo, none⟩) 65535 (cE - lo)) (by simp [Act.eval]) (by simp [Act.eval]) _ _ (HAP10.out _) ?_)
    | (go_at_call 5; with_reducible refine (HC11.out).mono ?_; rintro e w11 ⟨a11, c11, z11, rfl, HC12⟩)
    | (go_at_call 7; with_reducible refine (HC12.out).mono ?_; rintro e w12 ⟨rfl, HN⟩))
  all_goals (rw [HP.out]; exact ⟨rfl, HN⟩)
end Go.Proofs.Ytpnacppmdlnjlab

import Derived.Test.YtenkchhlaphocabDoorNkC
import Derived.Test.YtenkchhlaphocabDoorNkF
namespace Go.Proofs.YtenkchhlaphocabDoor
open Go.RowKit
set_option linter.unusedVariables false
/-! ### PaxBehind -/
theorem wpList_append_g {P : Program} (w : World) {ops : Array Oper} {rest : List Oper} {o : Oper} {a : Act} {Q : Exit → Act → World → Prop} (hgd : Region.wanted o (yielded ops a.tmps) = true) (s x : Operand) (t tn : TypeId)
    (ho : o.op = .call { callee := .builtin .append, args := #[s, x], argTypes := #[t, tn] }) (vs vx : Value) (hs : a.eval s = vs) (hx : a.eval x = vx)
    (v' : Value) (w' : World) (hr : (Builtin.append_ #[t, tn] o.type #[vs, vx]).run P w = .ok v' w') (h : wpList P ops Q rest (a.put o.dst v') w') : wpList P ops Q (o :: rest) a w :=
  wpList_step fun K hK => by rw [if_pos hgd]; exact Lib.wp_append_run w s x t tn ho vs vx hs hx v' w' hr (hK _ _ h)
theorem copyBB (w : World) (v u : Value) (a b : Bs) (ha : Sl (fun _ => False) v a w) (hb : Sl (fun _ => False) u b w) (hn : a.length + b.length ≤ 1000000000) : ∃ v1 W1 v2 W2, Hid (∀ ty, (Builtin.append_ #[22, 22] ty #[.slice (some ⟨w.heap.size, 0, none⟩) 0 0, v]).run Tryd.prog (w.alloc (.cells #[] 5)) = .ok v1 W1) ∧ Hid (∀ ty, (Builtin.append_ #[22, 22] ty #[v1, u]).run Tryd.prog W1 = .ok v2 W2) ∧ Nw w W2 ∧ Sl (fun _ => False) v2 (a ++ b) W2 := by
  have hN0 : Nw w (w.alloc (.cells #[] 5)) := (Fr.refl _ _).alloc _
  obtain ⟨v1, g1, W1, a1, o1, f1, d1⟩ := app_any _ _ _ [] (Ow.empty w) v a (ha.nw hN0) (by simp; omega)
  have hs0 : (w.alloc (.cells #[] 5)).heap.size = w.heap.size + 1 := by simp
  have hN1 : Nw w W1 := hN0.then f1 (fun i hi => .inr (by omega))
  have hg1 : w.heap.size ≤ g1 := by rcases d1 with e | e <;> omega
  obtain ⟨v2, g2, W2, a2, o2, f2, d2⟩ := app_any W1 g1 v1 _ o1 u b (hb.nw hN1) (by simp; omega)
  exact ⟨v1, W1, v2, W2, a1, a2, hN1.then f2 (fun i hi => .inr (by omega)), .inr ⟨g2, fun h => h, by rw [List.nil_append] at o2; exact o2.slb⟩⟩
theorem copyPP (w : World) (v u : Value) (a b : List Pr) (ha : SlR RP (fun _ => False) v a w) (hb : SlR RP (fun _ => False) u b w) (hn : a.length + b.length ≤ 100000000) : ∃ v1 W1 v2 W2, Hid (∀ ty, (Builtin.append_ #[24, 24] ty #[.slice (some ⟨w.heap.size, 0, none⟩) 0 0, v]).run Tryd.prog (w.alloc (.cells #[] 33)) = .ok v1 W1) ∧ Hid (∀ ty, (Builtin.append_ #[24, 24] ty #[v1, u]).run Tryd.prog W1 = .ok v2 W2) ∧ Nw w W2 ∧ SlR RP (fun _ => False) v2 (a ++ b) W2 := by
  have hN0 : Nw w (w.alloc (.cells #[] 33)) := (Fr.refl _ _).alloc _
  obtain ⟨v1, g1, W1, a1, o1, f1, d1⟩ := owR_app rpOk _ _ _ [] (OwR.empty (R := RP) w) v a (ha.nw hN0) (by simp only [RP, List.length_nil]; omega) (by simp; omega)
  have hs0 : (w.alloc (.cells #[] RP.T)).heap.size = w.heap.size + 1 := by simp
  have hs1 : (w.alloc (.cells #[] 33)).heap.size = w.heap.size + 1 := by simp
  have hN1 : Nw w W1 := hN0.then f1 (fun i hi => .inr (by omega))
  have hg1 : w.heap.size ≤ g1 := by rcases d1 with e | e <;> omega
  obtain ⟨v2, g2, W2, a2, o2, f2, d2⟩ := owR_app rpOk W1 g1 v1 _ o1 u b (hb.nw hN1) (by simp only [RP, List.nil_append]; omega) (by simp; omega)
  exact ⟨v1, W1, v2, W2, a1, a2, hN1.then f2 (fun i hi => .inr (by omega)), by rw [List.nil_append] at o2; exact (o2.slr rpOk).anyP⟩
theorem prs_len (b : Bs) (l : List Pr) (p e : Nat) (h : prs b 0 [] = (l, p, e)) : l.length ≤ b.length ∧ p ≤ b.length ∧ e ≤ 142 ∧ (e ≠ 0 → l = []) ∧ (e = 0 → p = 0) := by
  have hw := prs_wt b 0 [] (by omega) (by simp [wtP])
  have he := prs_errno b 0 []
  rw [h] at hw he
  have := wt_len l
  simp only at hw he
  exact ⟨by omega, he.2.1, he.1, he.2.2.1, he.2.2.2⟩
set_option maxHeartbeats 16000000 in
set_option maxRecDepth 100000 in
theorem pbehind_walk (w : World) (hE : Env w) (x : Option Addr) (n c : Nat) (a : Bs) (ha : Sl (fun _ => False) (.slice x n c) a w) (hn : n ≤ 1048576) (x2 : Option Addr) (n2 c2 : Nat) (b : Bs) (hb : Sl (fun _ => False) (.slice x2 n2 c2) b w) (hn2 : n2 ≤ 1048576) :
    Calls Tryd.prog 3 #[.slice x n c, .slice x2 n2 c2] w fun e w' => e = .returned (.bool true) ∧ Nw w w' := by
  obtain ⟨P, hP⟩ : ∃ P : Ending → World → Prop, P = fun e w' => e = .returned (.bool true) ∧ Nw w w' := ⟨_, rfl⟩
  rw [← hP]
  have HF : Hid (∀ V, Nw w V → P (.returned (.bool true)) V) := fun V hV => by rw [hP]; exact ⟨rfl, hV⟩
  clear hP
  obtain ⟨han, m1, m2⟩ := sl_len ha
  obtain ⟨hbn, m3, m4⟩ := sl_len hb
  have HLV := tHid (lives_any w hE)
  have HA := tHid ha
  have HB := tHid hb
  obtain ⟨L1, A1, E1, hR1⟩ : ∃ l p e, prs a 0 [] = (l, p, e) := ⟨_, _, _, rfl⟩
  obtain ⟨L2, A2, E2, hR2⟩ : ∃ l p e, prs b 0 [] = (l, p, e) := ⟨_, _, _, rfl⟩
  obtain ⟨L3, A3, E3, hR3⟩ : ∃ l p e, prs (a ++ b) 0 [] = (l, p, e) := ⟨_, _, _, rfl⟩
  obtain ⟨q1, q2, q3, q4, q5⟩ := prs_len a L1 A1 E1 hR1
  obtain ⟨r1, r2, r3, r4, r5⟩ := prs_len b L2 A2 E2 hR2
  obtain ⟨s1, s2, s3, s4, s5⟩ := prs_len (a ++ b) L3 A3 E3 hR3
  rw [List.length_append, han, hbn] at s1 s2
  rw [han] at q1 q2
  rw [hbn] at r1 r2
  have hjoin : E1 = 0 → (L3, A3, E3) = if E2 = 0 then (L1 ++ L2, 0, 0) else ([], n + A2, E2) := fun h0 => by
    have hA1 := q5 h0
    subst h0 hA1
    have h1 := prs_app a b 0 [] L1 (by omega) hR1
    have h2 := prs_shift a b 0 L1 []
    rw [List.append_nil, Nat.add_zero, hR2] at h2
    rw [← hR3, h1, h2, han]
  have HC1 : Hid (∀ V, Nw w V → ∃ v' W, Hid (∀ ty, (Builtin.append_ #[22, 22] ty #[.slice (some ⟨V.heap.size, 0, none⟩) 0 0, .slice x n c]).run Tryd.prog (V.alloc (.cells #[] 5)) = .ok v' W) ∧ Hid (Nw w W ∧ Calls Tryd.prog 5 #[v'] W fun en V => ∃ a c, en = .returned (.tuple #[.slice a L1.length c, .int .i64 (A1 : Nat), .int .i64 (E1 : Nat)]) ∧ Hid (Nw W V ∧ SlR RP (fun k => k < W.heap.size) (.slice a L1.length c) L1 V))) := fun V hV => by
    obtain ⟨v', W, k1, k2, k3⟩ := copyB V _ a (ha.nw hV) (by omega)
    exact ⟨v', W, k1, hV.trans k2, parse_at W v' a k3 (by omega) L1 A1 E1 hR1⟩
  have HC2 : Hid (∀ V, Nw w V → ∃ v' W, Hid (∀ ty, (Builtin.append_ #[22, 22] ty #[.slice (some ⟨V.heap.size, 0, none⟩) 0 0, .slice x2 n2 c2]).run Tryd.prog (V.alloc (.cells #[] 5)) = .ok v' W) ∧ Hid (Nw V W ∧ Calls Tryd.prog 5 #[v'] W fun en V => ∃ a c, en = .returned (.tuple #[.slice a L2.length c, .int .i64 (A2 : Nat), .int .i64 (E2 : Nat)]) ∧ Hid (Nw W V ∧ SlR RP (fun k => k < W.heap.size) (.slice a L2.length c) L2 V))) := fun V hV => by
    obtain ⟨v', W, k1, k2, k3⟩ := copyB V _ b (hb.nw hV) (by omega)
    exact ⟨v', W, k1, k2, parse_at W v' b k3 (by omega) L2 A2 E2 hR2⟩
  have HC3 : Hid (∀ V, Nw w V → ∃ v1 W1 v2 W2, Hid (∀ ty, (Builtin.append_ #[22, 22] ty #[.slice (some ⟨V.heap.size, 0, none⟩) 0 0, .slice x n c]).run Tryd.prog (V.alloc (.cells #[] 5)) = .ok v1 W1) ∧ Hid (∀ ty, (Builtin.append_ #[22, 22] ty #[v1, .slice x2 n2 c2]).run Tryd.prog W1 = .ok v2 W2) ∧ Hid (Nw V W2 ∧ Calls Tryd.prog 5 #[v2] W2 fun en V => ∃ a c, en = .returned (.tuple #[.slice a L3.length c, .int .i64 (A3 : Nat), .int .i64 (E3 : Nat)]) ∧ Hid (Nw W2 V ∧ SlR RP (fun k => k < W2.heap.size) (.slice a L3.length c) L3 V))) := fun V hV => by
    obtain ⟨v1, W1, v2, W2, k1, k2, k3, k4⟩ := copyBB V _ _ a b (ha.nw hV) (hb.nw hV) (by omega)
    exact ⟨v1, W1, v2, W2, k1, k2, k3, parse_at W2 v2 (a ++ b) k4 (by rw [List.length_append]; omega) L3 A3 E3 hR3⟩
  clear ha hb hE hR1 hR2 hR3 han hbn
  go_enter Tryd.func3, Tryd.ntmps3
  go_upto_region 3 with (first | (go_at_call 4; with_reducible refine HLV.out.mono ?_; rintro e w1 ⟨rfl, H1⟩; have H1 := tHid H1))
  obtain ⟨v2, W2, HA2, HX2⟩ := HC1.out w1 H1.out
  go_upto_region 4 with (first
    | (at_builtin; refine Lib.wpList_append_run _ rfl _ _ 22 22 rfl (.slice (some ⟨w1.heap.size, 0, none⟩) 0 0) (.slice x n c) (by first | rfl | simp [Act.eval]) (by first | rfl | simp [Act.eval]) _ _ (HA2.out _) ?_)
    | (go_at_call 5; with_reducible refine HX2.out.2.mono ?_; rintro e w3 ⟨a3, c3, rfl, H3⟩))
  have HN3 := tHid (HX2.out.1.trans H3.out.1)
  obtain ⟨v4, W4, HA4, HX4⟩ := HC2.out w3 HN3.out
  go_upto_region 5 with (first
    | (at_builtin; refine Lib.wpList_append_run _ rfl _ _ 22 22 rfl (.slice (some ⟨w3.heap.size, 0, none⟩) 0 0) (.slice x2 n2 c2) (by first | rfl | simp [Act.eval]) (by first | rfl | simp [Act.eval]) _ _ (HA4.out _) ?_)
    | (go_at_call 5; with_reducible refine HX4.out.2.mono ?_; rintro e w5 ⟨a5, c5, rfl, H5⟩))
  have HN5 := tHid (HN3.out.trans (HX4.out.1.trans H5.out.1))
  obtain ⟨v6, W6, v7, W7, HA6, HA7, HX7⟩ := HC3.out w5 HN5.out
  go_upto_region 6 with (first
    | (at_builtin; refine Lib.wpList_append_run _ rfl _ _ 22 22 rfl (.slice (some ⟨w5.heap.size, 0, none⟩) 0 0) (.slice x n c) (by first | rfl | simp [Act.eval]) (by first | rfl | simp [Act.eval]) _ _ (HA6.out _) ?_)
    | (at_builtin; refine Lib.wpList_append_run _ rfl _ _ 22 22 rfl v6 (.slice x2 n2 c2) (by first | rfl | simp [Act.eval]) (by first | rfl | simp [Act.eval]) _ _ (HA7.out _) ?_)
    | (go_at_call 5; with_reducible refine HX7.out.2.mono ?_; rintro e w8 ⟨a8, c8, rfl, H8⟩))
  have HN8 := tHid (HN5.out.trans (HX7.out.1.trans H8.out.1))
  have HS1 := tHid (H3.out.2.anyP.nw ((HX4.out.1.trans H5.out.1).trans (HX7.out.1.trans H8.out.1)))
  have HS2 := tHid (H5.out.2.anyP.nw (HX7.out.1.trans H8.out.1))
  have HS3 := tHid H8.out.2.anyP
  have HF8 := tHid (HF.out w8 HN8.out)
  have HP := tHid (copyPP w8 _ _ L1 L2 HS1.out HS2.out (by omega))
  clear HC1 HC2 HC3 HA2 HX2 H3 HN3 HA4 HX4 H5 HN5 HA6 HA7 HX7 H8 HLV HA HB
  by_cases h1 : E1 = 0
  · have hA1 := q5 h1
    have hj := hjoin h1
    subst h1 hA1
    clear q4 q5 hjoin
    by_cases h2 : E2 = 0
    · have hA2 := r5 h2
      rw [if_pos h2] at hj
      subst h2 hA2
      have e1 : L3 = L1 ++ L2 := congrArg Prod.fst hj
      have e2 : A3 = 0 := congrArg (fun x => x.2.1) hj
      have e3 : E3 = 0 := congrArg (fun x => x.2.2) hj
      subst e2 e3
      clear hj r4 r5 s4 s5
      obtain ⟨v9, W9, v10, W10, HA9, HA10, hN10, hS10⟩ := HP.out
      have HSM : Hid (Calls Tryd.prog 6 #[.slice a8 L3.length c8, v10] W10 fun e w' => e = .returned (.bool true) ∧ Nw W10 w') := by
        have := same_any W10 _ _ L3 (L1 ++ L2) (HS3.out.nw hN10) hS10
        rw [e1, decide_eq_true rfl] at this
        rw [e1]
        exact this
      have HN10 := tHid (HN8.out.trans hN10)
      clear hN10 hS10 HP HS1 HS2 HS3 e1 HF8 HN8
      generalize L3.length = N3 at *
      generalize L1.length = N1 at *
      generalize L2.length = N2 at *
      go_wp2_with (first
        | (at_builtin; refine wpList_append_g _ rfl _ _ 24 24 rfl (.slice (some ⟨w8.heap.size, 0, none⟩) 0 0) (.slice a3 N1 c3) (by first | rfl | simp [Act.eval]) (by first | rfl | simp [Act.eval]) _ _ (HA9.out _) ?_)
        | (at_builtin; refine wpList_append_g _ rfl _ _ 24 24 rfl v9 (.slice a5 N2 c5) (by first | rfl | simp [Act.eval]) (by first | rfl | simp [Act.eval]) _ _ (HA10.out _) ?_)
        | (go_at_call 6; with_reducible refine HSM.out.mono ?_; rintro e w11 ⟨rfl, H11⟩; have H11 := tHid H11))
      first | exact HF.out _ (HN10.out.trans H11.out) | (go_ret; exact HF.out _ (HN10.out.trans H11.out))
    · have h2i : ¬ ((E2 : Int) = 0) := by omega
      rw [if_neg h2] at hj
      have e1 : L3.length = 0 := congrArg (fun x => x.1.length) hj
      have e2 : (A2 : Int) + (n : Int) = (A3 : Int) := by have : A3 = n + A2 := congrArg (fun x => x.2.1) hj; omega
      have e3 : E3 = E2 := congrArg (fun x => x.2.2) hj
      subst e3
      clear hj r4 r5 s4 s5 HP HS1 HS2 HS3 HN8 HF
      generalize L3.length = N3 at *
      subst e1
      generalize L1.length = N1 at *
      generalize L2.length = N2 at *
      have z1 : (A2 : Int) ≤ 1048576 := by omega
      have z2 : (A3 : Int) ≤ 4194304 := by omega
      go_wp2_with fail
      first | exact HF8.out | (go_ret; exact HF8.out)
  · have h1i : ¬ ((E1 : Int) = 0) := by omega
    have h4 : L1.length = 0 := by rw [q4 h1]; rfl
    clear q4 q5 hjoin r4 r5 s4 s5 HP HS1 HS2 HS3 HN8 HF
    generalize L1.length = N1 at *
    subst h4
    go_wp2_with fail
    first | exact HF8.out | (go_ret; exact HF8.out)
end Go.Proofs.YtenkchhlaphocabDoor

import Derived.Test.YtpnacppmdlnjlabEnA
import Derived.Test.YtpnacppmdlnjlabLzX
namespace Go.Proofs.Ytpnacppmdlnjlab
open Go.RowKit
set_option linter.unusedVariables false
theorem cm_step {X : List By} {f t : Nat} (hf : f < X.length) (ht : t < X.length) : cm (X.drop f) (X.drop t) = if X[f] = X[t] then cm (X.drop (f + 1)) (X.drop (t + 1)) + 1 else 0 := by
  rw [List.drop_eq_getElem_cons hf, List.drop_eq_getElem_cons ht, cm]
set_option maxHeartbeats 8000000 in
set_option maxRecDepth 100000 in
theorem alike_any (w : World) (a : Option Addr) (c : Nat) (X : List By) (hIn : In a c X w) (f t : Nat) (hf : f ≤ t) (hX : X.length ≤ 100000000) (ht : t ≤ X.length) :
    Calls Try.prog 17 #[.slice a X.length c, .int .i64 f, .int .i64 t] w fun e w' => e = .returned (.int .i64 (cm (X.drop f) (X.drop t) : Nat)) ∧ Nw w w' := by
  obtain ⟨P, hP⟩ : ∃ P : Ending → World → Prop, P = fun e w' => e = .returned (.int .i64 (cm (X.drop f) (X.drop t) : Nat)) ∧ Nw w w' := ⟨_, rfl⟩
  rw [← hP]
  have HP : Hid (P = fun e w' => e = .returned (.int .i64 (cm (X.drop f) (X.drop t) : Nat)) ∧ Nw w w') := hP
  clear hP
  have hc1 := hIn.1
  have hc2 := hIn.2.1
  have HIn : Hid (In a c X w) := hIn
  clear hIn
  generalize hL : X.length = L at *
  have hL' : Hid (X.length = L) := hL
  clear hL
  go_enter Try.func17, Try.ntmps17
  go_wp2
  go_loopg [7] (L + 1) (fun kx i wr => ∃ (I : Nat), t + I ≤ L ∧ L + 1 - I ≤ kx ∧ i = .int .i64 I ∧ Hid (Nw w wr ∧ cm (X.drop f) (X.drop t) = I + cm (X.drop (f + I)) (X.drop (t + I))))
  case atStart => exact ⟨0, by omega, by omega, rfl, Fr.refl _ _, by simp⟩
  case round =>
    obtain ⟨I, hI, hkx, rfl, HI⟩ := hrel
    have hN := HI.out.1
    have hz1 : (f : Int) + (I : Int) = ((f + I : Nat) : Int) := by omega
    have hz2 : (t : Int) + (I : Int) = ((t + I : Nat) : Int) := by omega
    by_cases hlt : t + I < L
    · obtain ⟨g, o, rfl, x1⟩ := (HIn.out.nw hN).at (f + I) (by rw [hL'.out]; omega)
      obtain ⟨g', o', e', x2⟩ := (HIn.out.nw hN).at (t + I) (by rw [hL'.out]; omega)
      injection e' with e'
      injection e' with e1 e2
      subst e1 e2
      have hst := cm_step (X := X) (f := f + I) (t := t + I) (by rw [hL'.out]; omega) (by rw [hL'.out]; omega)
      have hz3 : ((t + I : Nat) : Int) < (L : Int) := by omega
      have hz4 : ((f + I : Nat) : Int) < (L : Int) := by omega
      have hd0 : decide (t + I < L) = true := decide_eq_true hlt
      by_cases he : X[f + I]'(by rw [hL'.out]; omega) = X[t + I]'(by rw [hL'.out]; omega)
      · have HN : Hid (∀ V, Nw wr V → Nw w V ∧ cm (X.drop f) (X.drop t) = I + 1 + cm (X.drop (f + (I + 1))) (X.drop (t + (I + 1)))) := fun V hV => ⟨hN.trans hV, by
          rw [HI.out.2, hst, if_pos he]
          rw [show f + I + 1 = f + (I + 1) by omega, show t + I + 1 = t + (I + 1) by omega]; omega⟩
        rw [he] at x1
        clear HI HIn hst HP hN he
        generalize (X[t + I]'(by rw [hL'.out]; omega)).toNat = x at *
        generalize t + I = ti at *
        generalize f + I = fi at *
        go_wp2_with fail
        go_quiet (fail)
        go_wp2_with fail
        go_roundg (L + 1 - (I + 1))
        all_goals (first | omega | exact ⟨I + 1, by omega, by omega, by first | rfl | (congr 1), HN.out _ ((Fr.refl _ _).drewN _)⟩)
      · have HF : Hid (∀ V, Nw wr V → P (.returned (.int .i64 I)) V) := fun V hV => by
          rw [HP.out]
          refine ⟨?_, hN.trans hV⟩
          rw [HI.out.2, hst, if_neg he]; rfl
        have hne : ¬ (X[f + I]'(by rw [hL'.out]; omega)).toNat = (X[t + I]'(by rw [hL'.out]; omega)).toNat := fun h => he (BitVec.eq_of_toNat_eq h)
        clear HI HIn hst HP hN he
        generalize (X[t + I]'(by rw [hL'.out]; omega)).toNat = x at *
        generalize (X[f + I]'(by rw [hL'.out]; omega)).toNat = y at *
        have hze : ¬ (y : Int) = (x : Int) := by omega
        have hzb : ((y : Int) == (x : Int)) = false := by simp; omega
        generalize t + I = ti at *
        generalize f + I = fi at *
        go_wp2_with fail
        go_quiet (fail)
        go_wp2_with fail
        exact HF.out _ ((Fr.refl _ _).drewN _)
    · have HF : Hid (∀ V, Nw wr V → P (.returned (.int .i64 I)) V) := fun V hV => by
        rw [HP.out]
        refine ⟨?_, hN.trans hV⟩
        rw [HI.out.2, List.drop_of_length_le (by rw [hL'.out]; omega : X.length ≤ t + I)]
        have : cm (X.drop (f + I)) [] = 0 := by cases X.drop (f + I) <;> rfl
        rw [this]; rfl
      have hz3 : ¬ ((t + I : Nat) : Int) < (L : Int) := by omega
      have hd0 : decide (t + I < L) = false := decide_eq_false hlt
      clear HI HIn HP hN
      generalize t + I = ti at *
      generalize f + I = fi at *
      go_wp2_with fail
      go_quiet (fail)
      go_wp2_with fail
      exact HF.out _ ((Fr.refl _ _).drewN _)
theorem alkA_step {T : List By} {b f t : Nat} (hf : f + 1 ≤ t) (ht : t < T.length + 1) : alkA T b (f + 1) t = if b < t ∧ T[f]'(by omega) = T[t - 1]'(by omega) then alkA T b f (t - 1) + 1 else 0 := by
  rw [alkA, List.getElem?_eq_getElem (by omega), List.getElem?_eq_getElem (by omega)]
  simp only [Option.some.injEq]
set_option maxHeartbeats 8000000 in
set_option maxRecDepth 100000 in
theorem alikeAhead_any (w : World) (a : Option Addr) (c : Nat) (X : List By) (hIn : In a c X w) (f t b : Nat) (hf : f < t) (hb : b ≤ t) (hX : X.length ≤ 100000000) (ht : t ≤ X.length) :
    Calls Try.prog 16 #[.slice a X.length c, .int .i64 f, .int .i64 t, .int .i64 b] w fun e w' => e = .returned (.int .i64 (alkA X b f t : Nat)) ∧ Nw w w' := by
  obtain ⟨P, hP⟩ : ∃ P : Ending → World → Prop, P = fun e w' => e = .returned (.int .i64 (alkA X b f t : Nat)) ∧ Nw w w' := ⟨_, rfl⟩
  rw [← hP]
  have HP : Hid (P = fun e w' => e = .returned (.int .i64 (alkA X b f t : Nat)) ∧ Nw w w') := hP
  clear hP
  have hc1 := hIn.1
  have hc2 := hIn.2.1
  have HIn : Hid (In a c X w) := hIn
  clear hIn
  generalize hL : X.length = L at *
  have hL' : Hid (X.length = L) := hL
  clear hL
  go_enter Try.func16, Try.ntmps16
  go_wp2
  go_loopg [9] (f + 1) (fun kx i wr => ∃ (I : Nat), I ≤ f ∧ I ≤ t - b ∧ f + 1 - I ≤ kx ∧ i = .int .i64 I ∧ Hid (Nw w wr ∧ alkA X b f t = I + alkA X b (f - I) (t - I)))
  case atStart => exact ⟨0, by omega, by omega, by omega, rfl, Fr.refl _ _, by simp⟩
  case round =>
    obtain ⟨I, hI, hI2, hkx, rfl, HI⟩ := hrel
    have hN := HI.out.1
    have hz1 : (f : Int) - (I : Int) = ((f - I : Nat) : Int) := by omega
    have hz2 : (t : Int) - (I : Int) = ((t - I : Nat) : Int) := by omega
    have HF : Hid (alkA X b (f - I) (t - I) = 0 → ∀ V, Nw wr V → P (.returned (.int .i64 I)) V) := fun h0 V hV => by
      rw [HP.out]
      refine ⟨?_, hN.trans hV⟩
      rw [HI.out.2, h0]; rfl
    by_cases hlt : 0 < f - I
    · obtain ⟨fi, hfi⟩ : ∃ fi, f - I = fi + 1 := ⟨f - I - 1, by omega⟩
      replace hz1 : (f : Int) - (I : Int) = (fi : Int) + 1 := by omega
      have hy1 : (0 : Int) < (fi : Int) + 1 := by omega
      have hy2 : (fi : Int) + 1 - 1 = (fi : Int) := by omega
      rw [hfi] at HF
      by_cases hbt : b < t - I
      · obtain ⟨ti, hti⟩ : ∃ ti, t - I = ti + 1 := ⟨t - I - 1, by omega⟩
        replace hz2 : (t : Int) - (I : Int) = (ti : Int) + 1 := by omega
        have hy3 : (b : Int) < (ti : Int) + 1 := by omega
        have hy4 : (ti : Int) + 1 - 1 = (ti : Int) := by omega
        have hd1 : decide ((b : Int) < (ti : Int) + 1) = true := decide_eq_true hy3
        rw [hti] at HF
        obtain ⟨g, o, rfl, x1⟩ := (HIn.out.nw hN).at fi (by rw [hL'.out]; omega)
        obtain ⟨g', o', e', x2⟩ := (HIn.out.nw hN).at ti (by rw [hL'.out]; omega)
        injection e' with e'
        injection e' with e1 e2
        subst e1 e2
        have hst := alkA_step (T := X) (b := b) (f := fi) (t := ti + 1) (by omega) (by rw [hL'.out]; omega)
        have hz3 : (fi : Int) < (L : Int) := by omega
        have hz4 : (ti : Int) < (L : Int) := by omega
        have hfl : fi ≤ 100000000 := by omega
        have htl : ti ≤ 100000000 := by omega
        simp only [Nat.add_sub_cancel] at hst
        by_cases he : X[fi]'(by rw [hL'.out]; omega) = X[ti]'(by rw [hL'.out]; omega)
        · have HN : Hid (∀ V, Nw wr V → Nw w V ∧ alkA X b f t = I + 1 + alkA X b (f - (I + 1)) (t - (I + 1))) := fun V hV => ⟨hN.trans hV, by
            rw [HI.out.2, hfi, hti, hst, if_pos ⟨by omega, he⟩]
            rw [show f - (I + 1) = fi by omega, show t - (I + 1) = ti by omega]; omega⟩
          rw [he] at x1
          clear HI HIn hst HP hN he HF
          generalize (X[ti]'(by rw [hL'.out]; omega)).toNat = x at *
          go_wp2_with fail
          go_quiet (fail)
          go_wp2_with fail
          go_roundg (f + 1 - (I + 1))
          all_goals (first | omega | exact ⟨I + 1, by omega, by omega, by omega, by first | rfl | (congr 1), HN.out _ ((Fr.refl _ _).drewN _)⟩)
        · have HF' : Hid (∀ V, Nw wr V → P (.returned (.int .i64 I)) V) := HF.out (by rw [hst, if_neg (fun h => he h.2)])
          have hne : ¬ (X[fi]'(by rw [hL'.out]; omega)).toNat = (X[ti]'(by rw [hL'.out]; omega)).toNat := fun h => he (BitVec.eq_of_toNat_eq h)
          clear HI HIn hst HP hN he HF
          generalize (X[ti]'(by rw [hL'.out]; omega)).toNat = x at *
          generalize (X[fi]'(by rw [hL'.out]; omega)).toNat = y at *
          have hze : ¬ (y : Int) = (x : Int) := by omega
          have hzb : ((y : Int) == (x : Int)) = false := by simp; omega
          go_wp2_with fail
          go_quiet (fail)
          go_wp2_with fail
          exact HF'.out _ ((Fr.refl _ _).drewN _)
      · have HF' : Hid (∀ V, Nw wr V → P (.returned (.int .i64 I)) V) := HF.out (by rw [alkA, if_neg (fun h => hbt h.1)])
        have hz3 : ¬ (b : Int) < ((t - I : Nat) : Int) := by omega
        have hd1 : decide ((b : Int) < ((t - I : Nat) : Int)) = false := decide_eq_false hz3
        have hd2 : decide (b < t - I) = false := decide_eq_false hbt
        have htl : t - I ≤ 100000000 := by omega
        clear HI HIn HP hN HF
        generalize t - I = ti at *
        go_wp2_with fail
        go_quiet (fail)
        go_wp2_with fail
        exact HF'.out _ ((Fr.refl _ _).drewN _)
    · have h0 : f - I = 0 := by omega
      have HF' : Hid (∀ V, Nw wr V → P (.returned (.int .i64 I)) V) := HF.out (by rw [h0, alkA])
      replace hz1 : (f : Int) - (I : Int) = 0 := by omega
      clear HI HIn HP hN HF
      go_wp2_with fail
      go_quiet (fail)
      go_wp2_with fail
      exact HF'.out _ ((Fr.refl _ _).drewN _)
end Go.Proofs.Ytpnacppmdlnjlab

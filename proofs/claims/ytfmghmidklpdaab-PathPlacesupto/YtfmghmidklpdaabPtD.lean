import Derived.Test.YtfmghmidklpdaabPtC
namespace Go.Proofs.Ytfmghmidklpdaab
open Go.RowKit
set_option linter.unusedVariables false
/-- Behind alike beginnings. -/
theorem cmL_drop (l m : List Tx) (k : Nat) (hk : k ≤ l.length) (hk2 : k ≤ m.length) (he : ∀ j, j < k → l[j]? = m[j]?) : cmL l m = cmL (l.drop k) (m.drop k) := by
  induction k generalizing l m with
  | zero => rfl
  | succ k ih =>
    cases l with
    | nil => simp at hk
    | cons a l =>
      cases m with
      | nil => simp at hk2
      | cons b m =>
        have h0 := he 0 (by omega)
        simp only [List.getElem?_cons_zero, Option.some.injEq] at h0
        subst h0
        rw [cmL, if_pos ((cmT_zero a a).2 rfl), List.drop_succ_cons, List.drop_succ_cons]
        exact ih l m (by simpa using hk) (by simpa using hk2) (fun j hj => by have := he (j + 1) (by omega); simpa using this)
theorem cmL_at (l m : List Tx) (k : Nat) (hk : k < l.length) (hk2 : k < m.length) (he : ∀ j, j < k → l[j]? = m[j]?) (hc : cmT l[k] m[k] ≠ 0) : cmL l m = cmT l[k] m[k] := by
  rw [cmL_drop l m k (by omega) (by omega) he, List.drop_eq_getElem_cons hk, List.drop_eq_getElem_cons hk2, cmL, if_neg hc]
set_option maxHeartbeats 8000000 in
set_option maxRecDepth 100000 in
theorem equalS_any (w : World) (va vb : Value) (l m : List Tx) (hl : SlR RS (fun _ => False) va l w) (hm : SlR RS (fun _ => False) vb m w) :
    Calls Try.prog 13 #[va, vb] w fun e w' => e = .returned (.bool (decide (l = m))) ∧ Nw w w' := by
  obtain ⟨P, hP⟩ : ∃ P : Ending → World → Prop, P = fun e w' => e = .returned (.bool (decide (l = m))) ∧ Nw w w' := ⟨_, rfl⟩
  rw [← hP]
  have HP : Hid (P = fun e w' => e = .returned (.bool (decide (l = m))) ∧ Nw w w') := hP
  clear hP
  obtain ⟨a1, c1, rfl, k1, k2, _⟩ := hl.form
  obtain ⟨a2, c2, rfl, k3, k4, _⟩ := hm.form
  have HI1 : Hid (SlR RS (fun _ => False) (.slice a1 l.length c1) l w) := hl
  have HI2 : Hid (SlR RS (fun _ => False) (.slice a2 m.length c2) m w) := hm
  clear hl hm
  by_cases hne : l.length = m.length
  · have HS : Hid (∀ k, k ≤ l.length → (∀ j, j < k → l[j]? = m[j]?) → k = l.length → l = m) := fun k hk he hd => eqT_upto l m k hne hk he hd
    rw [← hne] at k3 ⊢
    have HNE : Hid (l.length = m.length) := hne
    clear hne
    go_enter Try.func13, Try.ntmps13
    go_wp2
    go_loopg [13] l.length (fun kx i wr => ∃ (I : Nat), I ≤ l.length ∧ l.length - I ≤ kx ∧ i = .int .i64 I ∧ Hid (Nw w wr ∧ ∀ j, j < I → l[j]? = m[j]?))
    case atStart => exact ⟨0, by omega, by omega, rfl, Fr.refl _ _, fun j hj => by omega⟩
    case round =>
      obtain ⟨I, hI, hkx, rfl, HI⟩ := hrel
      obtain ⟨hN, hE⟩ := HI.out
      by_cases hlt : I < l.length
      · have hlt2 : I < m.length := by have := HNE.out; omega
        obtain ⟨g1, o1, rfl, _, hcell1⟩ := rs_at (HI1.out.nw hN) I hlt
        obtain ⟨g2, o2, rfl, _, hcell2⟩ := rs_at (HI2.out.nw hN) I hlt2
        have hbq := mk_eq l[I] m[I]
        by_cases heq : l[I] = m[I]
        · rw [decide_eq_true heq] at hbq
          have HN : Hid (∀ V, Nw wr V → Nw w V ∧ ∀ j, j < I + 1 → l[j]? = m[j]?) := fun V hV => ⟨hN.trans hV, fun j hj => by
            by_cases hj' : j < I
            · exact hE j hj'
            · obtain rfl : j = I := by omega
              rw [List.getElem?_eq_getElem hlt, List.getElem?_eq_getElem hlt2, heq]⟩
          clear HI HP HS hN hE HI1 HI2 heq HNE
          generalize mk l[I] = x at *
          generalize mk m[I] = y at *
          go_wp2_with fail
          go_quiet (fail)
          go_wp2_with fail
          go_roundg (l.length - (I + 1))
          case measure => omega
          case rel => exact ⟨I + 1, by omega, by omega, by first | rfl | (congr 1), HN.out _ ((Fr.refl _ _).drewN _)⟩
        · rw [decide_eq_false heq] at hbq
          have HF : Hid (∀ V, Nw wr V → P (.returned (.bool false)) V) := fun V hV => by
            rw [HP.out]
            refine ⟨?_, hN.trans hV⟩
            rw [decide_eq_false (fun h => heq (by subst h; rfl))]
          clear HI HP HS hN hE HI1 HI2 heq HNE
          generalize mk l[I] = x at *
          generalize mk m[I] = y at *
          go_wp2_with fail
          go_quiet (fail)
          go_wp2_with fail
          exact HF.out _ ((Fr.refl _ _).drewN _)
      · have HF : Hid (P (.returned (.bool true)) wr) := by
          show P _ _
          rw [HP.out]
          exact ⟨by rw [decide_eq_true (HS.out I hI hE (by omega))], hN⟩
        clear HI HP HS hN hE HI1 HI2 HNE
        go_wp2_with fail
        exact HF.out
  · have HF : Hid (P (.returned (.bool false)) w) := by
      show P _ _
      rw [HP.out]
      exact ⟨by rw [decide_eq_false (fun h => hne (by rw [h]))], Fr.refl _ _⟩
    have hne' : ¬ (l.length : Int) = (m.length : Int) := by omega
    clear HP HI1 HI2
    generalize l.length = n1 at *
    generalize m.length = n2 at *
    go_enter Try.func13, Try.ntmps13
    go_wp2_with fail
    exact HF.out
/-- The first n of a list. -/
theorem SlR.pre {X : Nat → Prop} {a : Option Addr} {N c : Nat} {l : List Tx} {w : World} (h : SlR RS X (.slice a N c) l w) (n : Nat) (hn : n ≤ l.length) : SlR RS X (.slice a n c) (l.take n) w := by
  rcases h with ⟨a', e, rfl⟩ | ⟨g, o, c', hg, e, h1, h2, h3⟩
  · cases e
    obtain rfl : n = 0 := by simpa using hn
    exact .inl ⟨_, rfl, by simp⟩
  · injection e with e1 e2 e3
    subst e1 e3
    have hl : (l.take n).length = n := by rw [List.length_take]; omega
    refine .inr ⟨g, o, c, hg, by rw [hl], by omega, h2, fun i x j u hx hu => ?_⟩
    have hi : i < n := by
      have := (List.getElem?_eq_some_iff.1 hx).1
      omega
    rw [List.getElem?_take_of_lt hi] at hx
    exact h3 i x j u hx hu
set_option maxHeartbeats 4000000 in
set_option maxRecDepth 100000 in
theorem punder_any (w : World) (va vb : Value) (l m : List Tx) (hl : SlR RS (fun _ => False) va l w) (hm : SlR RS (fun _ => False) vb m w) :
    Calls Try.prog 6 #[va, vb] w fun e w' => e = .returned (.bool (und l m)) ∧ Nw w w' := by
  obtain ⟨P, hP⟩ : ∃ P : Ending → World → Prop, P = fun e w' => e = .returned (.bool (und l m)) ∧ Nw w w' := ⟨_, rfl⟩
  rw [← hP]
  obtain ⟨a1, c1, rfl, k1, k2, _⟩ := hl.form
  obtain ⟨a2, c2, rfl, k3, k4, _⟩ := hm.form
  by_cases h : m.length < l.length
  · have hu : und l m = decide (l.take m.length = m) := by unfold und; rw [decide_eq_true h, Bool.true_and]
    have HC : Hid (Calls Try.prog 13 #[.slice a1 m.length c1, .slice a2 m.length c2] w fun e w' => e = .returned (.bool (decide (l.take m.length = m))) ∧ Nw w w') := equalS_any w _ _ _ _ (hl.pre m.length (by omega)) hm
    have HF : Hid (∀ V, Nw w V → P (.returned (.bool (decide (l.take m.length = m)))) V) := fun V hV => by rw [hP, hu]; exact ⟨rfl, hV⟩
    clear hP hl hm hu
    have hd : decide (m.length < l.length) = true := decide_eq_true h
    generalize decide (l.take m.length = m) = z at *
    generalize l.length = n1 at *
    generalize m.length = n2 at *
    go_enter Try.func6, Try.ntmps6
    go_wp2_with (first | (go_at_call 13; with_reducible refine HC.out.mono ?_; rintro e w1 ⟨rfl, hN1⟩))
    exact HF.out _ hN1
  · have HF : Hid (P (.returned (.bool false)) w) := by
      show P _ _
      rw [hP]
      unfold und
      rw [decide_eq_false h, Bool.false_and]
      exact ⟨rfl, Fr.refl _ _⟩
    clear hP hl hm
    have hd : decide (m.length < l.length) = false := decide_eq_false h
    generalize l.length = n1 at *
    generalize m.length = n2 at *
    go_enter Try.func6, Try.ntmps6
    go_wp2_with fail
    exact HF.out
end Go.Proofs.Ytfmghmidklpdaab

import Derived.Test.YtoplhkpbicgceaaApA
namespace Go.Proofs.Ytoplhkpbicgceaa
open Go.RowKit
set_option linter.unusedVariables false
set_option maxRecDepth 100000
theorem mk_eqr19 (l m : Tx) : ((mk l).toList == m) = decide (l = m) := by
  rw [mk_toList]
  by_cases h : l = m
  · subst h; simp
  · rw [decide_eq_false h, beq_eq_false_iff_ne]; exact h
theorem mk_get19 (l : Tx) (i : Nat) (hi : i < l.length) (h : i < (mk l).size) : ((mk l)[i]'h) = l[i]'hi := by
  show (mk l).data[i]'_ = _
  simp [mk]
theorem tg_bad {s : Tx} (h : (0 : UInt8) ∈ s) : tgOk s = false := by
  unfold tgOk; simp [h]
theorem tg_good {s : Tx} (h : (0 : UInt8) ∉ s) : tgOk s = (decide (1 ≤ s.length) && decide (s.length ≤ 4096)) := by
  unfold tgOk
  have e : decide (s ≠ []) = decide (1 ≤ s.length) := by cases s <;> simp
  rw [e]
  simp [h]
section
variable {n : Nat}
theorem tg1 (h : (n : Int) < 1) : (decide (1 ≤ n) && decide (n ≤ 4096)) = false := by
  rw [decide_eq_false (show ¬ 1 ≤ n by omega)]; simp
theorem tg2 (h : 4096 < (n : Int)) : (decide (1 ≤ n) && decide (n ≤ 4096)) = false := by
  rw [decide_eq_false (show ¬ n ≤ 4096 by omega)]; simp
theorem tg3 (h1 : 1 ≤ (n : Int)) (h2 : (n : Int) ≤ 4096) : (decide (1 ≤ n) && decide (n ≤ 4096)) = true := by
  rw [decide_eq_true (show 1 ≤ n by omega), decide_eq_true (show n ≤ 4096 by omega)]; simp
theorem tg4 (h1 : 1 ≤ (n : Int)) : (decide (1 ≤ n) && decide (n ≤ 4096)) = decide ((n : Int) ≤ 4096) := by
  by_cases h : n ≤ 4096
  · rw [decide_eq_true (show 1 ≤ n by omega), decide_eq_true h, decide_eq_true (show (n : Int) ≤ 4096 by omega)]; rfl
  · rw [decide_eq_false h, decide_eq_false (show ¬ (n : Int) ≤ 4096 by omega)]; simp
end
set_option maxHeartbeats 4000000 in
theorem rtarget_any (s : Tx) (hb : s.length ≤ 140737488351232) (w : World) :
    Calls Try.prog 12 #[.string (mk s)] w fun e w' => e = .returned (.bool (tgOk s)) ∧ w' = w := by
  obtain ⟨P, hP⟩ : ∃ P : Ending → World → Prop, P = fun e w' => e = .returned (.bool (tgOk s)) ∧ w' = w := ⟨_, rfl⟩
  rw [← hP]
  have HF : Hid (∀ b, tgOk s = b → P (.returned (.bool b)) w) := fun b hv => by rw [hP, hv]; exact ⟨rfl, rfl⟩
  clear hP
  have HSZ : Hid ((mk s).size = s.length) := mk_size s
  have HG : Hid (∀ i (hi : i < s.length) (h : i < (mk s).size), ((mk s)[i]'h) = s[i]'hi) := mk_get19 s
  have hz : (mk s).size ≤ 140737488351232 := by rw [HSZ.out]; exact hb
  clear hb
  generalize hy : mk s = y at *
  clear hy
  go_enter Try.func12, Try.ntmps12
  go_wp2_with fail
  go_loopg [3] y.size (fun kx v wr => ∃ I : Nat, I ≤ y.size ∧ y.size - I ≤ kx ∧ v = .int .i64 I ∧ wr = w ∧ Hid (∀ j (hj : j < s.length), j < I → s[j] ≠ 0))
  case atStart => exact ⟨0, by omega, by omega, rfl, rfl, fun j hj h => by omega⟩
  case round =>
    obtain ⟨I, hI, hkx, rfl, rfl, K⟩ := hrel
    by_cases hlt : I < y.size
    · have hIs : I < s.length := by have := HSZ.out; omega
      have hI2 : (I : Int) < (y.size : Int) := by omega
      have hgx : ∀ h : I < y.size, (y[I]'h).toNat = (s[I]'hIs).toNat := fun h => by rw [HG.out I hIs h]
      have hlt8 : (s[I]'hIs).toNat < 256 := UInt8.toNat_lt _
      have HB : Hid ((s[I]'hIs).toNat = 0 → tgOk s = false) := fun h => tg_bad (by
        have e : (s[I]'hIs) = 0 := UInt8.toNat_inj.1 (by rw [h]; rfl)
        rw [← e]; exact List.getElem_mem hIs)
      have HX : Hid ((s[I]'hIs).toNat ≠ 0 → ∀ j (hj : j < s.length), j < I + 1 → s[j] ≠ 0) := fun h0 j hj hjI => by
        by_cases h2 : j < I
        · exact K.out j hj h2
        · obtain rfl : j = I := by omega
          exact fun e => h0 (by rw [e]; rfl)
      clear HG K HSZ
      generalize (s[I]'hIs).toNat = x at *
      clear hIs
      by_cases hx0 : x = 0
      · have hd : ((x : Int) == 0) = true := by rw [hx0]; rfl
        have HZ := tHid (HF.out false (HB.out hx0))
        clear HF HB HX hx0
        go_wp2_with fail
        exact HZ.out
      have hd : ((x : Int) == 0) = false := by rw [beq_eq_false_iff_ne]; omega
      have HZ := tHid (HX.out hx0)
      clear HF HB HX hx0
      go_wp2_with fail
      go_roundg (y.size - (I + 1))
      case measure => omega
      case rel => exact ⟨I + 1, by omega, by omega, by first | rfl | (congr 1), rfl, HZ⟩
    · have HNM : Hid (tgOk s = (decide (1 ≤ y.size) && decide (y.size ≤ 4096))) := by
        show _ = _
        have hall : ∀ x ∈ s, x ≠ 0 := fun x hx => by
          obtain ⟨j, hj, rfl⟩ := List.getElem_of_mem hx
          exact K.out j hj (by have := HSZ.out; omega)
        rw [tg_good (fun h => hall 0 h rfl), HSZ.out]
      clear HG K HSZ
      generalize tgOk s = nm at *
      go_wp2_with fail
      all_goals refine HF.out _ (HNM.out.trans ?_)
      all_goals first
        | exact tg1 (by assumption)
        | exact tg2 (by assumption)
        | exact tg3 (by assumption) (by assumption)
        | exact tg4 (by assumption)
set_option maxHeartbeats 4000000 in
theorem targetFault_any (w : World) (a : Option Addr) (n c : Nat) (l : Tx) (hn : n ≤ 140737488351232) (hl : l.length ≤ 140737488351232) (p : Ap) :
    Calls Try.prog 19 #[.slice a n c, .string (mk l), .agg p.C] w fun e w' => e = .returned (.int .i64 ((tgF n l p.leav : Nat) : Int)) ∧ Nw w w' := by
  obtain ⟨P, hP⟩ : ∃ P : Ending → World → Prop, P = fun e w' => e = .returned (.int .i64 ((tgF n l p.leav : Nat) : Int)) ∧ Nw w w' := ⟨_, rfl⟩
  rw [← hP]
  have HF : Hid (∀ k : Nat, tgF n l p.leav = k → ∀ z : Int, (k : Int) = z → ∀ V, Nw w V → P (.returned (.int .i64 z)) V) := fun k hk z hz V hV => by rw [hP, hk, hz]; exact ⟨rfl, hV⟩
  clear hP
  have hm0 : (mk ([] : Tx)) = ⟨#[]⟩ := rfl
  have HC := tHid (fun V => cont_0 l V hl)
  have HL := tHid (fun V => pleaves_any V a n c l hn hl)
  have hN1 : Nw w (w.alloc (.cells p.C 29)) := (Fr.refl _ _).alloc _
  unfold Ap.C at *
  by_cases h0 : l = []
  · have e : tgF n l p.leav = 107 := by unfold tgF; rw [if_pos (by rw [h0]; decide)]
    have HZ := tHid (HF.out 107 e 107 rfl _ hN1)
    subst h0
    clear HC HL HF e hl
    rw [hm0]
    go_enter Try.func19, Try.ntmps19
    go_wp2_with fail
    exact HZ.out
  · have hb : ((mk l).toList == []) = false := by rw [mk_eqr19]; exact decide_eq_false h0
    have hsz := mk_size l
    by_cases h1 : l.length ≤ 4096
    · have h1d : decide ((4096 : Int) < (mk l).size) = false := by rw [hsz]; exact decide_eq_false (by omega)
      have HE : Hid (tgF n l p.leav = if (0 : UInt8) ∈ l then 107 else if p.leav = false ∧ lvF n l = true then 190 else 0) := by
        show _ = _
        unfold tgF tgOk
        rw [decide_eq_true h0, decide_eq_true h1]
        by_cases hz : (0 : UInt8) ∈ l <;> simp [hz]
      clear hsz hl h0 h1 hm0
      generalize hB : decide ((0 : UInt8) ∈ l) = B at *
      have HB := tHid hB
      clear hB
      generalize hB2 : lvF n l = B2 at *
      have HB2 := tHid hB2
      clear hB2
      generalize hT : tgF n l p.leav = T at *
      have HT := tHid hT
      clear hT
      generalize mk l = s at *
      cases B with
      | true =>
        have HZ : Hid (T = 107) := by
          show _ = _
          rw [HE.out, if_pos (of_decide_eq_true HB.out)]
        clear HE HL HB HB2 HT
        go_enter Try.func19, Try.ntmps19
        go_wp2_with (first | (go_at_call 25; with_reducible refine (HC.out _).mono ?_; rintro e w1 ⟨rfl, rfl⟩))
        exact HF.out 107 HZ.out 107 rfl _ hN1
      | false =>
        have HE2 : Hid (T = if p.leav = false ∧ B2 = true then 190 else 0) := by
          show _ = _
          rw [HE.out, if_neg (of_decide_eq_false HB.out)]
        clear HE HB HB2 HT
        generalize p.leav = L at *
        cases L with
        | true =>
          have HZ : Hid (T = 0) := by show _ = _; rw [HE2.out, if_neg (by simp)]
          clear HE2 HL
          go_enter Try.func19, Try.ntmps19
          go_wp2_with (first | (go_at_call 25; with_reducible refine (HC.out _).mono ?_; rintro e w1 ⟨rfl, rfl⟩))
          exact HF.out 0 HZ.out 0 rfl _ hN1
        | false =>
          cases B2 with
          | true =>
            have HZ : Hid (T = 190) := by show _ = _; rw [HE2.out, if_pos ⟨rfl, rfl⟩]
            clear HE2
            go_enter Try.func19, Try.ntmps19
            go_wp2_with (first | (go_at_call 25; with_reducible refine (HC.out _).mono ?_; rintro e w1 ⟨rfl, rfl⟩) | (go_at_call 29; with_reducible refine (HL.out _).mono ?_; rintro e w2 ⟨rfl, hN2⟩))
            exact HF.out 190 HZ.out 190 rfl _ (hN1.trans hN2)
          | false =>
            have HZ : Hid (T = 0) := by show _ = _; rw [HE2.out, if_neg (by simp)]
            clear HE2
            go_enter Try.func19, Try.ntmps19
            go_wp2_with (first | (go_at_call 25; with_reducible refine (HC.out _).mono ?_; rintro e w1 ⟨rfl, rfl⟩) | (go_at_call 29; with_reducible refine (HL.out _).mono ?_; rintro e w2 ⟨rfl, hN2⟩))
            exact HF.out 0 HZ.out 0 rfl _ (hN1.trans hN2)
    · have h1d : decide ((4096 : Int) < (mk l).size) = true := by rw [hsz]; exact decide_eq_true (by omega)
      have e : tgF n l p.leav = 107 := by unfold tgF tgOk; rw [decide_eq_false h1]; simp
      have HZ := tHid (HF.out 107 e 107 rfl _ hN1)
      clear HC HL HF e hl hsz h0 h1 hm0
      generalize mk l = s at *
      go_enter Try.func19, Try.ntmps19
      go_wp2_with fail
      exact HZ.out
end Go.Proofs.Ytoplhkpbicgceaa

import Derived.Test.YtincbbnppcpfpaaDoorUba
namespace Go.Proofs.YtincbbnppcpfpaaDoor
open Go.RowKit
set_option linter.unusedVariables false
theorem sumL_app (a b : List Nat) : sumL (a ++ b) = sumL a + sumL b := by
  induction a with
  | nil => simp [sumL]
  | cons x r ih =>
    have e : sumL (x :: r ++ b) = x + sumL (r ++ b) := rfl
    have e2 : sumL (x :: r) = x + sumL r := rfl
    rw [e, ih, e2]; omega
theorem sumL_take (ls : List Nat) (I : Nat) (h : I < ls.length) : sumL (ls.take (I + 1)) = sumL (ls.take I) + ls.getD I 0 := by
  rw [List.take_add_one, List.getElem?_eq_getElem h, sumL_app, List.getD_eq_getElem?_getD, List.getElem?_eq_getElem h]
  simp [sumL]
theorem sumL_le (ls : List Nat) (h : ∀ i, ls.getD i 0 ≤ 15) (I : Nat) (hI : I ≤ ls.length) : sumL (ls.take I) ≤ 15 * I := by
  induction I with
  | zero => simp [sumL]
  | succ I ih =>
    rw [sumL_take ls I (by omega)]
    have := ih (by omega)
    have := h I
    omega
set_option maxHeartbeats 8000000 in
set_option maxRecDepth 100000 in
theorem single_any (w : World) (v : Value) (ls : List Nat) (h : SlR RI (fun _ => False) v (toI ls) w) (h15 : ∀ i, ls.getD i 0 ≤ 15) (hl : ls.length ≤ 320) : Calls Tryd.prog 90 #[v] w fun e w' => e = .returned (.bool (decide (sumL ls = 1))) ∧ w' = w := by
  obtain ⟨P, hP⟩ : ∃ P : Ending → World → Prop, P = fun e w' => e = .returned (.bool (decide (sumL ls = 1))) ∧ w' = w := ⟨_, rfl⟩
  rw [← hP]
  obtain ⟨a, c, rfl, hc, hc2, hca⟩ := h.form
  rw [toI_length] at hc h ⊢
  have HS : Hid (∀ I, I < ls.length → ∃ g o, a = some ⟨g, o, none⟩ ∧ w.cell? ⟨g, o + I, none⟩ = some (.int .i64 (ls.getD I 0 : Nat))) := fun I hI => by
    obtain ⟨g, o, e, _, hcell⟩ := ri_at h I _ (toI_at ls I hI)
    exact ⟨g, o, e, hcell⟩
  have HB : Hid (∀ I, I ≤ ls.length → sumL (ls.take I) ≤ 15 * I) := fun I hI => sumL_le ls h15 I hI
  have HT : Hid (∀ I, I < ls.length → sumL (ls.take (I + 1)) = sumL (ls.take I) + ls.getD I 0) := fun I hI => sumL_take ls I hI
  have HF : Hid (∀ x, x = decide (sumL ls = 1) → P (.returned (.bool x)) w) := fun x hx => by rw [hP, hx]; exact ⟨rfl, rfl⟩
  have HE : Hid (sumL (ls.take ls.length) = sumL ls) := by
    show _ = _
    rw [List.take_length]
  clear hP h hca
  generalize hL : ls.length = L at *
  have HL : Hid (ls.length = L) := hL
  clear hL
  go_enter Tryd.func90, Tryd.ntmps90
  go_wp2
  go_loopg [3, 8] L (fun kx s i wr => ∃ (I S : Nat), I ≤ L ∧ L - I ≤ kx ∧ s = .int .i64 S ∧ i = .int .i64 I ∧ S ≤ 5000 ∧ wr = w ∧ Hid (S = sumL (ls.take I)))
  case atStart => exact ⟨0, 0, by omega, by omega, rfl, rfl, by omega, rfl, (show (0 : Nat) = sumL (ls.take 0) by simp [sumL])⟩
  case round =>
    obtain ⟨I, S, hI, hkx, rfl, rfl, hS, rfl, HI⟩ := hrel
    by_cases hlt : I < L
    · obtain ⟨g, o, rfl, hcell⟩ := HS.out I hlt
      have hz : (I : Int) < (L : Int) := by omega
      have hx15 := h15 I
      have hS2 : S + ls.getD I 0 ≤ 5000 := by
        have h1 := HB.out (I + 1) (by omega)
        have h2 := HT.out I hlt
        have h3 := HI.out
        omega
      have HN : Hid (S + ls.getD I 0 = sumL (ls.take (I + 1))) := by
        show _ = _
        rw [HT.out I hlt, ← HI.out]
      have hsum : (S : Int) + ((ls.getD I 0 : Nat) : Int) = ((S + ls.getD I 0 : Nat) : Int) := by omega
      clear HS HF HE HB HT HI
      generalize ls.getD I 0 = x at *
      generalize S + x = S' at *
      go_wp2_with fail
      go_roundg (L - (I + 1))
      all_goals (first | omega | exact ⟨I + 1, S', by omega, by omega, by first | rfl | (congr 1), by first | rfl | (congr 1), hS2, rfl, HN⟩)
    · obtain rfl : I = L := by omega
      have hz : ¬ (I : Int) < (I : Int) := by omega
      have HF2 : Hid (P (.returned (.bool ((S : Int) == 1))) wr) := HF.out _ (by
        rw [HI.out, HE.out]
        by_cases e : sumL ls = 1
        · simp [e]
        · rw [decide_eq_false e]; simp; omega)
      clear HS HF HE HB HT HI
      go_wp2_with fail
      exact HF2.out
set_option maxHeartbeats 8000000 in
set_option maxRecDepth 100000 in
theorem maxI_any (w : World) (v : Value) (ls : List Nat) (h : SlR RI (fun _ => False) v (toI ls) w) (h15 : ∀ i, ls.getD i 0 ≤ 15) (hl : ls.length ≤ 320) (hl0 : 1 ≤ ls.length) : Calls Tryd.prog 80 #[v] w fun e w' => (∃ M : Nat, e = .returned (.int .i64 M) ∧ M ≤ 15 ∧ Hid (M = 0 ↔ sumL ls = 0)) ∧ w' = w := by
  obtain ⟨P, hP⟩ : ∃ P : Ending → World → Prop, P = fun e w' => (∃ M : Nat, e = .returned (.int .i64 M) ∧ M ≤ 15 ∧ Hid (M = 0 ↔ sumL ls = 0)) ∧ w' = w := ⟨_, rfl⟩
  rw [← hP]
  obtain ⟨a, c, rfl, hc, hc2, hca⟩ := h.form
  rw [toI_length] at hc h ⊢
  have HS : Hid (∀ I, I < ls.length → ∃ g o, a = some ⟨g, o, none⟩ ∧ w.cell? ⟨g, o + I, none⟩ = some (.int .i64 (ls.getD I 0 : Nat))) := fun I hI => by
    obtain ⟨g, o, e, _, hcell⟩ := ri_at h I _ (toI_at ls I hI)
    exact ⟨g, o, e, hcell⟩
  have HT : Hid (∀ I, I < ls.length → sumL (ls.take (I + 1)) = sumL (ls.take I) + ls.getD I 0) := fun I hI => sumL_take ls I hI
  have HF : Hid (∀ M, M ≤ 15 → (M = 0 ↔ sumL (ls.take ls.length) = 0) → P (.returned (.int .i64 (M : Nat))) w) := fun M h1 h2 => by
    rw [hP]
    rw [List.take_length] at h2
    exact ⟨⟨M, rfl, h1, h2⟩, rfl⟩
  obtain ⟨g, o, rfl, hcell0⟩ := HS.out 0 (by omega)
  rw [Nat.add_zero] at hcell0
  have h150 := h15 0
  have HX0 : Hid (ls.getD 0 0 = 0 ↔ sumL (ls.take 1) = 0) := by
    show _ ↔ _
    rw [HT.out 0 (by omega)]
    simp [sumL]
  clear hP h hca
  generalize hL : ls.length = L at *
  have HL : Hid (ls.length = L) := hL
  clear hL
  generalize hx0 : ls.getD 0 0 = x0 at *
  clear hx0
  have hz1 : ¬ (L : Int) < 1 := by omega
  have hz2 : (0 : Int) < (L : Int) := by omega
  go_enter Tryd.func80, Tryd.ntmps80
  go_wp2
  go_loopg [3, 4] L (fun kx s i wr => ∃ (I M : Nat), 1 ≤ I ∧ I ≤ L ∧ L - I ≤ kx ∧ s = .int .i64 M ∧ i = .int .i64 I ∧ M ≤ 15 ∧ wr = w ∧ Hid (M = 0 ↔ sumL (ls.take I) = 0))
  case atStart => exact ⟨1, x0, by omega, by omega, by omega, rfl, rfl, by omega, rfl, HX0⟩
  case round =>
    obtain ⟨I, M, hI1, hI, hkx, rfl, rfl, hM, rfl, HI⟩ := hrel
    clear hcell0 HX0
    by_cases hlt : I < L
    · obtain ⟨g', o', e, hcell⟩ := HS.out I hlt
      injection e with e
      injection e with e1 e2
      subst e1 e2
      have hz : (I : Int) < (L : Int) := by omega
      have hx15 := h15 I
      obtain ⟨M', hM'⟩ : ∃ M', M' = max M (ls.getD I 0) := ⟨_, rfl⟩
      have HN : Hid (M' = 0 ↔ sumL (ls.take (I + 1)) = 0) := by
        show _ ↔ _
        rw [HT.out I hlt, hM']
        have := HI.out
        constructor
        · intro hh
          have := this.1 (by omega)
          omega
        · intro hh
          have := this.2 (by omega)
          omega
      have hmax : max (M : Int) ((ls.getD I 0 : Nat) : Int) = (M' : Int) := by omega
      have hM15 : M' ≤ 15 := by omega
      clear HS HF HT HI hM'
      generalize ls.getD I 0 = x at *
      go_wp2_with fail
      go_roundg (L - (I + 1))
      all_goals (first | omega | exact ⟨I + 1, M', by omega, by omega, by omega, by first | rfl | (congr 1), by first | rfl | (congr 1), hM15, rfl, HN⟩)
    · obtain rfl : I = L := by omega
      have hz : ¬ (I : Int) < (I : Int) := by omega
      have HF2 : Hid (P (.returned (.int .i64 M)) wr) := HF.out M hM HI.out
      clear HS HF HT HI
      go_wp2_with fail
      exact HF2.out
end Go.Proofs.YtincbbnppcpfpaaDoor

namespace Go.Proofs.YtincbbnppcpfpaaDoor
open Go.RowKit
set_option linter.unusedVariables false
theorem isCode_iff (ls : List Nat) : IsCode (toI ls) ↔ Cod ls := by
  constructor
  · rintro ⟨l2, e, h⟩
    rw [toI_inj _ _ e]; exact h
  · intro h; exact ⟨ls, rfl, h⟩
/-- What codeOf answers: a code of its own, or the error. -/
def Cdd (ls : List Nat) (w : World) (e : Ending) (w' : World) : Prop := ∃ cb gw gs ws ss, e = .returned (.pointer (some ⟨cb, 0, none⟩)) ∧ CodeI cb gw gs ls ws ss w' ∧ Nw w w' ∧ w.heap.size ≤ cb ∧ w.heap.size ≤ gw ∧ w.heap.size ≤ gs
set_option maxHeartbeats 16000000 in
set_option maxRecDepth 100000 in
theorem codeOf_any (w : World) (v : Value) (ls : List Nat) (h : SlR RI (fun k => w.heap.size ≤ k) v (toI ls) w) (h15 : ∀ i, ls.getD i 0 ≤ 15) (hl : ls.length ≤ 320) :
    (Good ls → Calls Tryd.prog 79 #[v] w (Cdd ls w)) ∧ (¬ Good ls → Calls Tryd.prog 79 #[v] w fun e w' => e = gv 62 ∧ Nw w w') := by
  have HG : Hid (∀ V, Calls Tryd.prog 64 #[.int .i64 62] V fun e w' => e = gv 62 ∧ w' = V) := fun V => giveUp_any 62 V
  obtain ⟨a, c, rfl, hc, hc2, hca⟩ := h.form
  rw [toI_length] at hc h ⊢
  have HSI : Hid (∀ V, Nw w V → Calls Tryd.prog 90 #[.slice a ls.length c] V fun e w' => e = .returned (.bool (decide (sumL ls = 1))) ∧ w' = V) := fun V hV => single_any V _ ls ((h.nw hV).mono (fun _ h => h.elim)) h15 hl
  by_cases hk : Cod ls
  · have hN := newCode_yes w _ ls h hk
    by_cases hr : room ls = 32768
    · refine ⟨fun _ => ?_, fun hn => absurd ⟨hk, .inl hr⟩ hn⟩
      obtain ⟨P, hP⟩ : ∃ P : Ending → World → Prop, P = Cdd ls w := ⟨_, rfl⟩
      rw [← hP]
      have HN : Hid (Calls Tryd.prog 88 #[.slice a ls.length c] w fun e w1 => ∃ cb, e = .returned (.tuple #[.pointer (some ⟨cb, 0, none⟩), .int .i64 0]) ∧ Hid (Calls Tryd.prog 89 #[.pointer (some ⟨cb, 0, none⟩)] w1 fun e w2 => e = .returned (.bool true) ∧ Hid (P (.returned (.pointer (some ⟨cb, 0, none⟩))) w2))) := hN.mono (fun e w1 ⟨cb, gw, gs, ws, ss, a1, a2, a3, a4, a5, a6⟩ => ⟨cb, a1, (whole_any a2 hk).mono (fun e w2 ⟨b1, b2⟩ => ⟨by rw [b1, decide_eq_true hr], by
        show P _ _
        rw [hP]
        exact ⟨cb, gw, gs, ws, ss, rfl, a2.nw b2, a3.trans b2, a4, a5, a6⟩⟩)⟩)
      clear hP hN h HSI HG hca
      generalize ls.length = L at *
      go_enter Tryd.func79, Tryd.ntmps79
      go_wp2_with (first | (go_at_call 88; (with_reducible refine HN.out.mono ?_); rintro e w1 ⟨cb, rfl, HW⟩) | (go_at_call 89; (with_reducible refine HW.out.mono ?_); rintro e w2 ⟨rfl, HF⟩))
      exact HF.out
    · by_cases hs : sumL ls = 1
      · refine ⟨fun _ => ?_, fun hn => absurd ⟨hk, .inr hs⟩ hn⟩
        obtain ⟨P, hP⟩ : ∃ P : Ending → World → Prop, P = Cdd ls w := ⟨_, rfl⟩
        rw [← hP]
        have HN : Hid (Calls Tryd.prog 88 #[.slice a ls.length c] w fun e w1 => ∃ cb, e = .returned (.tuple #[.pointer (some ⟨cb, 0, none⟩), .int .i64 0]) ∧ Hid (Calls Tryd.prog 89 #[.pointer (some ⟨cb, 0, none⟩)] w1 fun e w2 => e = .returned (.bool false) ∧ Hid (Nw w w2) ∧ Hid (P (.returned (.pointer (some ⟨cb, 0, none⟩))) w2))) := hN.mono (fun e w1 ⟨cb, gw, gs, ws, ss, a1, a2, a3, a4, a5, a6⟩ => ⟨cb, a1, (whole_any a2 hk).mono (fun e w2 ⟨b1, b2⟩ => ⟨by rw [b1, decide_eq_false hr], a3.trans b2, by
          show P _ _
          rw [hP]
          exact ⟨cb, gw, gs, ws, ss, rfl, a2.nw b2, a3.trans b2, a4, a5, a6⟩⟩)⟩)
        have HS2 : Hid (∀ V, Nw w V → Calls Tryd.prog 90 #[.slice a ls.length c] V fun e w' => e = .returned (.bool true) ∧ V = w') := fun V hV => (HSI.out V hV).mono (fun e w' ⟨h1, h2⟩ => ⟨by rw [h1, decide_eq_true hs], h2.symm⟩)
        clear hP hN h HSI HG hca
        generalize ls.length = L at *
        go_enter Tryd.func79, Tryd.ntmps79
        go_wp2_with (first | (go_at_call 88; (with_reducible refine HN.out.mono ?_); rintro e w1 ⟨cb, rfl, HW⟩) | (go_at_call 89; (with_reducible refine HW.out.mono ?_); rintro e w2 ⟨rfl, H2, HF⟩) | (go_at_call 90; (with_reducible refine (HS2.out _ H2.out).mono ?_); rintro e w3 ⟨rfl, rfl⟩))
        exact HF.out
      · refine ⟨fun hg => (by rcases hg.2 with e | e; exact absurd e hr; exact absurd e hs), fun _ => ?_⟩
        obtain ⟨P, hP⟩ : ∃ P : Ending → World → Prop, P = fun e w' => e = gv 62 ∧ Nw w w' := ⟨_, rfl⟩
        rw [← hP]
        have HN : Hid (Calls Tryd.prog 88 #[.slice a ls.length c] w fun e w1 => ∃ cb, e = .returned (.tuple #[.pointer (some ⟨cb, 0, none⟩), .int .i64 0]) ∧ Hid (Calls Tryd.prog 89 #[.pointer (some ⟨cb, 0, none⟩)] w1 fun e w2 => e = .returned (.bool false) ∧ Hid (Nw w w2) ∧ Hid (P (gv 62) w2))) := hN.mono (fun e w1 ⟨cb, gw, gs, ws, ss, a1, a2, a3, a4, a5, a6⟩ => ⟨cb, a1, (whole_any a2 hk).mono (fun e w2 ⟨b1, b2⟩ => ⟨by rw [b1, decide_eq_false hr], a3.trans b2, by
          show P _ _
          rw [hP]
          exact ⟨rfl, a3.trans b2⟩⟩)⟩)
        have HS2 : Hid (∀ V, Nw w V → Calls Tryd.prog 90 #[.slice a ls.length c] V fun e w' => e = .returned (.bool false) ∧ V = w') := fun V hV => (HSI.out V hV).mono (fun e w' ⟨h1, h2⟩ => ⟨by rw [h1, decide_eq_false hs], h2.symm⟩)
        clear hP hN h HSI hca
        generalize ls.length = L at *
        go_enter Tryd.func79, Tryd.ntmps79
        go_wp2_with (first | (go_at_call 88; (with_reducible refine HN.out.mono ?_); rintro e w1 ⟨cb, rfl, HW⟩) | (go_at_call 89; (with_reducible refine HW.out.mono ?_); rintro e w2 ⟨rfl, H2, HF⟩) | (go_at_call 90; (with_reducible refine (HS2.out _ H2.out).mono ?_); rintro e w3 ⟨rfl, rfl⟩) | (go_at_call 64; (with_reducible refine (HG.out _).mono ?_); rintro e w4 ⟨rfl, hw4⟩; replace hw4 := hw4.symm; subst hw4))
        exact ⟨rfl, HF.out⟩
  · refine ⟨fun hg => absurd hg.1 hk, fun _ => ?_⟩
    obtain ⟨P, hP⟩ : ∃ P : Ending → World → Prop, P = fun e w' => e = gv 62 ∧ Nw w w' := ⟨_, rfl⟩
    rw [← hP]
    have HN : Hid (Calls Tryd.prog 88 #[.slice a ls.length c] w fun e w1 => e = .returned (.tuple #[.pointer none, .int .i64 51]) ∧ Hid (P (gv 62) w1)) := (newCode_no w _ (toI ls) h (by rw [toI_length]; omega) (fun hi => hk ((isCode_iff ls).1 hi))).mono (fun e w1 ⟨a1, a2⟩ => ⟨a1, by
      show P _ _
      rw [hP]
      exact ⟨rfl, a2⟩⟩)
    clear hP h HSI hca
    generalize ls.length = L at *
    go_enter Tryd.func79, Tryd.ntmps79
    go_wp2_with (first | (go_at_call 88; (with_reducible refine HN.out.mono ?_); rintro e w1 ⟨rfl, HF⟩) | (go_at_call 64; (with_reducible refine (HG.out _).mono ?_); rintro e w4 ⟨rfl, hw4⟩; replace hw4 := hw4.symm; subst hw4))
    exact ⟨rfl, HF.out⟩
end Go.Proofs.YtincbbnppcpfpaaDoor

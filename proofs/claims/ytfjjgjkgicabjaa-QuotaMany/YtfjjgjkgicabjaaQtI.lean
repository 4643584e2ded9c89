import Derived.Test.YtfjjgjkgicabjaaQtH
namespace Go.Proofs.Ytfjjgjkgicabjaa
open Go.RowKit Go.MuLone
set_option linter.unusedVariables false
set_option maxHeartbeats 4000000 in
theorem rtake_any (w : World) (b : Nat) (q : Qt) (s : St) (e : En) (h : RfB b q s w) (hI : s.In q) (hq : q.Ok) (he : e.Ok) :
    Calls Try.prog 17 #[.pointer (some ⟨b, 0, none⟩), .agg e.C] w fun r w' => r = .returned (.int .i64 ((tkE q s e : Nat) : Int)) ∧ RfB b q (tkS q s e) w' ∧ Fr (fun k => k = b) w w' := by
  obtain ⟨P, hP⟩ : ∃ P : Ending → World → Prop, P = fun r w' => r = .returned (.int .i64 ((tkE q s e : Nat) : Int)) ∧ RfB b q (tkS q s e) w' ∧ Fr (fun k => k = b) w w' := ⟨_, rfl⟩
  rw [← hP]
  have HB0 : Hid (tkE q s e = 0 → ∀ V, RfB b q ⟨s.b + e.nb, s.n + 1⟩ V → Fr (fun k => k = b) w V → P (.returned (.int .i64 0)) V) := fun h0 V h1 h2 => by
    rw [hP]; refine ⟨by rw [h0]; rfl, ?_, h2⟩
    unfold tkS; rw [if_pos h0]; exact h1
  have HB1 : Hid (∀ (k : Nat) (z : Int), tkE q s e = k → k ≠ 0 → (k : Int) = z → ∀ V, RfB b q s V → Fr (fun k => k = b) w V → P (.returned (.int .i64 z)) V) := fun k z h0 h3 hz V h1 h2 => by
    rw [hP]; refine ⟨by rw [h0, hz], ?_, h2⟩
    unfold tkS; rw [if_neg (by omega)]; exact h1
  clear hP
  have hlt := h.lt
  have HH : Hid (RfB b q s w) := h
  have HS : Hid (Calls Try.prog 30 #[.string (mk e.name)] (w.alloc (.cells e.C 38)).drew fun r w' => ∃ a n c, r = .returned (.tuple #[.slice a n c, .int .i64 ((splE e.name : Nat) : Int)]) ∧ n ≤ c ∧ c < 9223372036854775808 ∧ Hid (Rk w b q s e w') ∧ (splE e.name = 0 → (cps e.name).length = n)) := by
    show Calls _ _ _ _ _
    refine (qsplit_any _ e.name he.nm).mono ?_
    rintro r w' ⟨a, n, c, rfl, hS⟩
    have hN : Nw _ w' := hS.elim (fun _ h => h.2.2)
    obtain ⟨q0, q1, q2⟩ := spA_len hS
    exact ⟨a, n, c, rfl, q1, q2, ((rk_start e h).nw (Fr.refl _ _).drew).nw hN, fun h0 => by rw [← q0]; unfold splF; rw [if_pos h0]⟩
  obtain ⟨c0, c1, c2, c3, c4, fz⟩ := h.cell
  obtain ⟨i1, i2, i3, i4⟩ := hI
  obtain ⟨j1, j2, j3, j4, j5, j6⟩ := hq
  obtain ⟨_, s0, s1⟩ := he
  clear h fz
  have hne : ¬ w.heap.size = b := by omega
  have hne2 : ¬ b = w.heap.size := by omega
  by_cases h1 : q.E ≤ s.n
  · have h2 : tkE q s e = 180 := by unfold tkE; rw [if_pos h1]
    have HX := tHid (HB1.out 180 180 h2 (by decide) rfl)
    have hd : decide (q.E ≤ s.n) = true := decide_eq_true h1
    clear HB0 HB1 HS h2
    unfold En.C at *
    go_enter Try.func17, Try.ntmps17
    go_wp2_with fail
    go_region
    all_goals go_wp2_with fail
    exact HX.out _ (show RfB b q s ((w.alloc _).drew) from rfb_alloc HH.out _) ((Fr.refl _ _).alloc _).drew
  have hd0 : decide (q.E ≤ s.n) = false := decide_eq_false h1
  by_cases h2 : splE e.name = 0
  · have HS2 : Hid (Calls Try.prog 30 #[.string (mk e.name)] (w.alloc (.cells e.C 38)).drew fun r w' => ∃ a c, r = .returned (.tuple #[.slice a (cps e.name).length c, .int .i64 0]) ∧ (cps e.name).length ≤ c ∧ c < 9223372036854775808 ∧ Hid (Rk w b q s e w')) := by
      show Calls _ _ _ _ _
      refine HS.out.mono ?_
      rintro r w' ⟨a, n, c, rfl, k1, k2, k3, k4⟩
      have := k4 h2
      subst this
      exact ⟨a, c, by rw [h2]; rfl, k1, k2, k3⟩
    clear HS
    obtain ⟨m, hm⟩ : ∃ m, m = (cps e.name).length := ⟨_, rfl⟩
    rw [← hm] at HS2
    by_cases h3 : q.D < (m : Int)
    · have HX := tHid (HB1.out 181 181 (by unfold tkE En.why; rw [if_neg h1, if_neg (c := splE e.name ≠ 0) (by omega), ← hm, if_pos h3, if_pos (by decide)]) (by decide) rfl)
      have hd2 : decide (q.D < (m : Int)) = true := decide_eq_true h3
      clear HB0 HB1 hm h2
      unfold En.C at *
      go_enter Try.func17, Try.ntmps17
      go_wp2_with fail
      go_region
      all_goals go_wp2_with (go_at_call 30; with_reducible refine HS2.out.mono ?_; rintro r w1 ⟨a, c, rfl, q1, q2, H1⟩; obtain ⟨x0, x1, y0, y1, y2, y3, y4, y5, y6⟩ := rk_cells H1.out)
      exact HX.out _ H1.out.row H1.out.fr.any
    have hd2 : decide (q.D < (m : Int)) = false := decide_eq_false h3
    have HW : Hid (e.why q = if e.nb < 0 then 1 else 0) := by show _ = _; unfold En.why; rw [if_neg (c := splE e.name ≠ 0) (by omega), ← hm, if_neg h3]
    by_cases hk : e.kind = 2
    · have hn : e.nb = e.size := by unfold En.nb; rw [if_pos hk]
      have hdk : (e.kind == 2) = true := by rw [hk]; rfl
      rw [hn] at HB0 HW
      by_cases h4 : e.size < 0
      · have HX := tHid (HB1.out 1 1 (by unfold tkE; rw [if_neg h1, HW.out, if_pos h4, if_pos (by decide)]) (by decide) rfl)
        have hd4 : decide (e.size < 0) = true := decide_eq_true h4
        clear HB0 HB1 hm h2 HW hn hk
        unfold En.C at *
        go_enter Try.func17, Try.ntmps17
        go_wp2_with fail
        go_region
        all_goals go_wp2_with (go_at_call 30; with_reducible refine HS2.out.mono ?_; rintro r w1 ⟨a, c, rfl, q1, q2, H1⟩; obtain ⟨x0, x1, y0, y1, y2, y3, y4, y5, y6⟩ := rk_cells H1.out)
        exact HX.out _ H1.out.row H1.out.fr.any
      have h6 : 0 ≤ e.size := by omega
      have hd4 : decide (e.size < 0) = false := decide_eq_false h4
      by_cases h5 : q.B - s.b < e.size
      · have HX := tHid (HB1.out 182 182 (by unfold tkE; rw [if_neg h1, HW.out, if_neg h4, if_neg (c := (0 : Nat) ≠ 0) (by decide), hn, if_pos h5]) (by decide) rfl)
        have hd5 : decide (q.B - s.b < e.size) = true := decide_eq_true h5
        clear HB0 HB1 hm h2 HW hn hk
        unfold En.C at *
        go_enter Try.func17, Try.ntmps17
        go_wp2_with fail
        go_region
        all_goals go_wp2_with (go_at_call 30; with_reducible refine HS2.out.mono ?_; rintro r w1 ⟨a, c, rfl, q1, q2, H1⟩; obtain ⟨x0, x1, y0, y1, y2, y3, y4, y5, y6⟩ := rk_cells H1.out)
        go_quiet (fail)
        go_wp2_with fail
        exact HX.out _ H1.out.row (H1.out.fr.any.drewN _)
      have HX := tHid (HB0.out (by unfold tkE; rw [if_neg h1, HW.out, if_neg h4, if_neg (c := (0 : Nat) ≠ 0) (by decide), hn, if_neg h5]))
      have hd5 : decide (q.B - s.b < e.size) = false := decide_eq_false h5
      clear HB0 HB1 hm h2 HW hn hk
      unfold En.C at *
      go_enter Try.func17, Try.ntmps17
      go_wp2_with fail
      go_region
      all_goals go_wp2_with (go_at_call 30; with_reducible refine HS2.out.mono ?_; rintro r w1 ⟨a, c, rfl, q1, q2, H1⟩; obtain ⟨x0, x1, y0, y1, y2, y3, y4, y5, y6⟩ := rk_cells H1.out)
      go_quiet (fail)
      go_wp2_with fail
      go_region
      all_goals go_wp2_with fail
      exact HX.out _ (rf_put (V := w1.drewN nq) H1.out.row _ _) (((H1.out.fr.any.drewN nq).trans (set2_fr _ _ _ _)).drew)
    · have hn : e.nb = 0 := by unfold En.nb; rw [if_neg hk]
      have hdk : (e.kind == 2) = false := by rw [beq_eq_false_iff_ne]; exact hk
      rw [hn, Int.add_zero] at HB0
      rw [hn] at HW
      have HX := tHid (HB0.out (by unfold tkE; rw [if_neg h1, HW.out, if_neg (c := (0 : Int) < 0) (by decide), if_neg (c := (0 : Nat) ≠ 0) (by decide), hn, if_neg (by omega)]))
      clear HB0 HB1 hm h2 HW hn hk
      unfold En.C at *
      go_enter Try.func17, Try.ntmps17
      go_wp2_with fail
      go_region
      all_goals go_wp2_with (go_at_call 30; with_reducible refine HS2.out.mono ?_; rintro r w1 ⟨a, c, rfl, q1, q2, H1⟩; obtain ⟨x0, x1, y0, y1, y2, y3, y4, y5, y6⟩ := rk_cells H1.out)
      go_quiet (fail)
      go_wp2_with fail
      exact HX.out _ (rf_put4 (V := w1.drewN nq) H1.out.row _) ((H1.out.fr.any.drewN nq).trans (set1_fr _ _ _))
  · have HX := tHid (HB1.out (splE e.name) _ (by unfold tkE En.why; rw [if_neg h1, if_pos h2, if_pos h2]) h2 rfl)
    clear HB0 HB1
    obtain ⟨z, hz⟩ : ∃ z, z = splE e.name := ⟨_, rfl⟩
    rw [← hz] at HS HX h2
    clear hz
    have hd2 : ((z : Int) != 0) = true := by simp; omega
    unfold En.C at *
    go_enter Try.func17, Try.ntmps17
    go_wp2_with fail
    go_region
    all_goals go_wp2_with (go_at_call 30; with_reducible refine HS.out.mono ?_; rintro r w1 ⟨a, n, c, rfl, q1, q2, H1, _⟩)
    exact HX.out _ H1.out.row H1.out.fr.any
end Go.Proofs.Ytfjjgjkgicabjaa

import Derived.Test.YtfjjgjkgicabjaaQtF
namespace Go.Proofs.Ytfjjgjkgicabjaa
open Go.RowKit Go.MuLone
set_option linter.unusedVariables false
set_option maxHeartbeats 4000000 in
theorem mback_any (w : World) (b : Nat) (q : Qt) (s : St) (e : En) (h : MtB b q s w) (hI : s.In q) (hq : q.Ok) (he : e.Ok) :
    Calls Try.prog 18 #[.pointer (some ⟨b, 0, none⟩), .agg e.C] w fun r w' => r = .returned (.int .i64 ((bkE s e : Nat) : Int)) ∧ MtB b q (bkS s e) w' ∧ Fr (fun k => k = b) w w' := by
  have HN : Hid (Calls Try.prog 27 #[.agg e.C] ((w.setCell ⟨b, 0, none⟩ (.int .i32 1)).alloc (.cells e.C 38)) fun r w' => r = .returned (.agg #[.int .i64 e.nb, .int .i64 1, .int .i64 0]) ∧ Hid (w.heap.size < w'.heap.size ∧ Tk w b q s w'.heap.size e (w'.alloc (.cells #[.int .i64 e.nb, .int .i64 1, .int .i64 0] 23)))) := by
    show Calls _ _ _ _ _
    refine (need_any _ e).mono ?_
    rintro r w' ⟨rfl, hN⟩
    have hz := hN.size
    simp at hz
    refine ⟨rfl, by omega, ?_, ?_, newHeapQ _ _, (((lock_fr w b _).alloc _).trans hN.any).alloc _⟩
    · exact (Below.heap_alloc _ _ _ (Nat.lt_of_lt_of_le h.lt (by omega))).trans (hN.heap (held_alloc h _))
    · exact (Below.heap_alloc _ _ _ (by omega)).trans (hN.heap (new_alloc _ _ _ _))
  have hlt := h.lt
  have c0 := h.cell.1
  have f0 := h.cell.2.2.2.2.2.2.2 0
  have HB0 : Hid (bkE s e = 0 → s.b - e.nb ≤ 9223372036854775807 ∧ -9223372036854775808 ≤ s.b - e.nb ∧ s.n - 1 ≤ 9223372036854775807 ∧ -9223372036854775808 ≤ s.n - 1 ∧ bkS s e = ⟨s.b - e.nb, s.n - 1⟩) := fun h0 => by
    obtain ⟨k1, k2, k3⟩ := bkE_zero.1 h0
    obtain ⟨i1, i2, i3, i4⟩ := hI
    obtain ⟨j1, j2, j3, j4, j5, j6⟩ := hq
    exact ⟨by omega, by omega, by omega, by omega, by unfold bkS; rw [if_pos h0]⟩
  have HB1 : Hid ((e.nb < 0 ∨ s.b < e.nb ∨ s.n < 1) → bkE s e = 1 ∧ bkS s e = s) := fun hh => by
    have h1 : bkE s e = 1 := by unfold bkE; rw [if_pos (by have := hI.n0; omega)]
    exact ⟨h1, by unfold bkS; rw [if_neg (by omega)]⟩
  have HB2 : Hid (¬ e.nb < 0 → ¬ s.b < e.nb → ¬ s.n < 1 → bkE s e = 0) := fun h1 h2 h3 => bkE_zero.2 ⟨by omega, by omega, by omega⟩
  clear h hI hq he
  obtain ⟨t, ht⟩ : ∃ t, t = bkE s e := ⟨_, rfl⟩
  rw [← ht] at HB0 HB1 HB2 ⊢
  clear ht
  obtain ⟨sT, hsT⟩ : ∃ sT, sT = bkS s e := ⟨_, rfl⟩
  rw [← hsT] at HB0 HB1 ⊢
  clear hsT
  obtain ⟨nb, hnb⟩ : ∃ nb, nb = e.nb := ⟨_, rfl⟩
  have hnb2 : Hid (nb = e.nb) := hnb
  rw [← hnb] at HN HB0 HB1 HB2
  clear hnb
  unfold En.C at *
  go_enter_defers Try.func18, Try.ntmps18
  go_wp2_with (first
    | (go_at_call 25; refine (lock_free Try.muLib ⟨b, 0, none⟩ _ (by go_simp) (by go_simp)).mono ?_; rintro e w' ⟨rfl, rfl⟩)
    | (go_at_call 27; with_reducible refine HN.out.mono ?_; rintro r w1 ⟨rfl, H1⟩))
  obtain ⟨w4, hW2⟩ : ∃ w4, w4 = w1.alloc (.cells #[.int .i64 nb, .int .i64 1, .int .i64 0] 23) := ⟨_, rfl⟩
  obtain ⟨hg, HW2⟩ := H1.out
  rw [← hW2] at HW2 ⊢
  have H4 : Hid (Tk w b q s w1.heap.size e w4) := HW2
  clear HW2 hW2 H1 HN
  generalize w1.heap.size = g at *
  obtain ⟨x1, x2, x3, x4⟩ := H4.out.nums
  obtain ⟨_, y1, y2, y3, _⟩ := tk_cells H4.out
  rw [← hnb2.out] at y1
  have hgb : ¬ g = b := by omega
  have hgb2 : ¬ b = g := by omega
  by_cases h1 : nb < 0
  · have HX := tHid (HB1.out (.inl h1))
    have hd1 : decide (nb < 0) = true := decide_eq_true h1
    clear HB0 HB1 HB2
    go_quiet (fail)
    go_wp2_with fail
    refine leaves_cons (f := 26) (args := #[.pointer (some ⟨b, 0, none⟩)]) (by simp) (by simp [go_sem]) ?_
    have HP : (w4.drewN nq).heap[b]? = some (.cells (mtC q s 1) 65) := H4.out.row
    refine (unlock_deferred Try.muLib ⟨b, 0, none⟩ .returning _ (held_cell HP).1 (held_cell HP).2).mono ?_
    rintro e' u' w'' ⟨rfl, rfl, rfl⟩
    refine ⟨_, results_tmp rfl _ _ _, ?_, ?_, ?_⟩
    · show Ending.returned (.int .i64 1) = _
      rw [HX.out.1]; rfl
    · rw [HX.out.2]; exact freed_row HP
    · exact (H4.out.fr.drewN _).setCell _ _ (.inl rfl)
  by_cases h2 : s.b < nb
  · have HX := tHid (HB1.out (.inr (.inl h2)))
    have hd1 : decide (nb < 0) = false := decide_eq_false h1
    have hd2 : decide (s.b < nb) = true := decide_eq_true h2
    clear HB0 HB1 HB2
    go_quiet (fail)
    go_wp2_with fail
    refine leaves_cons (f := 26) (args := #[.pointer (some ⟨b, 0, none⟩)]) (by simp) (by simp [go_sem]) ?_
    have HP : (w4.drewN nq).heap[b]? = some (.cells (mtC q s 1) 65) := H4.out.row
    refine (unlock_deferred Try.muLib ⟨b, 0, none⟩ .returning _ (held_cell HP).1 (held_cell HP).2).mono ?_
    rintro e' u' w'' ⟨rfl, rfl, rfl⟩
    refine ⟨_, results_tmp rfl _ _ _, ?_, ?_, ?_⟩
    · show Ending.returned (.int .i64 1) = _
      rw [HX.out.1]; rfl
    · rw [HX.out.2]; exact freed_row HP
    · exact (H4.out.fr.drewN _).setCell _ _ (.inl rfl)
  by_cases h3 : s.n < 1
  · have HX := tHid (HB1.out (.inr (.inr h3)))
    have hd1 : decide (nb < 0) = false := decide_eq_false h1
    have hd2 : decide (s.b < nb) = false := decide_eq_false h2
    have hd3 : decide (s.n < 1) = true := decide_eq_true h3
    clear HB0 HB1 HB2
    go_quiet (fail)
    go_wp2_with fail
    refine leaves_cons (f := 26) (args := #[.pointer (some ⟨b, 0, none⟩)]) (by simp) (by simp [go_sem]) ?_
    have HP : (w4.drewN nq).heap[b]? = some (.cells (mtC q s 1) 65) := H4.out.row
    refine (unlock_deferred Try.muLib ⟨b, 0, none⟩ .returning _ (held_cell HP).1 (held_cell HP).2).mono ?_
    rintro e' u' w'' ⟨rfl, rfl, rfl⟩
    refine ⟨_, results_tmp rfl _ _ _, ?_, ?_, ?_⟩
    · show Ending.returned (.int .i64 1) = _
      rw [HX.out.1]; rfl
    · rw [HX.out.2]; exact freed_row HP
    · exact (H4.out.fr.drewN _).setCell _ _ (.inl rfl)
  have HE := tHid (HB2.out (by omega) (by omega) (by omega))
  obtain ⟨z1, z2, z3, z4, z5⟩ := HB0.out HE.out
  have hd1 : decide (nb < 0) = false := decide_eq_false h1
  have hd2 : decide (s.b < nb) = false := decide_eq_false h2
  have hd3 : decide (s.n < 1) = false := decide_eq_false h3
  clear HB0 HB1 HB2
  go_quiet (fail)
  go_wp2_with fail
  go_region
  all_goals go_wp2_with fail
  all_goals go_region
  all_goals go_wp2_with fail
  refine leaves_cons (f := 26) (args := #[.pointer (some ⟨b, 0, none⟩)]) (by simp) (by simp [go_sem]) ?_
  have HP : ((((w4.drewN (nq + 1)).setCell ⟨b, 5, none⟩ (.int .i64 (s.b - nb))).setCell ⟨b, 6, none⟩ (.int .i64 (s.n - 1))).drew).heap[b]? = some (.cells (mtC q ⟨s.b - nb, s.n - 1⟩ 1) 65) := tk_put (V := w4.drewN (nq + 1)) H4.out.row _ _
  refine (unlock_deferred Try.muLib ⟨b, 0, none⟩ .returning _ (held_cell HP).1 (held_cell HP).2).mono ?_
  rintro e' u' w'' ⟨rfl, rfl, rfl⟩
  refine ⟨_, results_tmp rfl _ _ _, ?_, ?_, ?_⟩
  · show Ending.returned (.int .i64 0) = _
    rw [HE.out]; rfl
  · rw [z5]; exact freed_row HP
  · exact ((((H4.out.fr.drewN _).setCell _ _ (.inl rfl)).setCell _ _ (.inl rfl)).drew).setCell _ _ (.inl rfl)
end Go.Proofs.Ytfjjgjkgicabjaa

import Derived.Test.YtfjjgjkgicabjaaQtE
namespace Go.Proofs.Ytfjjgjkgicabjaa
open Go.RowKit Go.MuLone
set_option linter.unusedVariables false
/-- How a meter's call stands: the meter held, the entry's box, what it needs. -/
structure Tk (w : World) (b : Nat) (q : Qt) (s : St) (g : Nat) (e : En) (V : World) : Prop where
  row : V.heap[b]? = some (.cells (mtC q s 1) 65)
  ent : V.heap[w.heap.size]? = some (.cells e.C 38)
  nd : V.heap[g]? = some (.cells #[.int .i64 e.nb, .int .i64 1, .int .i64 0] 23)
  fr : Fr (fun k => k = b) w V
theorem Tk.nw {w V U : World} {b g : Nat} {q : Qt} {s : St} {e : En} (h : Tk w b q s g e V) (k : Nw V U) : Tk w b q s g e U := ⟨k.heap h.row, k.heap h.ent, k.heap h.nd, h.fr.trans k.any⟩
theorem ent_name {V : World} {g : Nat} {e : En} (h : V.heap[g]? = some (.cells e.C 38)) : V.cell? ⟨g, 0, none⟩ = some (.string (mk e.name)) := by
  unfold En.C at h
  simp [World.cell?, h]
theorem tk_cells {w V : World} {b g : Nat} {q : Qt} {s : St} {e : En} (h : Tk w b q s g e V) : V.cell? ⟨w.heap.size, 0, none⟩ = some (.string (mk e.name)) ∧ V.cell? ⟨g, 0, none⟩ = some (.int .i64 e.nb) ∧ V.cell? ⟨g, 1, none⟩ = some (.int .i64 1) ∧ V.cell? ⟨g, 2, none⟩ = some (.int .i64 0) ∧ Hid (Tk w b q s g e V) := ⟨ent_name h.ent, (row3 h.nd).1, (row3 h.nd).2.1, (row3 h.nd).2.2, h⟩
theorem Tk.nums {w V : World} {b g : Nat} {q : Qt} {s : St} {e : En} (h : Tk w b q s g e V) : V.cell? ⟨b, 5, none⟩ = some (.int .i64 s.b) ∧ V.cell? ⟨b, 6, none⟩ = some (.int .i64 s.n) ∧ V.frozen? ⟨b, 5, none⟩ = false ∧ V.frozen? ⟨b, 6, none⟩ = false := by
  have h := h.row
  unfold mtC at h
  refine ⟨?_, ?_, ?_, ?_⟩ <;> simp [World.cell?, World.frozen?, h]
theorem tk_put {V : World} {b : Nat} {q : Qt} {s : St} {k : Int} (h : V.heap[b]? = some (.cells (mtC q s k) 65)) (x y : Int) : ((V.setCell ⟨b, 5, none⟩ (.int .i64 x)).setCell ⟨b, 6, none⟩ (.int .i64 y)).heap[b]? = some (.cells (mtC q ⟨x, y⟩ k) 65) := heap_setQ _ (heap_setQ _ h)
set_option maxHeartbeats 4000000 in
theorem mtake_any (w : World) (b : Nat) (q : Qt) (s : St) (e : En) (h : MtB b q s w) (hI : s.In q) (hq : q.Ok) (he : e.Ok) :
    Calls Try.prog 13 #[.pointer (some ⟨b, 0, none⟩), .agg e.C] w fun r w' => r = .returned (.int .i64 ((tkE q s e : Nat) : Int)) ∧ MtB b q (tkS q s e) w' ∧ Fr (fun k => k = b) w w' := by
  have HN : Hid (Calls Try.prog 27 #[.agg e.C] ((w.setCell ⟨b, 0, none⟩ (.int .i32 1)).alloc (.cells e.C 38)) fun r w' => r = .returned (.agg #[.int .i64 e.nb, .int .i64 1, .int .i64 0]) ∧ Hid (w.heap.size < w'.heap.size ∧ Tk w b q s w'.heap.size e (w'.alloc (.cells #[.int .i64 e.nb, .int .i64 1, .int .i64 0] 23)))) := by
    show Calls _ _ _ _ _
    refine (need_any _ e).mono ?_
    rintro r w' ⟨rfl, hN⟩
    have hz := hN.size
    simp at hz
    refine ⟨rfl, by omega, ?_, ?_, newHeapQ _ _, (((lock_fr w b _).alloc _).trans hN.any).alloc _⟩
    · exact (Below.heap_alloc _ _ _ (Nat.lt_of_lt_of_le h.lt (by omega))).trans (hN.heap (held_alloc h _))
    · exact (Below.heap_alloc _ _ _ (by omega)).trans (hN.heap (new_alloc _ _ _ _))
  have HL : Hid (∀ g V, Tk w b q s g e V → Calls Try.prog 29 #[.pointer (some ⟨b, 0, none⟩)] V fun r w' => r = .returned (.agg (q.left s).C) ∧ Hid (Tk w b q s g e w')) := fun g V hV =>
    (left_any V b q s 1 hV.row hI hq).mono (fun r w' ⟨e1, e2⟩ => ⟨e1, hV.nw e2⟩)
  have HR : Hid (∀ g V, Tk w b q s g e V → Calls Try.prog 28 #[.agg (q.left s).C, .string (mk e.name), .agg #[.int .i64 e.nb, .int .i64 1, .int .i64 0]] V fun r w' => r = .returned (.int .i64 ((tkE q s e : Nat) : Int)) ∧ Hid (Tk w b q s g e w')) := fun g V hV =>
    (refusal_any V (q.left s) e.name e.nb he.nm).mono (fun r w' ⟨e1, e2⟩ => ⟨by rw [e1, rfE_tk], hV.nw e2⟩)
  have HT0 : Hid (tkE q s e = 0 → s.b + e.nb ≤ 9223372036854775807 ∧ -9223372036854775808 ≤ s.b + e.nb ∧ s.n + 1 ≤ 9223372036854775807 ∧ -9223372036854775808 ≤ s.n + 1 ∧ tkS q s e = ⟨s.b + e.nb, s.n + 1⟩) := fun h0 => by
    obtain ⟨k1, k2, k3⟩ := tkE_zero.1 h0
    have := (why_nb k1).1
    obtain ⟨i1, i2, i3, i4⟩ := hI
    obtain ⟨j1, j2, j3, j4, j5, j6⟩ := hq
    exact ⟨by omega, by omega, by omega, by omega, by unfold tkS; rw [if_pos h0]⟩
  have HT1 : Hid (tkE q s e ≠ 0 → tkS q s e = s) := fun h0 => by unfold tkS; rw [if_neg h0]
  have hlt := h.lt
  have c0 := h.cell.1
  have f0 := h.cell.2.2.2.2.2.2.2 0
  clear h hI hq he
  obtain ⟨t, ht⟩ : ∃ t, t = tkE q s e := ⟨_, rfl⟩
  rw [← ht] at HR HT0 HT1 ⊢
  clear ht
  obtain ⟨sT, hsT⟩ : ∃ sT, sT = tkS q s e := ⟨_, rfl⟩
  rw [← hsT] at HT0 HT1 ⊢
  clear hsT
  obtain ⟨LC, hLC⟩ : ∃ LC, LC = (q.left s).C := ⟨_, rfl⟩
  rw [← hLC] at HL HR
  clear hLC
  obtain ⟨nb, hnb⟩ : ∃ nb, nb = e.nb := ⟨_, rfl⟩
  have hnb2 : Hid (nb = e.nb) := hnb
  rw [← hnb] at HN HR HT0
  clear hnb
  unfold En.C at *
  go_enter_defers Try.func13, Try.ntmps13
  go_wp2_with (first
    | (go_at_call 25; refine (lock_free Try.muLib ⟨b, 0, none⟩ _ (by go_simp) (by go_simp)).mono ?_; rintro e w' ⟨rfl, rfl⟩)
    | (go_at_call 27; with_reducible refine HN.out.mono ?_; rintro r w1 ⟨rfl, H1⟩))
  obtain ⟨W2, hW2⟩ : ∃ W2, W2 = w1.alloc (.cells #[.int .i64 nb, .int .i64 1, .int .i64 0] 23) := ⟨_, rfl⟩
  obtain ⟨hg, HW2⟩ := H1.out
  rw [← hW2] at HW2 ⊢
  have H2 : Hid (Tk w b q s w1.heap.size e W2) := HW2
  have H2d : Hid (Tk w b q s w1.heap.size e W2.drew) := HW2.nw (Fr.refl _ _).drew
  clear HW2 hW2 H1 HN
  generalize w1.heap.size = g at *
  have KEY : Hid (∀ U, Tk w b q s g e U → U.cell? ⟨w.heap.size, 0, none⟩ = some (.string (mk e.name)) ∧ U.cell? ⟨g, 0, none⟩ = some (.int .i64 nb) ∧ U.cell? ⟨g, 1, none⟩ = some (.int .i64 1) ∧ U.cell? ⟨g, 2, none⟩ = some (.int .i64 0) ∧ Hid (Tk w b q s g e U)) := fun U hU => by rw [hnb2.out]; exact tk_cells hU
  obtain ⟨NM, hNM⟩ : ∃ NM, NM = mk e.name := ⟨_, rfl⟩
  rw [← hNM] at HR KEY ⊢
  clear hNM
  go_region_held3 (fun U => U.cell? ⟨w.heap.size, 0, none⟩ = some (.string NM) ∧ U.cell? ⟨g, 0, none⟩ = some (.int .i64 nb) ∧ U.cell? ⟨g, 1, none⟩ = some (.int .i64 1) ∧ U.cell? ⟨g, 2, none⟩ = some (.int .i64 0) ∧ Hid (Tk w b q s g e U))
    (first | exact KEY.out _ H4.out | exact KEY.out _ H3.out | exact KEY.out _ H2d.out | exact KEY.out _ H2.out)
    (first
      | (go_at_call 29; with_reducible refine (HL.out g _ ?_).mono ?_; (first | exact H2.out | exact H2d.out); rintro r w3 ⟨rfl, H3⟩)
      | (go_at_call 28; with_reducible refine (HR.out g _ H3.out).mono ?_; rintro r w4 ⟨rfl, H4⟩))
  clear HL HR KEY H3 H2 H2d
  by_cases h0 : t = 0
  · obtain ⟨z1, z2, z3, z4, z5⟩ := HT0.out h0
    have hd : ((t : Int) != 0) = false := by rw [h0]; rfl
    have HE : Hid ((t : Int) = 0) := by show _ = _; rw [h0]; rfl
    clear HT0 HT1 h0
    obtain ⟨x1, x2, x3, x4⟩ := H4.out.nums
    obtain ⟨_, y1, y2, y3, _⟩ := tk_cells H4.out
    rw [← hnb2.out] at y1
    have hgb : ¬ g = b := by omega
    have hgb2 : ¬ b = g := by omega
    go_wp2_with fail
    go_region
    all_goals go_wp2_with fail
    all_goals go_region
    all_goals go_wp2_with fail
    refine leaves_cons (f := 26) (args := #[.pointer (some ⟨b, 0, none⟩)]) (by simp) (by simp [go_sem]) ?_
    have HP : (((w4.setCell ⟨b, 5, none⟩ (.int .i64 (s.b + nb))).setCell ⟨b, 6, none⟩ (.int .i64 (s.n + 1))).drew.drew).heap[b]? = some (.cells (mtC q ⟨s.b + nb, s.n + 1⟩ 1) 65) := tk_put H4.out.row _ _
    refine (unlock_deferred Try.muLib ⟨b, 0, none⟩ .returning _ (held_cell HP).1 (held_cell HP).2).mono ?_
    rintro e' u' w'' ⟨rfl, rfl, rfl⟩
    refine ⟨_, results_tmp rfl _ _ _, ?_, ?_, ?_⟩
    · show Ending.returned (.int .i64 0) = _
      rw [HE.out]
    · rw [z5]; exact freed_row HP
    · exact ((((H4.out.fr.setCell _ _ (.inl rfl)).setCell _ _ (.inl rfl)).drew).drew).setCell _ _ (.inl rfl)
  · have hd : ((t : Int) != 0) = true := by simp; omega
    have HS : Hid (sT = s) := HT1.out h0
    clear HT0 HT1 h0
    go_wp2_with fail
    refine leaves_cons (f := 26) (args := #[.pointer (some ⟨b, 0, none⟩)]) (by simp) (by simp [go_sem]) ?_
    refine (unlock_deferred Try.muLib ⟨b, 0, none⟩ .returning _ (held_cell H4.out.row).1 (held_cell H4.out.row).2).mono ?_
    rintro e' u' w'' ⟨rfl, rfl, rfl⟩
    exact ⟨_, results_tmp rfl _ _ _, rfl, by rw [HS.out]; exact freed_row H4.out.row, H4.out.fr.setCell _ _ (.inl rfl)⟩
end Go.Proofs.Ytfjjgjkgicabjaa

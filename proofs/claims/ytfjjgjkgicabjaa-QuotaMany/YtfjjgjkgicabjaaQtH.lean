import Derived.Test.YtfjjgjkgicabjaaQtG
namespace Go.Proofs.Ytfjjgjkgicabjaa
open Go.RowKit Go.MuLone
set_option linter.unusedVariables false
/-- How a call of the document's meter stands. -/
structure Rk (w : World) (b : Nat) (q : Qt) (s : St) (e : En) (V : World) : Prop where
  row : RfB b q s V
  ent : V.heap[w.heap.size]? = some (.cells e.C 38)
  fr : Nw w V
theorem Rk.nw {w V U : World} {b : Nat} {q : Qt} {s : St} {e : En} (h : Rk w b q s e V) (k : Nw V U) : Rk w b q s e U := ⟨k.heap h.row, k.heap h.ent, h.fr.trans k⟩
theorem rk_cells {w V : World} {b : Nat} {q : Qt} {s : St} {e : En} (h : Rk w b q s e V) : V.cell? ⟨w.heap.size, 1, none⟩ = some (.int .i64 e.kind) ∧ V.cell? ⟨w.heap.size, 10, none⟩ = some (.int .i64 e.size) ∧ V.cell? ⟨b, 0, none⟩ = some (.int .i64 q.B) ∧ V.cell? ⟨b, 1, none⟩ = some (.int .i64 q.E) ∧ V.cell? ⟨b, 2, none⟩ = some (.int .i64 q.D) ∧ V.cell? ⟨b, 3, none⟩ = some (.int .i64 s.b) ∧ V.cell? ⟨b, 4, none⟩ = some (.int .i64 s.n) ∧ V.frozen? ⟨b, 3, none⟩ = false ∧ V.frozen? ⟨b, 4, none⟩ = false := by
  obtain ⟨c0, c1, c2, c3, c4, fz⟩ := h.row.cell
  have he := h.ent
  unfold En.C at he
  refine ⟨?_, ?_, c0, c1, c2, c3, c4, fz 3, fz 4⟩ <;> simp [World.cell?, he]
theorem rk_start {w : World} {b : Nat} {q : Qt} {s : St} (e : En) (h : RfB b q s w) : Rk w b q s e (w.alloc (.cells e.C 38)) := ⟨h.kept ((Fr.refl (fun _ => False) _).alloc _) (fun h => h), newHeapQ _ _, (Fr.refl _ _).alloc _⟩
theorem rf_put {V : World} {b : Nat} {q : Qt} {s : St} (h : RfB b q s V) (x y : Int) : RfB b q ⟨x, y⟩ ((V.setCell ⟨b, 4, none⟩ (.int .i64 y)).setCell ⟨b, 3, none⟩ (.int .i64 x)) := heap_setQ _ (heap_setQ _ h)
theorem rf_put4 {V : World} {b : Nat} {q : Qt} {s : St} (h : RfB b q s V) (y : Int) : RfB b q ⟨s.b, y⟩ (V.setCell ⟨b, 4, none⟩ (.int .i64 y)) := heap_setQ _ h
theorem set2_fr (w : World) (b : Nat) (x y : Value) : Fr (fun k => k = b) w ((w.setCell ⟨b, 4, none⟩ x).setCell ⟨b, 3, none⟩ y) := Fr.setCell (Fr.setCell (Fr.refl (fun k => k = b) w) ⟨b, 4, none⟩ x (.inl rfl)) ⟨b, 3, none⟩ y (.inl rfl)
theorem set1_fr (w : World) (b : Nat) (x : Value) : Fr (fun k => k = b) w (w.setCell ⟨b, 4, none⟩ x) := Fr.setCell (Fr.refl (fun k => k = b) w) ⟨b, 4, none⟩ x (.inl rfl)
theorem rfb_alloc {V : World} {b : Nat} {q : Qt} {s : St} (h : RfB b q s V) (o : Obj) : RfB b q s (V.alloc o) := (Below.heap_alloc _ _ _ h.lt).trans h
set_option maxHeartbeats 4000000 in
theorem rback_any (w : World) (b : Nat) (q : Qt) (s : St) (e : En) (h : RfB b q s w) (hI : s.In q) (hq : q.Ok) (he : e.Ok) :
    Calls Try.prog 21 #[.pointer (some ⟨b, 0, none⟩), .agg e.C] w fun r w' => r = .returned (.int .i64 ((bkE s e : Nat) : Int)) ∧ RfB b q (bkS s e) w' ∧ Fr (fun k => k = b) w w' := by
  obtain ⟨P, hP⟩ : ∃ P : Ending → World → Prop, P = fun r w' => r = .returned (.int .i64 ((bkE s e : Nat) : Int)) ∧ RfB b q (bkS s e) w' ∧ Fr (fun k => k = b) w w' := ⟨_, rfl⟩
  rw [← hP]
  have HB0 : Hid (bkE s e = 0 → ∀ V, RfB b q ⟨s.b - e.nb, s.n - 1⟩ V → Fr (fun k => k = b) w V → P (.returned (.int .i64 0)) V) := fun h0 V h1 h2 => by
    rw [hP]; refine ⟨by rw [h0]; rfl, ?_, h2⟩
    unfold bkS; rw [if_pos h0]; exact h1
  have HB1 : Hid (e.nb < 0 ∨ s.b < e.nb ∨ s.n = 0 → ∀ V, RfB b q s V → Fr (fun k => k = b) w V → P (.returned (.int .i64 1)) V) := fun h0 V h1 h2 => by
    have h3 : bkE s e = 1 := by unfold bkE; rw [if_pos h0]
    rw [hP]; refine ⟨by rw [h3]; rfl, ?_, h2⟩
    unfold bkS; rw [if_neg (by omega)]; exact h1
  have HB2 : Hid (0 ≤ e.nb → e.nb ≤ s.b → s.n ≠ 0 → bkE s e = 0) := fun h1 h2 h3 => bkE_zero.2 ⟨h1, h2, h3⟩
  clear hP
  have hlt := h.lt
  have HH : Hid (RfB b q s w) := h
  obtain ⟨c0, c1, c2, c3, c4, fz⟩ := h.cell
  have f3 := fz 3
  have f4 := fz 4
  obtain ⟨i1, i2, i3, i4⟩ := hI
  obtain ⟨j1, j2, j3, j4, j5, j6⟩ := hq
  obtain ⟨_, s0, s1⟩ := he
  clear h fz
  have hne : ¬ w.heap.size = b := by omega
  have hne2 : ¬ b = w.heap.size := by omega
  by_cases hk : e.kind = 2
  · have hn : e.nb = e.size := by unfold En.nb; rw [if_pos hk]
    have hd : (e.kind == 2) = true := by rw [hk]; rfl
    rw [hn] at HB0 HB1 HB2
    clear hn
    unfold En.C at *
    go_enter Try.func21, Try.ntmps21
    go_wp2_with fail
    all_goals first
      | exact HB1.out (by rename_i hh; (try simp only [beq_iff_eq] at hh); omega) _ (rfb_alloc HH.out _) ((Fr.refl _ _).alloc _)
      | exact HB0.out (by rename_i hh; (try simp only [beq_eq_false_iff_ne] at hh); exact HB2.out (by omega) (by omega) (by omega)) _ (rfb_alloc (rf_put HH.out _ _) _) ((set2_fr _ _ _ _).alloc _)
  · have hn : e.nb = 0 := by unfold En.nb; rw [if_neg hk]
    have hd : (e.kind == 2) = false := by rw [beq_eq_false_iff_ne]; exact hk
    rw [hn, Int.sub_zero] at HB0
    rw [hn] at HB1 HB2
    clear hn
    unfold En.C at *
    go_enter Try.func21, Try.ntmps21
    go_wp2_with fail
    all_goals first
      | exact HB1.out (by rename_i hh; (try simp only [beq_iff_eq] at hh); omega) _ (rfb_alloc HH.out _) ((Fr.refl _ _).alloc _)
      | exact HB0.out (by rename_i hh; (try simp only [beq_eq_false_iff_ne] at hh); exact HB2.out (by omega) (by omega) (by omega)) _ (rfb_alloc (rf_put HH.out _ _) _) ((set2_fr _ _ _ _).alloc _)
end Go.Proofs.Ytfjjgjkgicabjaa

import Derived.Test.YtfjjgjkgicabjaaQtC
namespace Go.Proofs.Ytfjjgjkgicabjaa
open Go.RowKit Go.MuLone
set_option linter.unusedVariables false
theorem held_row {w : World} {b : Nat} {q : Qt} {s : St} (h : MtB b q s w) : (w.setCell ⟨b, 0, none⟩ (.int .i32 1)).heap[b]? = some (.cells (mtC q s 1) 65) := heap_setQ (.int .i32 1) h
theorem held_cell {w : World} {b : Nat} {q : Qt} {s : St} {k : Int} (h : w.heap[b]? = some (.cells (mtC q s k) 65)) : w.cell? ⟨b, 0, none⟩ = some (.int .i32 k) ∧ w.frozen? ⟨b, 0, none⟩ = false := by
  unfold mtC at h
  constructor <;> simp [World.cell?, World.frozen?, h]
theorem freed_row {w : World} {b : Nat} {q : Qt} {s : St} {k : Int} (h : w.heap[b]? = some (.cells (mtC q s k) 65)) : MtB b q s (w.setCell ⟨b, 0, none⟩ (.int .i32 0)) := heap_setQ (.int .i32 0) h
theorem held_alloc {w : World} {b : Nat} {q : Qt} {s : St} (h : MtB b q s w) (o : Obj) : ((w.setCell ⟨b, 0, none⟩ (.int .i32 1)).alloc o).heap[b]? = some (.cells (mtC q s 1) 65) :=
  (Below.heap_alloc _ _ _ (by simp; exact h.lt)).trans (held_row h)
theorem new_alloc (w : World) (p : Addr) (v : Value) (o : Obj) : ((w.setCell p v).alloc o).heap[w.heap.size]? = some o := by
  have := newHeapQ (w.setCell p v) o
  simpa using this
theorem lock_fr (w : World) (b : Nat) (v : Value) : Fr (fun k => k = b) w (w.setCell ⟨b, 0, none⟩ v) := (Fr.refl _ _).setCell _ _ (.inl rfl)
/-- Three cells that may be written. -/
structure Free3 (g : Nat) (w : World) : Prop where
  row : w.heap[g]? = some (.cells #[.int .i64 0, .int .i64 0, .int .i64 0] 23)
theorem Free3.cells {g : Nat} {w : World} (h : Free3 g w) : w.cell? ⟨g, 0, none⟩ = some (.int .i64 0) ∧ w.cell? ⟨g, 1, none⟩ = some (.int .i64 0) ∧ w.cell? ⟨g, 2, none⟩ = some (.int .i64 0) ∧ w.frozen? ⟨g, 0, none⟩ = false ∧ w.frozen? ⟨g, 1, none⟩ = false ∧ w.frozen? ⟨g, 2, none⟩ = false := by
  have h := h.row
  refine ⟨?_, ?_, ?_, ?_, ?_, ?_⟩ <;> simp [World.cell?, World.frozen?, h]
theorem free3_set {g : Nat} {w : World} (h : Free3 g w) (x y z : Value) : (((w.setCell ⟨g, 0, none⟩ x).setCell ⟨g, 1, none⟩ y).setCell ⟨g, 2, none⟩ z).heap[g]? = some (.cells #[x, y, z] 23) :=
  heap_setQ z (heap_setQ y (heap_setQ x h.row))
theorem set3_other {w : World} {g b : Nat} {o : Obj} (hb : b ≠ g) (h : w.heap[b]? = some o) (x y z : Value) : (((w.setCell ⟨g, 0, none⟩ x).setCell ⟨g, 1, none⟩ y).setCell ⟨g, 2, none⟩ z).heap[b]? = some o := by
  rw [Below.heap_setCell _ _ _ _ hb, Below.heap_setCell _ _ _ _ hb, Below.heap_setCell _ _ _ _ hb]; exact h
set_option maxHeartbeats 2000000 in
theorem mleft_any (w : World) (b : Nat) (q : Qt) (s : St) (h : MtB b q s w) (hI : s.In q) (hq : q.Ok) :
    Calls Try.prog 14 #[.pointer (some ⟨b, 0, none⟩)] w fun r w' => r = .returned (.agg (q.left s).C) ∧ MtB b q s w' ∧ Fr (fun k => k = b) w w' := by
  have HL : Hid (Calls Try.prog 29 #[.pointer (some ⟨b, 0, none⟩)] ((w.setCell ⟨b, 0, none⟩ (.int .i32 1)).alloc (.cells #[.int .i64 0, .int .i64 0, .int .i64 0] 23)) fun r w' => r = .returned (.agg (q.left s).C) ∧ Hid (Fr (fun k => k = b) w w' ∧ w'.heap[b]? = some (.cells (mtC q s 1) 65)) ∧ Hid (Free3 w.heap.size w') ∧ w'.cell? ⟨b, 0, none⟩ = some (.int .i32 1) ∧ w'.frozen? ⟨b, 0, none⟩ = false ∧ w.heap.size < w'.heap.size) := by
    show Calls _ _ _ _ _
    have hV := held_alloc h (.cells #[.int .i64 0, .int .i64 0, .int .i64 0] 23)
    refine (left_any _ b q s 1 hV hI hq).mono (fun e w' ⟨e1, e2⟩ => ⟨e1, ⟨((lock_fr w b (.int .i32 1)).alloc _).trans e2.any, e2.heap hV⟩, ⟨e2.heap (new_alloc _ _ _ _)⟩, (held_cell (e2.heap hV)).1, (held_cell (e2.heap hV)).2, ?_⟩)
    have := e2.size
    simp at this
    omega
  have HH : Hid (MtB b q s w) := h
  have hlt := h.lt
  have hne : ¬ w.heap.size = b := by omega
  have c0 := h.cell.1
  have f0 := h.cell.2.2.2.2.2.2.2 0
  clear h hI hq
  unfold Qt.C Qt.left at *
  go_enter_defers Try.func14, Try.ntmps14
  go_wp2_with (first
    | (go_at_call 25; refine (lock_free Try.muLib ⟨b, 0, none⟩ _ (by go_simp) (by go_simp)).mono ?_; rintro e w' ⟨rfl, rfl⟩)
    | (go_at_call 29; with_reducible refine HL.out.mono ?_; rintro e w1 ⟨rfl, H1, R0, r1, r2, r3⟩; obtain ⟨x1, x2, x3, x4, x5, x6⟩ := R0.out.cells))
  refine leaves_cons (f := 26) (args := #[.pointer (some ⟨b, 0, none⟩)]) (by simp) (by simp [go_sem]) ?_
  refine (unlock_deferred Try.muLib ⟨b, 0, none⟩ .returning _ (held_cell (set3_other (Ne.symm hne) H1.out.2 _ _ _)).1 (held_cell (set3_other (Ne.symm hne) H1.out.2 _ _ _)).2).mono ?_
  rintro e u' w'' ⟨rfl, rfl, rfl⟩
  refine ⟨_, results_cell_row (P := Try.prog) (p := 2) (ty := 23) rfl _ _ w.heap.size 23 _ (0, 0) _ rfl ((Below.heap_setCell _ _ _ _ hne).trans (free3_set R0.out _ _ _)) Try.underlying23 rfl (quotaSize _ _ _), rfl, freed_row (set3_other (Ne.symm hne) H1.out.2 _ _ _), ?_⟩
  exact (((H1.out.1.setCell _ _ (.inr (Nat.le_refl _))).setCell _ _ (.inr (Nat.le_refl _))).setCell _ _ (.inr (Nat.le_refl _))).setCell _ _ (.inl rfl)
set_option maxHeartbeats 2000000 in
theorem mused_any (w : World) (b : Nat) (q : Qt) (s : St) (h : MtB b q s w) :
    Calls Try.prog 15 #[.pointer (some ⟨b, 0, none⟩)] w fun r w' => r = .returned (.agg s.used.C) ∧ MtB b q s w' ∧ Fr (fun k => k = b) w w' := by
  have HH : Hid (MtB b q s w) := h
  have hlt := h.lt
  have hne : ¬ w.heap.size = b := by omega
  obtain ⟨c0, _, _, _, c5, c6, c7, fz⟩ := h.cell
  have f0 := fz 0
  clear h fz
  unfold St.used Qt.C at *
  go_enter_defers Try.func15, Try.ntmps15
  go_wp2_with (first
    | (go_at_call 25; refine (lock_free Try.muLib ⟨b, 0, none⟩ _ (by go_simp) (by go_simp)).mono ?_; rintro e w' ⟨rfl, rfl⟩))
  refine leaves_cons (f := 26) (args := #[.pointer (some ⟨b, 0, none⟩)]) (by simp) (by simp [go_sem]) ?_
  refine (unlock_deferred Try.muLib ⟨b, 0, none⟩ .returning _ (held_cell (held_alloc HH.out _)).1 (held_cell (held_alloc HH.out _)).2).mono ?_
  rintro e u' w'' ⟨rfl, rfl, rfl⟩
  refine ⟨_, results_cell_row (P := Try.prog) (p := 2) (ty := 23) rfl _ _ w.heap.size 23 _ (0, 0) _ rfl ((Below.heap_setCell _ _ _ _ hne).trans (new_alloc _ _ _ _)) Try.underlying23 rfl (quotaSize _ _ _), rfl, freed_row (held_alloc HH.out _), ?_⟩
  exact ((lock_fr w b _).alloc _).setCell _ _ (.inl rfl)
end Go.Proofs.Ytfjjgjkgicabjaa

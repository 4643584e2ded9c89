import Derived.Test.YtfjjgjkgicabjaaQtB
namespace Go.Proofs.Ytfjjgjkgicabjaa
open Go.RowKit Go.MuLone
set_option linter.unusedVariables false
theorem quota_row {w w1 : World} {g : Nat} {q : Qt} (h : w.heap[g]? = some (.cells q.C 23)) (k : Nw w w1) : w1.heap[g]? = some (.cells #[.int .i64 q.B, .int .i64 q.E, .int .i64 q.D] 23) ∧ w1.cell? ⟨g, 0, none⟩ = some (.int .i64 q.B) ∧ w1.cell? ⟨g, 1, none⟩ = some (.int .i64 q.E) ∧ w1.cell? ⟨g, 2, none⟩ = some (.int .i64 q.D) := by
  have h1 := k.heap h
  unfold Qt.C at h1
  refine ⟨h1, ?_, ?_, ?_⟩ <;> simp [World.cell?, h1]
set_option maxHeartbeats 1000000 in
theorem new_no (w : World) (q : Qt) (hq : q.can = false) :
    Calls Try.prog 11 #[.agg q.C] w fun e w' => e = .returned (.tuple #[.pointer none, .int .i64 1]) ∧ Nw w w' := by
  have HC : Hid (∀ V, Calls Try.prog 24 #[.agg q.C] V fun e w' => e = .returned (.bool false) ∧ Hid (Nw V w')) := fun V => by have := canBe_any V q; rw [hq] at this; exact this
  clear hq
  unfold Qt.C at *
  go_enter Try.func11, Try.ntmps11
  go_wp2_with (go_at_call 24; with_reducible refine (HC.out _).mono ?_; rintro e w1 ⟨rfl, H1⟩)
  go_ret2
  exact ⟨rfl, ((Fr.refl _ _).alloc _).trans H1.out⟩
set_option maxHeartbeats 1000000 in
theorem new_yes (w : World) (q : Qt) (hq : q.can = true) :
    Calls Try.prog 11 #[.agg q.C] w fun e w' => ∃ b, e = .returned (.tuple #[.pointer (some ⟨b, 0, none⟩), .int .i64 0]) ∧ w.heap.size ≤ b ∧ MtB b q ⟨0, 0⟩ w' ∧ Nw w w' := by
  have HC : Hid (∀ V, V.heap[w.heap.size]? = some (.cells q.C 23) → Calls Try.prog 24 #[.agg q.C] V fun e w' => e = .returned (.bool true) ∧ Hid (Nw V w') ∧ w'.heap[w.heap.size]? = some (.cells #[.int .i64 q.B, .int .i64 q.E, .int .i64 q.D] 23) ∧ w'.cell? ⟨w.heap.size, 0, none⟩ = some (.int .i64 q.B) ∧ w'.cell? ⟨w.heap.size, 1, none⟩ = some (.int .i64 q.E) ∧ w'.cell? ⟨w.heap.size, 2, none⟩ = some (.int .i64 q.D)) := fun V hV => by
    have := canBe_any V q; rw [hq] at this; exact this.mono (fun e w' ⟨e1, e2⟩ => ⟨e1, e2, quota_row hV e2⟩)
  clear hq
  unfold Qt.C at HC ⊢
  unfold MtB mtC
  go_enter Try.func11, Try.ntmps11
  go_wp2_with (go_at_call 24; with_reducible refine (HC.out _ (newHeapQ _ _)).mono ?_; rintro e w1 ⟨rfl, H1, r0, r1, r2, r3⟩)
  go_ret2
  exact ⟨w1.heap.size, rfl, Nat.le_trans (by simp) H1.out.size, newHeapQ _ _, (((Fr.refl _ _).alloc _).trans H1.out).alloc _⟩
set_option maxHeartbeats 1000000 in
theorem rnew_no (w : World) (q : Qt) (hq : q.can = false) :
    Calls Try.prog 16 #[.agg q.C] w fun e w' => e = .returned (.tuple #[.pointer none, .int .i64 1]) ∧ Nw w w' := by
  have HC : Hid (∀ V, Calls Try.prog 12 #[.agg q.C] V fun e w' => e = .returned (.bool false) ∧ Hid (Nw V w')) := fun V => by have := rcan_any V q; rw [hq] at this; exact this
  clear hq
  unfold Qt.C at *
  go_enter Try.func16, Try.ntmps16
  go_wp2_with (go_at_call 12; with_reducible refine (HC.out _).mono ?_; rintro e w1 ⟨rfl, H1⟩)
  go_ret2
  exact ⟨rfl, ((Fr.refl _ _).alloc _).trans H1.out⟩
set_option maxHeartbeats 1000000 in
theorem rnew_yes (w : World) (q : Qt) (hq : q.can = true) :
    Calls Try.prog 16 #[.agg q.C] w fun e w' => ∃ b, e = .returned (.tuple #[.pointer (some ⟨b, 0, none⟩), .int .i64 0]) ∧ w.heap.size ≤ b ∧ RfB b q ⟨0, 0⟩ w' ∧ Nw w w' := by
  have HC : Hid (∀ V, V.heap[w.heap.size]? = some (.cells q.C 23) → Calls Try.prog 12 #[.agg q.C] V fun e w' => e = .returned (.bool true) ∧ Hid (Nw V w') ∧ w'.heap[w.heap.size]? = some (.cells #[.int .i64 q.B, .int .i64 q.E, .int .i64 q.D] 23) ∧ w'.cell? ⟨w.heap.size, 0, none⟩ = some (.int .i64 q.B) ∧ w'.cell? ⟨w.heap.size, 1, none⟩ = some (.int .i64 q.E) ∧ w'.cell? ⟨w.heap.size, 2, none⟩ = some (.int .i64 q.D)) := fun V hV => by
    have := rcan_any V q; rw [hq] at this; exact this.mono (fun e w' ⟨e1, e2⟩ => ⟨e1, e2, quota_row hV e2⟩)
  clear hq
  unfold Qt.C at HC ⊢
  unfold RfB
  go_enter Try.func16, Try.ntmps16
  go_wp2_with (go_at_call 12; with_reducible refine (HC.out _ (newHeapQ _ _)).mono ?_; rintro e w1 ⟨rfl, H1, r0, r1, r2, r3⟩)
  go_ret2
  exact ⟨w1.heap.size, rfl, Nat.le_trans (by simp) H1.out.size, newHeapQ _ _, (((Fr.refl _ _).alloc _).trans H1.out).alloc _⟩
end Go.Proofs.Ytfjjgjkgicabjaa

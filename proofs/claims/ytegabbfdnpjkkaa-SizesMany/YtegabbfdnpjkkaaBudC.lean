import Derived.Test.YtegabbfdnpjkkaaBudB
namespace Go.Proofs.Ytegabbfdnpjkkaa
open Go.RowKit Go.MuLone
set_option linter.unusedVariables false

theorem ref_put {b : Nat} {T S : Int} {w : World} (h : RefB b T S w) (n : Nat) (S' : Int) : RefB b T S' ((w.drewN n).setCell ⟨b, 1, none⟩ (.int .i64 S')) ∧ Only b w ((w.drewN n).setCell ⟨b, 1, none⟩ (.int .i64 S')) :=
  ⟨heap_set_same (.int .i64 S') (show (w.drewN n).heap[b]? = _ from h), (Only.drewN _ _ _).trans (Only.setCell _ _ _ _)⟩
theorem ref_look {b : Nat} {T S : Int} {w : World} (h : RefB b T S w) (n : Nat) : RefB b T S (w.drewN n) ∧ Only b w (w.drewN n) := ⟨h, Only.drewN _ _ _⟩

set_option maxHeartbeats 1000000 in
theorem rspend_any (b : Nat) (T S n : Int) (w : World) (h : RefB b T S w) (h0 : 0 ≤ S) (h1 : S ≤ T) (h2 : T ≤ 9223372036854775807) (h3 : n ≤ 9223372036854775807) :
    Calls Try.prog 19 #[.pointer (some ⟨b, 0, none⟩), .int .i64 n] w fun e w' => e = .returned (.int .i64 (spE T S n)) ∧ RefB b T (spS T S n) w' ∧ Only b w w' := by
  obtain ⟨c0, c1, fz⟩ := h.cell
  have f1 := fz 1
  clear fz
  by_cases hn : n < 0
  · go_enter Try.func19, Try.ntmps19
    go_wp2
    go_ret
    exact ⟨ret1 (sp_1 hn).1, by rw [(sp_1 hn).2]; exact h, Only.refl _ _⟩
  by_cases hl : T - S < n
  · go_enter Try.func19, Try.ntmps19
    go_wp2
    go_quiet (fail)
    go_wp2
    go_ret
    exact ⟨ret1 (sp_2 (by omega) hl).1, by rw [(sp_2 (by omega) hl).2]; exact ref_look h nq⟩
  · go_enter Try.func19, Try.ntmps19
    go_wp2
    go_quiet (fail)
    go_wp2
    go_ret
    exact ⟨ret1 (sp_3 (by omega) (by omega)).1, by rw [(sp_3 (by omega) (by omega)).2]; exact ref_put h nq _⟩

set_option maxHeartbeats 1000000 in
theorem rback_any (b : Nat) (T S n : Int) (w : World) (h : RefB b T S w) (h0 : 0 ≤ S) (h1 : S ≤ T) (h2 : T ≤ 9223372036854775807) (h3 : n ≤ 9223372036854775807) :
    Calls Try.prog 17 #[.pointer (some ⟨b, 0, none⟩), .int .i64 n] w fun e w' => e = .returned (.int .i64 (bkE S n)) ∧ RefB b T (bkS S n) w' ∧ Only b w w' := by
  obtain ⟨c0, c1, fz⟩ := h.cell
  have f1 := fz 1
  clear fz
  by_cases hn : n < 0
  · go_enter Try.func17, Try.ntmps17
    go_wp2
    go_ret
    exact ⟨ret1 (bk_1 hn).1, by rw [(bk_1 hn).2]; exact h, Only.refl _ _⟩
  have hd : decide (n < 0) = false := by simp; omega
  by_cases hl : S < n
  · have hd2 : decide (S < n) = true := by simp; omega
    go_enter Try.func17, Try.ntmps17
    go_wp2
    go_ret
    exact ⟨ret1 (bk_2 (by omega) hl).1, by rw [(bk_2 (by omega) hl).2]; exact ref_look h 0⟩
  · have hd2 : decide (S < n) = false := by simp; omega
    go_enter Try.func17, Try.ntmps17
    go_wp2
    go_ret
    exact ⟨ret1 (bk_3 (by omega) (by omega)).1, by rw [(bk_3 (by omega) (by omega)).2]; exact ref_put h 0 _⟩

theorem new_block (w : World) (o : Obj) : (w.alloc o).heap[w.heap.size]? = some o := by
  show (w.heap.push o)[w.heap.size]? = some o
  simp
set_option maxHeartbeats 1000000 in
theorem new_no (T : Int) (w : World) (h : T < 0) :
    Calls Try.prog 15 #[.int .i64 T] w fun e w' => e = .returned (.tuple #[.pointer none, .int .i64 1]) ∧ w' = w := by
  go_enter Try.func15, Try.ntmps15
  go_wp2_with (go_at_call 34; refine (isSize_no T _ h).mono ?_; rintro e w' ⟨rfl, rfl⟩)
  go_ret2
  exact ⟨rfl, rfl⟩
set_option maxHeartbeats 1000000 in
theorem new_yes (T : Int) (w : World) (h : 0 ≤ T) :
    Calls Try.prog 15 #[.int .i64 T] w fun e w' => e = .returned (.tuple #[.pointer (some ⟨w.heap.size, 0, none⟩), .int .i64 0]) ∧ w' = w.alloc (.cells #[.int .i32 0, .int .u32 0, .int .i64 T, .int .i64 0] 73) := by
  go_enter Try.func15, Try.ntmps15
  go_wp2_with (go_at_call 34; refine (isSize_yes T _ h).mono ?_; rintro e w' ⟨rfl, rfl⟩)
  go_ret2
  exact ⟨rfl, rfl⟩

end Go.Proofs.Ytegabbfdnpjkkaa

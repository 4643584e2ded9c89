import Derived.Test.YtegabbfdnpjkkaaBudA
namespace Go.Proofs.Ytegabbfdnpjkkaa
open Go.RowKit Go.MuLone
set_option linter.unusedVariables false

def spE (T S n : Int) : Int := if n < 0 then 1 else if T - S < n then 11 else 0
def spS (T S n : Int) : Int := if n < 0 then S else if T - S < n then S else S + n
def bkE (S n : Int) : Int := if n < 0 then 1 else if S < n then 1 else 0
def bkS (S n : Int) : Int := if n < 0 then S else if S < n then S else S - n
theorem sp_1 {T S n : Int} (h : n < 0) : spE T S n = 1 ∧ spS T S n = S := by unfold spE spS; rw [if_pos h, if_pos h]; exact ⟨rfl, rfl⟩
theorem sp_2 {T S n : Int} (h : ¬ n < 0) (h' : T - S < n) : spE T S n = 11 ∧ spS T S n = S := by unfold spE spS; rw [if_neg h, if_pos h', if_neg h, if_pos h']; exact ⟨rfl, rfl⟩
theorem sp_3 {T S n : Int} (h : ¬ n < 0) (h' : ¬ T - S < n) : spE T S n = 0 ∧ spS T S n = S + n := by unfold spE spS; rw [if_neg h, if_neg h', if_neg h, if_neg h']; exact ⟨rfl, rfl⟩
theorem bk_1 {S n : Int} (h : n < 0) : bkE S n = 1 ∧ bkS S n = S := by unfold bkE bkS; rw [if_pos h, if_pos h]; exact ⟨rfl, rfl⟩
theorem bk_2 {S n : Int} (h : ¬ n < 0) (h' : S < n) : bkE S n = 1 ∧ bkS S n = S := by unfold bkE bkS; rw [if_neg h, if_pos h', if_neg h, if_pos h']; exact ⟨rfl, rfl⟩
theorem bk_3 {S n : Int} (h : ¬ n < 0) (h' : ¬ S < n) : bkE S n = 0 ∧ bkS S n = S - n := by unfold bkE bkS; rw [if_neg h, if_neg h', if_neg h, if_neg h']; exact ⟨rfl, rfl⟩
theorem ret1 {a b : Int} (h : b = a) : Ending.returned (.int .i64 a) = .returned (.int .i64 b) := by rw [h]

theorem isSize_yes (n : Int) (w : World) (h : 0 ≤ n) : Calls Try.prog 34 #[.int .i64 n] w fun e w' => e = .returned (.bool true) ∧ w = w' := by
  have hd : decide (0 ≤ n) = true := by simp; omega
  go_enter Try.func34, Try.ntmps34
  go_wp2
  go_ret
  exact ⟨rfl, rfl⟩
theorem isSize_no (n : Int) (w : World) (h : n < 0) : Calls Try.prog 34 #[.int .i64 n] w fun e w' => e = .returned (.bool false) ∧ w = w' := by
  have hd : decide (0 ≤ n) = false := by simp; omega
  go_enter Try.func34, Try.ntmps34
  go_wp2
  go_ret
  exact ⟨rfl, rfl⟩
set_option maxHeartbeats 1000000 in
theorem left_any (b : Nat) (T S : Int) (w : World) (h : BudB b T S w) (h0 : 0 ≤ S) (h1 : S ≤ T) (h2 : T ≤ 9223372036854775807) :
    Calls Try.prog 21 #[.pointer (some ⟨b, 0, none⟩)] w fun e w' => e = .returned (.int .i64 (T - S)) ∧ BudB b T S w' ∧ Only b w w' := by
  obtain ⟨c0, c1, c2, c3, fz⟩ := h.cell
  have f0 := fz 0
  go_enter_defers Try.func21, Try.ntmps21
  go_wp2_with (go_at_call 35; refine (lock_free Try.muLib ⟨b, 0, none⟩ _ c0 f0).mono ?_; rintro e w' ⟨rfl, rfl⟩)
  go_quiet (fail)
  go_wp2
  refine leaves_cons (f := 36) (args := #[.pointer (some ⟨b, 0, none⟩)]) (by simp) (by simp [go_sem]) ?_
  refine (unlock_deferred Try.muLib ⟨b, 0, none⟩ .returning _ ?_ ?_).mono ?_
  · exact World.cell?_setCell_same w ⟨b, 0, none⟩ (.int .i32 1) c0
  · simp [f0]
  rintro e u' w'' ⟨rfl, rfl, rfl⟩
  exact ⟨_, results_tmp rfl _ _ _, rfl, bud_look h nq⟩

set_option maxHeartbeats 1000000 in
theorem spend_any (b : Nat) (T S n : Int) (w : World) (h : BudB b T S w) (h0 : 0 ≤ S) (h1 : S ≤ T) (h2 : T ≤ 9223372036854775807) (h3 : n ≤ 9223372036854775807) :
    Calls Try.prog 18 #[.pointer (some ⟨b, 0, none⟩), .int .i64 n] w fun e w' => e = .returned (.int .i64 (spE T S n)) ∧ BudB b T (spS T S n) w' ∧ Only b w w' := by
  obtain ⟨c0, c1, c2, c3, fz⟩ := h.cell
  have f0 := fz 0
  have f3 := fz 3
  clear fz
  by_cases hn : n < 0
  · go_enter_defers Try.func18, Try.ntmps18
    go_wp2_with (go_at_call 34; refine (isSize_no n _ hn).mono ?_; rintro e w' ⟨rfl, rfl⟩)
    exact ⟨_, results_tmp rfl _ _ _, by exact ret1 (sp_1 hn).1, by rw [(sp_1 hn).2]; exact h, Only.refl _ _⟩
  by_cases hl : T - S < n
  · go_enter_defers Try.func18, Try.ntmps18
    go_wp2_with (first | (go_at_call 35; refine (lock_free Try.muLib ⟨b, 0, none⟩ _ c0 f0).mono ?_; rintro e w' ⟨rfl, rfl⟩) | (go_at_call 34; refine (isSize_yes n _ (by omega)).mono ?_; rintro e w' ⟨rfl, rfl⟩))
    go_quiet (fail)
    go_wp2
    refine leaves_cons (f := 36) (args := #[.pointer (some ⟨b, 0, none⟩)]) (by simp) (by simp [go_sem]) ?_
    refine (unlock_deferred Try.muLib ⟨b, 0, none⟩ .returning _ ?_ ?_).mono ?_
    · exact World.cell?_setCell_same w ⟨b, 0, none⟩ (.int .i32 1) c0
    · simp [f0]
    rintro e u' w'' ⟨rfl, rfl, rfl⟩
    exact ⟨_, results_tmp rfl _ _ _, by exact ret1 (sp_2 (by omega) hl).1, by rw [(sp_2 (by omega) hl).2]; exact bud_look h nq⟩
  · go_enter_defers Try.func18, Try.ntmps18
    go_wp2_with (first | (go_at_call 35; refine (lock_free Try.muLib ⟨b, 0, none⟩ _ c0 f0).mono ?_; rintro e w' ⟨rfl, rfl⟩) | (go_at_call 34; refine (isSize_yes n _ (by omega)).mono ?_; rintro e w' ⟨rfl, rfl⟩))
    go_quiet (fail)
    go_wp2
    refine leaves_cons (f := 36) (args := #[.pointer (some ⟨b, 0, none⟩)]) (by simp) (by simp [go_sem]) ?_
    refine (unlock_deferred Try.muLib ⟨b, 0, none⟩ .returning _ ?_ ?_).mono ?_
    · exact (World.cell?_setCell_other _ ⟨b, 3, none⟩ ⟨b, 0, none⟩ _ (by simp)).trans (World.cell?_setCell_same w ⟨b, 0, none⟩ (.int .i32 1) c0)
    · simp [f0]
    rintro e u' w'' ⟨rfl, rfl, rfl⟩
    exact ⟨_, results_tmp rfl _ _ _, by exact ret1 (sp_3 (by omega) (by omega)).1, by rw [(sp_3 (by omega) (by omega)).2]; exact bud_put h nq _⟩

set_option maxHeartbeats 1000000 in
theorem back_any (b : Nat) (T S n : Int) (w : World) (h : BudB b T S w) (h0 : 0 ≤ S) (h1 : S ≤ T) (h2 : T ≤ 9223372036854775807) (h3 : n ≤ 9223372036854775807) :
    Calls Try.prog 16 #[.pointer (some ⟨b, 0, none⟩), .int .i64 n] w fun e w' => e = .returned (.int .i64 (bkE S n)) ∧ BudB b T (bkS S n) w' ∧ Only b w w' := by
  obtain ⟨c0, c1, c2, c3, fz⟩ := h.cell
  have f0 := fz 0
  have f3 := fz 3
  clear fz
  by_cases hn : n < 0
  · go_enter_defers Try.func16, Try.ntmps16
    go_wp2_with (go_at_call 34; refine (isSize_no n _ hn).mono ?_; rintro e w' ⟨rfl, rfl⟩)
    exact ⟨_, results_tmp rfl _ _ _, by exact ret1 (bk_1 hn).1, by rw [(bk_1 hn).2]; exact h, Only.refl _ _⟩
  by_cases hl : S < n
  · go_enter_defers Try.func16, Try.ntmps16
    go_wp2_with (first | (go_at_call 35; refine (lock_free Try.muLib ⟨b, 0, none⟩ _ c0 f0).mono ?_; rintro e w' ⟨rfl, rfl⟩) | (go_at_call 34; refine (isSize_yes n _ (by omega)).mono ?_; rintro e w' ⟨rfl, rfl⟩))
    refine leaves_cons (f := 36) (args := #[.pointer (some ⟨b, 0, none⟩)]) (by simp) (by simp [go_sem]) ?_
    refine (unlock_deferred Try.muLib ⟨b, 0, none⟩ .returning _ ?_ ?_).mono ?_
    · exact World.cell?_setCell_same w ⟨b, 0, none⟩ (.int .i32 1) c0
    · simp [f0]
    rintro e u' w'' ⟨rfl, rfl, rfl⟩
    exact ⟨_, results_tmp rfl _ _ _, by exact ret1 (bk_2 (by omega) hl).1, by rw [(bk_2 (by omega) hl).2]; exact bud_look h 0⟩
  · go_enter_defers Try.func16, Try.ntmps16
    go_wp2_with (first | (go_at_call 35; refine (lock_free Try.muLib ⟨b, 0, none⟩ _ c0 f0).mono ?_; rintro e w' ⟨rfl, rfl⟩) | (go_at_call 34; refine (isSize_yes n _ (by omega)).mono ?_; rintro e w' ⟨rfl, rfl⟩))
    refine leaves_cons (f := 36) (args := #[.pointer (some ⟨b, 0, none⟩)]) (by simp) (by simp [go_sem]) ?_
    refine (unlock_deferred Try.muLib ⟨b, 0, none⟩ .returning _ ?_ ?_).mono ?_
    · exact (World.cell?_setCell_other _ ⟨b, 3, none⟩ ⟨b, 0, none⟩ _ (by simp)).trans (World.cell?_setCell_same w ⟨b, 0, none⟩ (.int .i32 1) c0)
    · simp [f0]
    rintro e u' w'' ⟨rfl, rfl, rfl⟩
    exact ⟨_, results_tmp rfl _ _ _, by exact ret1 (bk_3 (by omega) (by omega)).1, by rw [(bk_3 (by omega) (by omega)).2]; exact bud_put h 0 _⟩

end Go.Proofs.Ytegabbfdnpjkkaa

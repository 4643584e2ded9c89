import Derived.Test.YtfjjgjkgicabjaaQtI
import Derived.Lib.MinMax
namespace Go.Proofs.Ytfjjgjkgicabjaa
open Go.RowKit Go.MuLone
set_option linter.unusedVariables false
/-- Outer's answer. -/
def ouF (q : Qt) : Int := if q.can = true then (if 4194304 < q.B ∨ 4194304 < q.E then 4194304 else if 4194304 < q.B + 1536 * q.E + 1049600 then 4194304 else q.B + 1536 * q.E + 1049600) else 0
theorem can_of {q : Qt} (h : q.can = true) : 0 ≤ q.B ∧ 0 ≤ q.E ∧ 0 ≤ q.D := by unfold Qt.can at h; simpa using h
theorem ou_eq {z B E : Int} (h : z = if 4194304 < B ∨ 4194304 < E then 4194304 else if 4194304 < B + 1536 * E + 1049600 then 4194304 else B + 1536 * E + 1049600) (h0 : 0 ≤ B) (h1 : 0 ≤ E) : z = min (min B 4194304 + 1536 * min E 4194304 + 1049600) 4194304 := by
  rw [h]
  split
  · omega
  · split <;> omega
set_option maxHeartbeats 2000000 in
theorem outer_any (w : World) (q : Qt) (hq : q.Ok) :
    Calls Try.prog 19 #[.agg q.C] w fun e w' => e = .returned (.int .i64 (ouF q)) ∧ Nw w w' := by
  obtain ⟨P, hP⟩ : ∃ P : Ending → World → Prop, P = fun e w' => e = .returned (.int .i64 (ouF q)) ∧ Nw w w' := ⟨_, rfl⟩
  rw [← hP]
  have HC : Hid (∀ V, V.heap[w.heap.size]? = some (.cells q.C 23) → Calls Try.prog 24 #[.agg q.C] V fun e w' => e = .returned (.bool q.can) ∧ Hid (Nw V w') ∧ w'.cell? ⟨w.heap.size, 0, none⟩ = some (.int .i64 q.B) ∧ w'.cell? ⟨w.heap.size, 1, none⟩ = some (.int .i64 q.E)) := fun V hV =>
    (canBe_any V q).mono (fun e w' ⟨e1, e2⟩ => ⟨e1, e2, (quota_row hV e2).2.1, (quota_row hV e2).2.2.1⟩)
  have HF : Hid (∀ z V, ouF q = z → Nw w V → P (.returned (.int .i64 z)) V) := fun z V hz hV => by rw [hP]; exact ⟨by rw [hz], hV⟩
  clear hP
  by_cases hc : q.can = true
  · rw [hc] at HC
    have HO : Hid (ouF q = if 4194304 < q.B ∨ 4194304 < q.E then 4194304 else if 4194304 < q.B + 1536 * q.E + 1049600 then 4194304 else q.B + 1536 * q.E + 1049600) := by show _ = _; unfold ouF; rw [if_pos hc]
    obtain ⟨b0, e0, d0⟩ := can_of hc
    obtain ⟨_, b1, _, e1, _, d1⟩ := hq
    clear hc
    unfold Qt.C at *
    go_enter Try.func19, Try.ntmps19
    go_wp2_with (go_at_call 24; with_reducible refine (HC.out _ (newHeapQ _ _)).mono ?_; rintro e w1 ⟨rfl, H1, r1, r2⟩)
    refine HF.out _ _ ?_ (((Fr.refl _ _).alloc _).trans H1.out)
    exact ou_eq HO.out b0 e0
  · have hc2 : q.can = false := by simpa using hc
    rw [hc2] at HC
    have HO : Hid (ouF q = 0) := by show _ = _; unfold ouF; rw [if_neg hc]
    clear hc hc2
    unfold Qt.C at *
    go_enter Try.func19, Try.ntmps19
    go_wp2_with (go_at_call 24; with_reducible refine (HC.out _ (newHeapQ _ _)).mono ?_; rintro e w1 ⟨rfl, H1, r1, r2⟩)
    exact HF.out 0 _ HO.out (((Fr.refl _ _).alloc _).trans H1.out)
set_option maxHeartbeats 2000000 in
theorem router_any (w : World) (q : Qt) (hq : q.Ok) :
    Calls Try.prog 20 #[.agg q.C] w fun e w' => e = .returned (.int .i64 (ouF q)) ∧ Nw w w' := by
  obtain ⟨P, hP⟩ : ∃ P : Ending → World → Prop, P = fun e w' => e = .returned (.int .i64 (ouF q)) ∧ Nw w w' := ⟨_, rfl⟩
  rw [← hP]
  have HC : Hid (∀ V, V.heap[w.heap.size]? = some (.cells q.C 23) → Calls Try.prog 12 #[.agg q.C] V fun e w' => e = .returned (.bool q.can) ∧ Hid (Nw V w') ∧ w'.cell? ⟨w.heap.size, 0, none⟩ = some (.int .i64 q.B) ∧ w'.cell? ⟨w.heap.size, 1, none⟩ = some (.int .i64 q.E)) := fun V hV =>
    (rcan_any V q).mono (fun e w' ⟨e1, e2⟩ => ⟨e1, e2, (quota_row hV e2).2.1, (quota_row hV e2).2.2.1⟩)
  have HF : Hid (∀ z V, ouF q = z → Nw w V → P (.returned (.int .i64 z)) V) := fun z V hz hV => by rw [hP]; exact ⟨by rw [hz], hV⟩
  clear hP
  by_cases hc : q.can = true
  · rw [hc] at HC
    have HO : Hid (ouF q = if 4194304 < q.B ∨ 4194304 < q.E then 4194304 else if 4194304 < q.B + 1536 * q.E + 1049600 then 4194304 else q.B + 1536 * q.E + 1049600) := by show _ = _; unfold ouF; rw [if_pos hc]
    obtain ⟨b0, e0, d0⟩ := can_of hc
    obtain ⟨_, b1, _, e1, _, d1⟩ := hq
    clear hc
    unfold Qt.C at *
    by_cases h1 : 4194304 < q.B
    · have HX : Hid (ouF q = 4194304) := by show _ = _; rw [HO.out, if_pos (.inl h1)]
      have hd : decide (4194304 < q.B) = true := decide_eq_true h1
      go_enter Try.func20, Try.ntmps20
      go_wp2_with (go_at_call 12; with_reducible refine (HC.out _ (newHeapQ _ _)).mono ?_; rintro e w1 ⟨rfl, H1, r1, r2⟩)
      exact HF.out _ _ HX.out (((Fr.refl _ _).alloc _).trans H1.out)
    have hd1 : decide (4194304 < q.B) = false := decide_eq_false h1
    by_cases h2 : 4194304 < q.E
    · have HX : Hid (ouF q = 4194304) := by show _ = _; rw [HO.out, if_pos (.inr h2)]
      have hd : decide (4194304 < q.E) = true := decide_eq_true h2
      go_enter Try.func20, Try.ntmps20
      go_wp2_with (go_at_call 12; with_reducible refine (HC.out _ (newHeapQ _ _)).mono ?_; rintro e w1 ⟨rfl, H1, r1, r2⟩)
      exact HF.out _ _ HX.out (((Fr.refl _ _).alloc _).trans H1.out)
    have hd2 : decide (4194304 < q.E) = false := decide_eq_false h2
    have HO2 : Hid (ouF q = if 4194304 < q.B + 1536 * q.E + 1049600 then 4194304 else q.B + 1536 * q.E + 1049600) := by show _ = _; rw [HO.out, if_neg (by omega)]
    clear HO
    go_enter Try.func20, Try.ntmps20
    go_wp2_with (go_at_call 12; with_reducible refine (HC.out _ (newHeapQ _ _)).mono ?_; rintro e w1 ⟨rfl, H1, r1, r2⟩)
    all_goals refine HF.out _ _ (HO2.out.trans ?_) (((Fr.refl _ _).alloc _).trans H1.out)
    · rw [if_pos (by omega)]
    · rw [if_neg (by omega)]; omega
  · have hc2 : q.can = false := by simpa using hc
    rw [hc2] at HC
    have HO : Hid (ouF q = 0) := by show _ = _; unfold ouF; rw [if_neg hc]
    clear hc hc2
    unfold Qt.C at *
    go_enter Try.func20, Try.ntmps20
    go_wp2_with (go_at_call 12; with_reducible refine (HC.out _ (newHeapQ _ _)).mono ?_; rintro e w1 ⟨rfl, H1, r1, r2⟩)
    exact HF.out 0 _ HO.out (((Fr.refl _ _).alloc _).trans H1.out)
end Go.Proofs.Ytfjjgjkgicabjaa

import Derived.Test.YtfjjgjkgicabjaaQtJ
namespace Go.Proofs.Ytfjjgjkgicabjaa
open Go.RowKit Go.MuLone
set_option linter.unusedVariables false
/-- A pair of meters. -/
def PrB (pb : Nat) (x y : Option Addr) (w : World) : Prop := w.heap[pb]? = some (.cells #[.pointer x, .pointer y] 32)
structure Pr (pb p d : Nat) (q : Qt) (s : St) (w : World) : Prop where
  pr : PrB pb (some ⟨p, 0, none⟩) (some ⟨d, 0, none⟩) w
  m : MtB p q s w
  r : RfB d q s w
theorem Pr.nw {pb p d : Nat} {q : Qt} {s : St} {w w' : World} (h : Pr pb p d q s w) (k : Nw w w') : Pr pb p d q s w' := ⟨k.heap h.pr, h.m.kept k (fun h => h), h.r.kept k (fun h => h)⟩
theorem Pr.ne {pb p d : Nat} {q : Qt} {s : St} {w : World} (h : Pr pb p d q s w) : p ≠ d ∧ p ≠ pb ∧ d ≠ pb := by
  obtain ⟨h1, h2, h3⟩ := h
  unfold PrB at h1
  unfold MtB mtC at h2
  unfold RfB at h3
  refine ⟨?_, ?_, ?_⟩
  · rintro rfl; rw [h2] at h3; simp at h3
  · rintro rfl; rw [h2] at h1; simp at h1
  · rintro rfl; rw [h3] at h1; simp at h1
set_option maxHeartbeats 4000000 in
theorem made_no (w : World) (q : Qt) (hq : q.Ok) (hc : q.can = false) :
    Calls Try.prog 7 #[.agg q.C] w fun e w' => ∃ pb, e = .returned (.tuple #[.pointer (some ⟨pb, 0, none⟩), .bool true]) ∧ w.heap.size ≤ pb ∧ PrB pb none none w' ∧ Nw w w' := by
  obtain ⟨P, hP⟩ : ∃ P : Ending → World → Prop, P = fun e w' => ∃ pb, e = .returned (.tuple #[.pointer (some ⟨pb, 0, none⟩), .bool true]) ∧ w.heap.size ≤ pb ∧ PrB pb none none w' ∧ Nw w w' := ⟨_, rfl⟩
  rw [← hP]
  have HF : Hid (∀ pb V, w.heap.size ≤ pb → PrB pb none none V → Nw w V → P (.returned (.tuple #[.pointer (some ⟨pb, 0, none⟩), .bool true])) V) := fun pb V h1 h4 h5 => by
    rw [hP]; exact ⟨pb, rfl, h1, h4, h5⟩
  clear hP
  have HN : Hid (∀ V, V.heap[w.heap.size]? = some (.cells q.C 23) → Calls Try.prog 11 #[.agg q.C] V fun e w' => e = .returned (.tuple #[.pointer none, .int .i64 1]) ∧ Hid (Nw V w') ∧ w'.cell? ⟨w.heap.size, 0, none⟩ = some (.int .i64 q.B) ∧ w'.cell? ⟨w.heap.size, 1, none⟩ = some (.int .i64 q.E) ∧ w'.cell? ⟨w.heap.size, 2, none⟩ = some (.int .i64 q.D)) := fun V hV =>
    (new_no V q hc).mono (fun e w' ⟨e1, e4⟩ => ⟨e1, e4, (quota_row hV e4).2⟩)
  have HM : Hid (∀ V, V.heap[w.heap.size]? = some (.cells q.C 23) → Calls Try.prog 16 #[.agg q.C] V fun e w' => e = .returned (.tuple #[.pointer none, .int .i64 1]) ∧ Hid (Nw V w') ∧ w'.cell? ⟨w.heap.size, 0, none⟩ = some (.int .i64 q.B) ∧ w'.cell? ⟨w.heap.size, 1, none⟩ = some (.int .i64 q.E) ∧ w'.cell? ⟨w.heap.size, 2, none⟩ = some (.int .i64 q.D)) := fun V hV =>
    (rnew_no V q hc).mono (fun e w' ⟨e1, e4⟩ => ⟨e1, e4, (quota_row hV e4).2⟩)
  have HO : Hid (∀ w2 V, Nw w2 V → Calls Try.prog 19 #[.agg q.C] V fun e w' => e = .returned (.int .i64 (ouF q)) ∧ Hid (Nw w2 w' ∧ Nw V w')) := fun w2 V hV => (outer_any V q hq).mono (fun e w' ⟨e1, e2⟩ => ⟨e1, hV.trans e2, e2⟩)
  have HR : Hid (∀ w2 V, Nw w2 V → Calls Try.prog 20 #[.agg q.C] V fun e w' => e = .returned (.int .i64 (ouF q)) ∧ Hid (Nw w2 w' ∧ Nw V w')) := fun w2 V hV => (router_any V q hq).mono (fun e w' ⟨e1, e2⟩ => ⟨e1, hV.trans e2, e2⟩)
  clear hq hc
  generalize ouF q = ou at *
  unfold Qt.C at *
  go_enter Try.func7, Try.ntmps7
  go_wp2_with (first
    | (go_at_call 11; with_reducible refine (HN.out _ (newHeapQ _ _)).mono ?_; rintro e w1 ⟨rfl, H1, r1, r2, r3⟩)
    | (go_at_call 16; with_reducible refine (HM.out _ (H1.out.heap (newHeapQ _ _))).mono ?_; rintro e w2 ⟨rfl, H2, t1, t2, t3⟩))
  have HZ : Hid (Nw w w2) := (((Fr.refl _ _).alloc _).trans H1.out).trans H2.out
  have HS : Hid (∀ V, Nw w2 V → V.cell? ⟨w.heap.size, 0, none⟩ = some (.int .i64 q.B) ∧ V.cell? ⟨w.heap.size, 1, none⟩ = some (.int .i64 q.E) ∧ V.cell? ⟨w.heap.size, 2, none⟩ = some (.int .i64 q.D) ∧ Hid (Nw w2 V)) := fun V hV => ⟨hV.cell t1, hV.cell t2, hV.cell t3, hV⟩
  go_region_held3 (fun V => V.cell? ⟨w.heap.size, 0, none⟩ = some (.int .i64 q.B) ∧ V.cell? ⟨w.heap.size, 1, none⟩ = some (.int .i64 q.E) ∧ V.cell? ⟨w.heap.size, 2, none⟩ = some (.int .i64 q.D) ∧ Hid (Nw w2 V))
    (first | exact HS.out _ H3.out.1 | exact HS.out _ H4.out.1 | exact HS.out _ (H3.out.1.alloc _) | exact HS.out _ (H4.out.1.alloc _) | exact HS.out _ (Fr.refl _ _) | exact HS.out _ (Fr.refl _ _).drew | exact HS.out _ ((Fr.refl _ _).drew.alloc _) | exact HS.out _ ((Fr.refl _ _).alloc _).drew)
    (first
      | (go_at_call 19; with_reducible refine (HO.out w2 _ ?_).mono ?_; (first | exact H4.out.1 | exact H4.out.1.alloc _ | exact (Fr.refl _ _).drew | exact (Fr.refl _ _).drew.alloc _ | exact ((Fr.refl _ _).alloc _).drew); rintro e w3 ⟨rfl, H3⟩)
      | (go_at_call 20; with_reducible refine (HR.out w2 _ ?_).mono ?_; (first | exact H3.out.1 | exact H3.out.1.alloc _ | exact (Fr.refl _ _).drew | exact (Fr.refl _ _).drew.alloc _ | exact ((Fr.refl _ _).alloc _).drew); rintro e w4 ⟨rfl, H4⟩))
  all_goals go_wp2_with fail
  · exact HF.out _ _ (HZ.out.size) (H4.out.2.heap (H3.out.2.heap (newHeapQ w2 _))) (HZ.out.trans H4.out.1)
  · exact HF.out _ _ ((HZ.out.trans H3.out.1).size) (H4.out.2.heap (newHeapQ w3 _)) (HZ.out.trans H4.out.1)
  · exact HF.out _ _ ((HZ.out.trans H4.out.1).size) (newHeapQ w4 _) (HZ.out.trans (H4.out.1.alloc _))
set_option maxHeartbeats 4000000 in
theorem made_yes (w : World) (q : Qt) (hq : q.Ok) (hc : q.can = true) :
    Calls Try.prog 7 #[.agg q.C] w fun e w' => ∃ pb p d, e = .returned (.tuple #[.pointer (some ⟨pb, 0, none⟩), .bool true]) ∧ w.heap.size ≤ pb ∧ w.heap.size ≤ p ∧ w.heap.size ≤ d ∧ Pr pb p d q ⟨0, 0⟩ w' ∧ Nw w w' := by
  obtain ⟨P, hP⟩ : ∃ P : Ending → World → Prop, P = fun e w' => ∃ pb p d, e = .returned (.tuple #[.pointer (some ⟨pb, 0, none⟩), .bool true]) ∧ w.heap.size ≤ pb ∧ w.heap.size ≤ p ∧ w.heap.size ≤ d ∧ Pr pb p d q ⟨0, 0⟩ w' ∧ Nw w w' := ⟨_, rfl⟩
  rw [← hP]
  have HF : Hid (∀ pb p d V, w.heap.size ≤ pb → w.heap.size ≤ p → w.heap.size ≤ d → Pr pb p d q ⟨0, 0⟩ V → Nw w V → P (.returned (.tuple #[.pointer (some ⟨pb, 0, none⟩), .bool true])) V) := fun pb p d V h1 h2 h3 h4 h5 => by
    rw [hP]; exact ⟨pb, p, d, rfl, h1, h2, h3, h4, h5⟩
  clear hP
  have HN : Hid (∀ V, V.heap[w.heap.size]? = some (.cells q.C 23) → Calls Try.prog 11 #[.agg q.C] V fun e w' => ∃ b, e = .returned (.tuple #[.pointer (some ⟨b, 0, none⟩), .int .i64 0]) ∧ Hid (V.heap.size ≤ b ∧ MtB b q ⟨0, 0⟩ w' ∧ Nw V w') ∧ w'.cell? ⟨w.heap.size, 0, none⟩ = some (.int .i64 q.B) ∧ w'.cell? ⟨w.heap.size, 1, none⟩ = some (.int .i64 q.E) ∧ w'.cell? ⟨w.heap.size, 2, none⟩ = some (.int .i64 q.D)) := fun V hV =>
    (new_yes V q hc).mono (fun e w' ⟨b, e1, e2, e3, e4⟩ => ⟨b, e1, ⟨e2, e3, e4⟩, (quota_row hV e4).2⟩)
  have HM : Hid (∀ V, V.heap[w.heap.size]? = some (.cells q.C 23) → Calls Try.prog 16 #[.agg q.C] V fun e w' => ∃ b, e = .returned (.tuple #[.pointer (some ⟨b, 0, none⟩), .int .i64 0]) ∧ Hid (V.heap.size ≤ b ∧ RfB b q ⟨0, 0⟩ w' ∧ Nw V w') ∧ w'.cell? ⟨w.heap.size, 0, none⟩ = some (.int .i64 q.B) ∧ w'.cell? ⟨w.heap.size, 1, none⟩ = some (.int .i64 q.E) ∧ w'.cell? ⟨w.heap.size, 2, none⟩ = some (.int .i64 q.D)) := fun V hV =>
    (rnew_yes V q hc).mono (fun e w' ⟨b, e1, e2, e3, e4⟩ => ⟨b, e1, ⟨e2, e3, e4⟩, (quota_row hV e4).2⟩)
  have HO : Hid (∀ w2 V, Nw w2 V → Calls Try.prog 19 #[.agg q.C] V fun e w' => e = .returned (.int .i64 (ouF q)) ∧ Hid (Nw w2 w' ∧ Nw V w')) := fun w2 V hV => (outer_any V q hq).mono (fun e w' ⟨e1, e2⟩ => ⟨e1, hV.trans e2, e2⟩)
  have HR : Hid (∀ w2 V, Nw w2 V → Calls Try.prog 20 #[.agg q.C] V fun e w' => e = .returned (.int .i64 (ouF q)) ∧ Hid (Nw w2 w' ∧ Nw V w')) := fun w2 V hV => (router_any V q hq).mono (fun e w' ⟨e1, e2⟩ => ⟨e1, hV.trans e2, e2⟩)
  clear hq hc
  generalize ouF q = ou at *
  unfold Qt.C at *
  go_enter Try.func7, Try.ntmps7
  go_wp2_with (first
    | (go_at_call 11; with_reducible refine (HN.out _ (newHeapQ _ _)).mono ?_; rintro e w1 ⟨p, rfl, H1, r1, r2, r3⟩)
    | (go_at_call 16; with_reducible refine (HM.out _ (H1.out.2.2.heap (newHeapQ _ _))).mono ?_; rintro e w2 ⟨d, rfl, H2, t1, t2, t3⟩))
  have HZ : Hid (w.heap.size ≤ p ∧ w.heap.size ≤ d ∧ MtB p q ⟨0, 0⟩ w2 ∧ RfB d q ⟨0, 0⟩ w2 ∧ Nw w w2) := by
    have k1 := H1.out.1
    have k2 := H1.out.2.2.size
    simp at k1 k2
    exact ⟨by omega, by have := H2.out.1; omega, H2.out.2.2.heap H1.out.2.1, H2.out.2.1, (((Fr.refl _ _).alloc _).trans H1.out.2.2).trans H2.out.2.2⟩
  have HS : Hid (∀ V, Nw w2 V → V.cell? ⟨w.heap.size, 0, none⟩ = some (.int .i64 q.B) ∧ V.cell? ⟨w.heap.size, 1, none⟩ = some (.int .i64 q.E) ∧ V.cell? ⟨w.heap.size, 2, none⟩ = some (.int .i64 q.D) ∧ Hid (Nw w2 V)) := fun V hV => ⟨hV.cell t1, hV.cell t2, hV.cell t3, hV⟩
  go_region_held3 (fun V => V.cell? ⟨w.heap.size, 0, none⟩ = some (.int .i64 q.B) ∧ V.cell? ⟨w.heap.size, 1, none⟩ = some (.int .i64 q.E) ∧ V.cell? ⟨w.heap.size, 2, none⟩ = some (.int .i64 q.D) ∧ Hid (Nw w2 V))
    (first | exact HS.out _ H3.out.1 | exact HS.out _ H4.out.1 | exact HS.out _ (H3.out.1.alloc _) | exact HS.out _ (H4.out.1.alloc _) | exact HS.out _ (Fr.refl _ _) | exact HS.out _ (Fr.refl _ _).drew | exact HS.out _ ((Fr.refl _ _).drew.alloc _) | exact HS.out _ ((Fr.refl _ _).alloc _).drew)
    (first
      | (go_at_call 19; with_reducible refine (HO.out w2 _ ?_).mono ?_; (first | exact H4.out.1 | exact H4.out.1.alloc _ | exact (Fr.refl _ _).drew | exact (Fr.refl _ _).drew.alloc _ | exact ((Fr.refl _ _).alloc _).drew); rintro e w3 ⟨rfl, H3⟩)
      | (go_at_call 20; with_reducible refine (HR.out w2 _ ?_).mono ?_; (first | exact H3.out.1 | exact H3.out.1.alloc _ | exact (Fr.refl _ _).drew | exact (Fr.refl _ _).drew.alloc _ | exact ((Fr.refl _ _).alloc _).drew); rintro e w4 ⟨rfl, H4⟩))
  all_goals go_wp2_with fail
  · exact HF.out _ p d _ (HZ.out.2.2.2.2.size) HZ.out.1 HZ.out.2.1 ⟨H4.out.2.heap (H3.out.2.heap (newHeapQ w2 _)), H4.out.1.heap HZ.out.2.2.1, H4.out.1.heap HZ.out.2.2.2.1⟩ (HZ.out.2.2.2.2.trans H4.out.1)
  · exact HF.out _ p d _ ((HZ.out.2.2.2.2.trans H3.out.1).size) HZ.out.1 HZ.out.2.1 ⟨H4.out.2.heap (newHeapQ w3 _), H4.out.1.heap HZ.out.2.2.1, H4.out.1.heap HZ.out.2.2.2.1⟩ (HZ.out.2.2.2.2.trans H4.out.1)
  · exact HF.out _ p d _ ((HZ.out.2.2.2.2.trans H4.out.1).size) HZ.out.1 HZ.out.2.1 ⟨newHeapQ w4 _, Nw.heap (H4.out.1.alloc _) HZ.out.2.2.1, Nw.heap (H4.out.1.alloc _) HZ.out.2.2.2.1⟩ (HZ.out.2.2.2.2.trans (H4.out.1.alloc _))
end Go.Proofs.Ytfjjgjkgicabjaa

import Derived.Test.YtfjjgjkgicabjaaQtA
import Derived.BigRegion
namespace Go.Proofs.Ytfjjgjkgicabjaa
open Go.RowKit Go.MuLone
set_option linter.unusedVariables false
theorem quotaSize (a b c : Value) : Option.map (fun x => x.size) (Try.prog.info? 23) = some (Array.size #[a, b, c]) := by
  show _ = some 3
  kernel_rfl
theorem newHeapQ1 (w : World) (p o : Obj) : ((w.alloc p).alloc o).heap[w.heap.size + 1]? = some o := by
  show ((w.heap.push p).push o)[w.heap.size + 1]? = some o
  rw [Array.getElem?_push, if_pos (by simp)]
set_option maxHeartbeats 1000000 in
theorem need_any (w : World) (e : En) :
    Calls Try.prog 27 #[.agg e.C] w fun r w' => r = .returned (.agg (Qt.C ⟨e.nb, 1, 0⟩)) ∧ Nw w w' := by
  unfold En.C Qt.C
  by_cases hk : e.kind = 2
  · have hn : e.nb = e.size := by unfold En.nb; rw [if_pos hk]
    rw [hn]
    have hd : (e.kind == 2) = true := by rw [hk]; rfl
    clear hn
    obtain ⟨n0, n1, n2, n3, n4, n5, n6, n7, n8, n9, n10, n11⟩ := e
    simp only at hk hd ⊢
    clear hk
    go_enter Try.func27, Try.ntmps27
    go_wp2
    refine bodyPost_ret (results_cell_row (p := 2) (ty := 23) rfl _ _ (w.heap.size + 1) 23 _ (0, 0) _ rfl (newHeapQ1 _ _ _) Try.underlying23 rfl (quotaSize _ _ _)) rfl ?_
    exact ⟨rfl, ((Fr.refl _ _).alloc _).alloc _⟩
  · have hn : e.nb = 0 := by unfold En.nb; rw [if_neg hk]
    rw [hn]
    have hd : (e.kind == 2) = false := by rw [beq_eq_false_iff_ne]; exact hk
    clear hn
    obtain ⟨n0, n1, n2, n3, n4, n5, n6, n7, n8, n9, n10, n11⟩ := e
    simp only at hk hd ⊢
    clear hk
    go_enter Try.func27, Try.ntmps27
    go_wp2
    refine bodyPost_ret (results_cell_row (p := 2) (ty := 23) rfl _ _ (w.heap.size + 1) 23 _ (0, 0) _ rfl (newHeapQ1 _ _ _) Try.underlying23 rfl (quotaSize _ _ _)) rfl ?_
    exact ⟨rfl, ((Fr.refl _ _).alloc _).alloc _⟩
set_option maxHeartbeats 1000000 in
theorem left_any (w : World) (b : Nat) (q : Qt) (s : St) (k : Int) (h : w.heap[b]? = some (.cells (mtC q s k) 65)) (hI : s.In q) (hq : q.Ok) :
    Calls Try.prog 29 #[.pointer (some ⟨b, 0, none⟩)] w fun r w' => r = .returned (.agg (q.left s).C) ∧ Nw w w' := by
  unfold mtC at h
  unfold Qt.left Qt.C
  obtain ⟨q1, q2, q3, q4, q5, q6⟩ := hq
  obtain ⟨i1, i2, i3, i4⟩ := hI
  obtain ⟨B, E, D⟩ := q
  obtain ⟨sb, sn⟩ := s
  simp only at *
  have c2 : w.cell? ⟨b, 2, none⟩ = some (.int .i64 B) := by simp [World.cell?, h]
  have c3 : w.cell? ⟨b, 3, none⟩ = some (.int .i64 E) := by simp [World.cell?, h]
  have c4 : w.cell? ⟨b, 4, none⟩ = some (.int .i64 D) := by simp [World.cell?, h]
  have c5 : w.cell? ⟨b, 5, none⟩ = some (.int .i64 sb) := by simp [World.cell?, h]
  have c6 : w.cell? ⟨b, 6, none⟩ = some (.int .i64 sn) := by simp [World.cell?, h]
  have hlt : b < w.heap.size := (Array.getElem?_eq_some_iff.1 h).1
  clear h
  go_enter Try.func29, Try.ntmps29
  go_wp2
  go_region
  all_goals go_wp2
  refine bodyPost_ret (results_cell_row (p := 2) (ty := 23) rfl _ _ w.heap.size 23 _ (0, 0) _ rfl (newHeapQ _ _) Try.underlying23 rfl (quotaSize _ _ _)) rfl ?_
  exact ⟨rfl, ((Fr.refl _ _).alloc _).drew⟩
set_option maxHeartbeats 1000000 in
theorem rleft_any (w : World) (b : Nat) (q : Qt) (s : St) (h : RfB b q s w) (hI : s.In q) (hq : q.Ok) :
    Calls Try.prog 22 #[.pointer (some ⟨b, 0, none⟩)] w fun r w' => r = .returned (.agg (q.left s).C) ∧ Nw w w' := by
  have hlt := h.lt
  unfold Qt.left Qt.C
  obtain ⟨q1, q2, q3, q4, q5, q6⟩ := hq
  obtain ⟨i1, i2, i3, i4⟩ := hI
  obtain ⟨c0, c1, c2, c3, c4, _⟩ := h.cell
  clear h
  obtain ⟨B, E, D⟩ := q
  obtain ⟨sb, sn⟩ := s
  simp only at *
  go_enter Try.func22, Try.ntmps22
  go_wp2
  go_region
  all_goals go_wp2
  refine bodyPost_ret (results_cell_row (p := 2) (ty := 23) rfl _ _ w.heap.size 23 _ (0, 0) _ rfl (newHeapQ _ _) Try.underlying23 rfl (quotaSize _ _ _)) rfl ?_
  exact ⟨rfl, ((Fr.refl _ _).alloc _).drew⟩
set_option maxHeartbeats 1000000 in
theorem rused_any (w : World) (b : Nat) (q : Qt) (s : St) (h : RfB b q s w) :
    Calls Try.prog 23 #[.pointer (some ⟨b, 0, none⟩)] w fun r w' => r = .returned (.agg s.used.C) ∧ Nw w w' := by
  have hlt := h.lt
  unfold St.used Qt.C
  obtain ⟨c0, c1, c2, c3, c4, _⟩ := h.cell
  clear h
  obtain ⟨sb, sn⟩ := s
  simp only at *
  go_enter Try.func23, Try.ntmps23
  go_wp2
  go_region
  all_goals go_wp2
  refine bodyPost_ret (results_cell_row (p := 2) (ty := 23) rfl _ _ w.heap.size 23 _ (0, 0) _ rfl (newHeapQ _ _) Try.underlying23 rfl (quotaSize _ _ _)) rfl ?_
  exact ⟨rfl, ((Fr.refl _ _).alloc _).drew⟩
set_option maxHeartbeats 1000000 in
theorem canBe_any (w : World) (q : Qt) :
    Calls Try.prog 24 #[.agg q.C] w fun e w' => e = .returned (.bool q.can) ∧ Nw w w' := by
  unfold Qt.C Qt.can
  obtain ⟨B, E, D⟩ := q
  simp only
  by_cases hB : B < 0
  · rw [decide_eq_false (by omega)]
    have hd : decide (0 ≤ B) = false := decide_eq_false (by omega)
    go_enter Try.func24, Try.ntmps24
    go_wp2
    go_ret
    exact ⟨rfl, (Fr.refl _ _).alloc _⟩
  have hd : decide (0 ≤ B) = true := decide_eq_true (by omega)
  by_cases hE : E < 0
  · rw [decide_eq_false (by omega)]
    have hd2 : decide (0 ≤ E) = false := decide_eq_false (by omega)
    go_enter Try.func24, Try.ntmps24
    go_wp2
    go_ret
    exact ⟨rfl, (Fr.refl _ _).alloc _⟩
  have hd2 : decide (0 ≤ E) = true := decide_eq_true (by omega)
  by_cases hD : D < 0
  · rw [decide_eq_false (by omega)]
    have hd3 : decide (0 ≤ D) = false := decide_eq_false (by omega)
    go_enter Try.func24, Try.ntmps24
    go_wp2
    go_ret
    exact ⟨rfl, (Fr.refl _ _).alloc _⟩
  have hd3 : decide (0 ≤ D) = true := decide_eq_true (by omega)
  rw [decide_eq_true (by omega)]
  go_enter Try.func24, Try.ntmps24
  go_wp2
  go_ret
  exact ⟨rfl, (Fr.refl _ _).alloc _⟩
set_option maxHeartbeats 1000000 in
theorem rcan_any (w : World) (q : Qt) :
    Calls Try.prog 12 #[.agg q.C] w fun e w' => e = .returned (.bool q.can) ∧ Nw w w' := by
  unfold Qt.C Qt.can
  obtain ⟨B, E, D⟩ := q
  simp only
  by_cases hB : B < 0
  · rw [decide_eq_false (by omega)]
    have hd : decide (0 ≤ B) = false := decide_eq_false (by omega)
    go_enter Try.func12, Try.ntmps12
    go_wp2
    go_ret
    exact ⟨rfl, (Fr.refl _ _).alloc _⟩
  have hd : decide (0 ≤ B) = true := decide_eq_true (by omega)
  by_cases hE : E < 0
  · rw [decide_eq_false (by omega)]
    have hd2 : decide (0 ≤ E) = false := decide_eq_false (by omega)
    go_enter Try.func12, Try.ntmps12
    go_wp2
    go_ret
    exact ⟨rfl, (Fr.refl _ _).alloc _⟩
  have hd2 : decide (0 ≤ E) = true := decide_eq_true (by omega)
  by_cases hD : D < 0
  · rw [decide_eq_false (by omega)]
    have hd3 : decide (0 ≤ D) = false := decide_eq_false (by omega)
    go_enter Try.func12, Try.ntmps12
    go_wp2
    go_ret
    exact ⟨rfl, (Fr.refl _ _).alloc _⟩
  have hd3 : decide (0 ≤ D) = true := decide_eq_true (by omega)
  rw [decide_eq_true (by omega)]
  go_enter Try.func12, Try.ntmps12
  go_wp2
  go_ret
  exact ⟨rfl, (Fr.refl _ _).alloc _⟩
end Go.Proofs.Ytfjjgjkgicabjaa

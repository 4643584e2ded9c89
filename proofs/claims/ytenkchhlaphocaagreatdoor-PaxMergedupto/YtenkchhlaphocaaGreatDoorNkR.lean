import Derived.Test.YtenkchhlaphocaaGreatDoorNkQ
namespace Go.Proofs.YtenkchhlaphocaaGreatDoor
open Go.RowKit Go.Shelf
set_option linter.unusedVariables false
attribute [local go_sem] Oper.semAt_some
/-! ### Find -/
set_option maxRecDepth 100000 in
set_option maxHeartbeats 8000000 in
theorem find_in (w : World) (a : Option Addr) (len cap : Nat) (l : List Pr) (k : Bs) (hl : SlR RP (fun _ => False) (.slice a len cap) l w) (hlen : l.length ≤ 1000000000) :
    CallsIn Fence.wide 3 Tryz.prog 8 #[.slice a len cap, .string (str k)] w fun e W' => (((e = .returned (fdV none) ∧ ∀ p ∈ bkw l l.length, p.2.1 ≠ k) ∨ ∃ K ini last, K ≤ l.length ∧ bkw l K = ini ++ [last] ∧ (∀ p ∈ ini, p.2.1 ≠ k) ∧ last.2.1 = k ∧ e = .returned (fdV (some last.2.2))) ∧ Below w.heap.size w W') := by
  refine callsIn_of_wp_marks Tryz.func8 rfl trivial ?_ rfl
  simp only [Tryz.ntmps8, List.size_toArray, List.length_cons, List.length_nil, Nat.reduceAdd, Nat.reduceSub, Array.replicate_succ, Array.replicate_zero, List.push_toArray, List.append_toArray, List.nil_append, List.cons_append]
  gi_wp2_with (refine ⟨trivial, ?_⟩; gi_at_call 16; refine (back_in _ _ _ _ _).mono ?_; rintro e w' ⟨rfl, rfl⟩)
  have bK := (((Boxed.new w 9 (.string (str k))).alloc (.cells #[.string ⟨#[]⟩] 9)).alloc (.cells #[.bool false] 4)).alloc (.cells #[.slice a len cap] 22)
  have bR := ((Boxed.new (w.alloc (.cells #[.string (str k)] 9)) 9 (.string ⟨#[]⟩)).alloc (.cells #[.bool false] 4)).alloc (.cells #[.slice a len cap] 22)
  have bS := (Boxed.new ((w.alloc (.cells #[.string (str k)] 9)).alloc (.cells #[.string ⟨#[]⟩] 9)) 4 (.bool false)).alloc (.cells #[.slice a len cap] 22)
  have bN := Boxed.new (((w.alloc (.cells #[.string (str k)] 9)).alloc (.cells #[.string ⟨#[]⟩] 9)).alloc (.cells #[.bool false] 4)) 22 (.slice a len cap)
  simp only [World.size_alloc] at bR bS bN
  have hN0 : Nw w ((((w.alloc (.cells #[.string (str k)] 9)).alloc (.cells #[.string ⟨#[]⟩] 9)).alloc (.cells #[.bool false] 4)).alloc (.cells #[.slice a len cap] 22)) := ((((Fr.refl _ _).alloc _).alloc _).alloc _).alloc _
  have hB0 : Below w.heap.size w ((((w.alloc (.cells #[.string (str k)] 9)).alloc (.cells #[.string ⟨#[]⟩] 9)).alloc (.cells #[.bool false] 4)).alloc (.cells #[.slice a len cap] 22)) := nw_below hN0
  have hsz : ((((w.alloc (.cells #[.string (str k)] 9)).alloc (.cells #[.string ⟨#[]⟩] 9)).alloc (.cells #[.bool false] 4)).alloc (.cells #[.slice a len cap] 22)).heap.size = w.heap.size + 4 := by simp
  obtain ⟨W0, hW0⟩ : ∃ W0, (((w.alloc (.cells #[.string (str k)] 9)).alloc (.cells #[.string ⟨#[]⟩] 9)).alloc (.cells #[.bool false] 4)).alloc (.cells #[.slice a len cap] 22) = W0 := ⟨_, rfl⟩
  rw [hW0] at bK bR bS bN hN0 hB0 hsz ⊢
  clear hW0
  refine wpIn_rangeFunc_ownH (α := Nat × Pr) rfl (by decide) (gf := 32) (lb := #[.pointer (some ⟨w.heap.size + 1 + 1 + 1, 0, none⟩)]) rfl trivial (enters_of Tryz.func32 (by kernel_rfl) rfl)
    (back_stops _ (by decide) (w.heap.size + 1 + 1 + 1) _ l hlen W0 (by omega) bN.cell (hl.nw hN0)) belowK_t (belowK_b (Nat.le_refl _)) (Below.refl _ _) (fun _ => rfl)
    (fun pre W => (∀ p ∈ pre, p.2.1 ≠ k) ∧ Below W0.heap.size W0 W)
    (fun c pre W => (c = .ret ∧ ∃ ini last, pre = ini ++ [last] ∧ (∀ p ∈ ini, p.2.1 ≠ k) ∧ last.2.1 = k ∧ Boxed W (w.heap.size + 1) 9 (.string (str last.2.2)) ∧ Boxed W (w.heap.size + 1 + 1) 4 (.bool true)) ∧ Below w.heap.size w W)
    (OwnFrom.and (ownFrom_pure _ _) (ownFrom_below (Nat.le_refl _) (Nat.le_refl _)))
    ?hIx
    ⟨by simp, Below.refl _ _⟩
    (fun x a' W => ∃ Bx, w.heap.size + 1 + 1 < Bx ∧ (W.heap[Bx]? = some (.cells (prC x.2) 28)) ∧ a' = { tmps := #[.slice a len cap, .string (str k), undef, .pointer (some ⟨w.heap.size, 0, none⟩), .pointer (some ⟨w.heap.size + 1, 0, none⟩), .pointer (some ⟨w.heap.size + 1 + 1, 0, none⟩), undef, .pointer (some ⟨Bx, 0, none⟩), .slice a len cap, .func (.func 32) #[] #[.pointer (some ⟨w.heap.size + 1 + 1 + 1, 0, none⟩)], .int .i64 (x.1 : Int), .agg (prC x.2), undef, undef, undef, undef, undef, undef], defers := [] })
    ?hAx ?assign ?body ?done ?stop
  case hIx =>
    intro c
    refine OwnFrom.and (Own.from (fun s A B row hs hg hr => ?_) _) (ownFrom_below (Nat.le_refl _) (by omega))
    obtain ⟨hc, ini, last, e1, e2, e3, e4, e5⟩ := hs
    exact ⟨hc, ini, last, e1, e2, e3, boxed_own _ 9 (fun (_ : Unit) => Value.string (str last.2.2)) () A B row e4 hg hr, boxed_own _ 4 (fun (_ : Unit) => Value.bool true) () A B row e5 hg hr⟩
  case hAx =>
    intro x a' u X Y row hs hg hr
    obtain ⟨Bx, p1, p2, p3⟩ := hs
    refine ⟨Bx, p1, (hg.block Bx (Array.getElem?_eq_some_iff.1 p2).1 (fun e' => ?_)).trans p2, p3⟩
    obtain ⟨_, o, ho, hc⟩ := hr Bx e'.symm
    rw [p2] at ho
    cases ho
    cases hc
  case assign =>
    rintro lp pre ⟨xi, xk, xv⟩ W K ⟨hp, hB⟩ hK
    have hsW := hB.size
    simp only [prC] at hK ⊢
    gi_wp2
    exact hK _ _ ((KeepsOthers.alloc _ _).from _) ((Below.refl _ W).alloc hsW _) ⟨hp, hB.alloc hsW _⟩ ⟨W.heap.size, by omega, World.alloc_heap_new W _, rfl⟩
  case body =>
    rintro lp pre x a' W hlp _ ⟨hp, hB⟩ ⟨Bx, hBx, hx, rfl⟩ hlt
    have hsW := hB.size
    have bK1 : Boxed W w.heap.size 9 (.string (str k)) := (hB.block _ (by omega)).trans bK
    have bR1 : Boxed W (w.heap.size + 1) 9 (.string ⟨#[]⟩) := (hB.block _ (by omega)).trans bR
    have bS1 : Boxed W (w.heap.size + 1 + 1) 4 (.bool false) := (hB.block _ (by omega)).trans bS
    have cK := bK1.cell
    have cR := bR1.cell
    have fR := bR1.frozen
    have cS := bS1.cell
    have fS := bS1.frozen
    have c0 : W.cell? ⟨Bx, 0, none⟩ = some (.string (str x.2.1)) := by unfold World.cell?; rw [hx]; rfl
    have c1 : W.cell? ⟨Bx, 1, none⟩ = some (.string (str x.2.2)) := by unfold World.cell?; rw [hx]; rfl
    have bq := str_beq x.2.1 k
    have hBw : Below w.heap.size w W := hB0.trans (hB.mono (by omega))
    by_cases heq : x.2.1 = k
    · rw [decide_eq_true heq] at bq
      gi_wp2
      exact ⟨((KeepsOthers.setCell _ _ _).trans (KeepsOthers.setCell _ _ _)).from _, ⟨rfl, pre, x, rfl, hp, heq, (bR1.set _).other (by omega) _, (bS1.other (by omega) _).set _⟩, (hBw.setCell (p := ⟨w.heap.size + 1, 0, none⟩) (Nat.le_add_right _ _) _).setCell (p := ⟨w.heap.size + 1 + 1, 0, none⟩) (Nat.le_add_right _ 2) _⟩
    · rw [decide_eq_false heq] at bq
      gi_wp2
      exact ⟨KeepsFrom.refl _ _, Below.refl _ _, fun p hp' => (List.mem_append.1 hp').elim (hp p) (fun e => by rw [List.mem_singleton] at e; subst e; exact heq), hB⟩
  case done =>
    rintro D ys W hD rfl ⟨hp, hB⟩ hK
    have bR1 : Boxed W (w.heap.size + 1) 9 (.string ⟨#[]⟩) := (hB.block _ (by omega)).trans bR
    have bS1 : Boxed W (w.heap.size + 1 + 1) 4 (.bool false) := (hB.block _ (by omega)).trans bS
    have cR := bR1.cell
    have fR := bR1.frozen
    have cS := bS1.cell
    have fS := bS1.frozen
    have hBw : Below w.heap.size w W := hB0.trans (hB.mono (by omega))
    gi_wp2
    have hK' := ((KeepsOthers.setCell W ⟨w.heap.size + 1, 0, none⟩ (.string ⟨#[]⟩)).trans (KeepsOthers.setCell _ ⟨w.heap.size + 1 + 1, 0, none⟩ (.bool false))).same D _ hK rfl
    have hR2 := ((bR1.set (.string ⟨#[]⟩)).other (B' := w.heap.size + 1 + 1) (by omega) (.bool false)).cell
    have hS2 := ((bS1.other (B' := w.heap.size + 1) (by omega) (.string ⟨#[]⟩)).set (.bool false)).cell
    refine ⟨by simp, .inl ⟨_, _, rfl, run_takeDeferred hK', ?_⟩⟩
    have hc5 := cell_kept hR2 (grownBy_putObj' _ D (.deferred none)) (fun r e => by cases e; exact ⟨_, hK', rfl⟩)
    have hc6 := cell_kept hS2 (grownBy_putObj' _ D (.deferred none)) (fun r e => by cases e; exact ⟨_, hK', rfl⟩)
    refine ⟨fdV none, ?_, .inl ⟨rfl, hp⟩, ((hBw.setCell (p := ⟨w.heap.size + 1, 0, none⟩) (Nat.le_add_right _ _) _).setCell (p := ⟨w.heap.size + 1 + 1, 0, none⟩) (Nat.le_add_right _ 2) _).trans (belowK_b (w := w) (Nat.le_refl _) _ D _ _ (by omega) hK' rfl rfl)⟩
    simp [results, Tryz.f8, go_sem, hc5, hc6, fdV]
  case stop =>
    rintro D c pre W hD ⟨K, hK1, rfl⟩ ⟨⟨rfl, ini, last, e1, e2, e3, e4, e5⟩, hBw⟩ hK
    gi_wp2
    refine ⟨by simp, .inl ⟨_, _, rfl, run_takeDeferred hK, ?_⟩⟩
    have hc5 := cell_kept e4.cell (grownBy_putObj' _ D (.deferred none)) (fun r e => by cases e; exact ⟨_, hK, rfl⟩)
    have hc6 := cell_kept e5.cell (grownBy_putObj' _ D (.deferred none)) (fun r e => by cases e; exact ⟨_, hK, rfl⟩)
    refine ⟨fdV (some last.2.2), ?_, .inr ⟨K, ini, last, hK1, e1, e2, e3, rfl⟩, hBw.trans (belowK_b (w := w) (Nat.le_refl _) W D _ _ (by omega) hK rfl rfl)⟩
    simp [results, Tryz.f8, go_sem, hc5, hc6, fdV]
theorem bkw_none (l : List Pr) (k : Bs) (K : Nat) (hK : K ≤ l.length) (h : ∀ p ∈ bkw l K, p.2.1 ≠ k) : fndV l k = fndV (l.take (l.length - K)) k := by
  induction K with
  | zero => rw [Nat.sub_zero, List.take_length]
  | succ K ih =>
    obtain ⟨m, hm⟩ : ∃ m, m + 1 + K = l.length := ⟨l.length - 1 - K, by omega⟩
    have hml : m < l.length := by omega
    rw [bkw_succ l K m hml hm] at h
    rw [ih (by omega) (fun p hp => h p (List.mem_append_left _ hp)), show l.length - K = m + 1 by omega, fndV_take l k m hml, if_neg (h (m, l[m]) (by simp)), show l.length - (K + 1) = m by omega]
theorem bkw_some (l : List Pr) (k : Bs) (K : Nat) (hK : K ≤ l.length) (ini : List (Nat × Pr)) (last : Nat × Pr) (he : bkw l K = ini ++ [last]) (h : ∀ p ∈ ini, p.2.1 ≠ k) (hl : last.2.1 = k) : fndV l k = some last.2.2 := by
  cases K with
  | zero =>
    have := congrArg List.length he
    simp [bkw] at this
  | succ K =>
    obtain ⟨m, hm⟩ : ∃ m, m + 1 + K = l.length := ⟨l.length - 1 - K, by omega⟩
    have hml : m < l.length := by omega
    rw [bkw_succ l K m hml hm] at he
    obtain ⟨e1, e2⟩ := List.append_inj' he rfl
    injection e2 with e2 _
    subst e1 e2
    rw [bkw_none l k K (by omega) h, show l.length - K = m + 1 by omega, fndV_take l k m hml, if_pos hl]
theorem find_any {X : Nat → Prop} (w : World) (va : Value) (l : List Pr) (k : Bs) (hl : SlR RP X va l w) (hlen : l.length ≤ 1000000000) : Calls Tryz.prog 8 #[va, .string (str k)] w fun e w' => e = .returned (fdV (fndV l k)) ∧ Nw w w' := by
  obtain ⟨a, c, rfl, _⟩ := hl.form
  refine (callsIn_wide (n := 3)).1 ((find_in w a l.length c l k hl.anyP hlen).mono ?_)
  rintro e W' ⟨h, hB⟩
  refine ⟨?_, below_nw hB⟩
  rcases h with ⟨rfl, h⟩ | ⟨K, ini, last, h1, h2, h3, h4, rfl⟩
  · rw [bkw_none l k l.length (Nat.le_refl _) h, Nat.sub_self, List.take_zero]
    rfl
  · rw [bkw_some l k K h1 ini last h2 h3 h4]
end Go.Proofs.YtenkchhlaphocaaGreatDoor

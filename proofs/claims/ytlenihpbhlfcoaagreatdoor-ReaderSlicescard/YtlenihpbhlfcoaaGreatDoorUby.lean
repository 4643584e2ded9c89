import Derived.RangeFuncNested
import Derived.RangeFuncBound
import Derived.Shelf.RegionOpen
import Derived.OwnWalkIn
import Derived.LoopNIn
import Derived.LoopIn
import Derived.Test.YtlenihpbhlfcoaaGreatDoorUan
set_option maxHeartbeats 8000000
set_option maxRecDepth 100000
set_option linter.unusedSimpArgs false
set_option linter.unusedVariables false
namespace Go.Proofs.YtlenihpbhlfcoaaGreatDoor
open Go.RowKit Go.Shelf
attribute [local go_sem] Oper.semAt_some
def bkw (l : List Pr) (k : Nat) : List (Nat × Pr) := (List.range k).map (fun j => (l.length - 1 - j, l[l.length - 1 - j]?.getD ([], [])))
theorem bkw_succ (l : List Pr) (k m : Nat) (hm : m < l.length) (hk : m + 1 + k = l.length) : bkw l (k + 1) = bkw l k ++ [(m, l[m])] := by
 unfold bkw;rw [List.range_succ, List.map_append, List.map_singleton, show l.length - 1 - k = m by omega, List.getElem?_eq_getElem hm];rfl
theorem bkw_length (l : List Pr) (k : Nat) : (bkw l k).length = k := by simp [bkw]
theorem back1_in (n : Nat) (hn : 1 ≤ n) (lp Bs n₀ g o cap : Nat) (l : List Pr) (hlen : l.length ≤ 1000000000) (hb : 0 < l.length → g < n₀) (hBs0 : Bs < n₀) (J Jx : List (Nat × Pr) → World → Prop)
  (hY : ∀ pre x W, J pre W → pre.length < l.length → YieldAt Fence.wide (n - 1) Tryz.prog lp #[.int .i64 (x.1 : Int), .agg (prC x.2)] W fun e W' =>
   (e = .returned (.bool true) ∧ J (pre ++ [x]) W' ∧ Below n₀ W W') ∨ (e = .returned (.bool false) ∧ Jx (pre ++ [x]) W'))
  (W : World) (hBs : W.cell? ⟨Bs, 0, none⟩ = some (.slice (some ⟨g, o, none⟩) l.length cap)) (hc : ∀ j (hj : j < l.length), W.cell? ⟨g, o + j * 2, none⟩ = some (.string (str l[j].1)) ∧ W.cell? ⟨g, o + j * 2 + 1, none⟩ = some (.string (str l[j].2))) (h0 : J [] W) :
  CallsIn Fence.wide n Tryz.prog 140 #[.func (.yield lp) #[] #[], .pointer (some ⟨Bs, 0, none⟩)] W fun e W' => (∃ v, e = .returned v) ∧
   ((∃ ys, ys = bkw l l.length ∧ J ys W') ∨ (∃ pre, (∃ k, k ≤ l.length ∧ pre = bkw l k) ∧ Jx pre W')) := by
 refine callsIn_of_wp Tryz.func140 rfl trivial ?_ rfl;simp only [Tryz.ntmps140, List.size_toArray, List.length_cons, List.length_nil, Nat.reduceAdd, Nat.reduceSub, Array.replicate_succ, Array.replicate_zero, List.push_toArray, List.append_toArray, List.nil_append, List.cons_append]
 gi_wp2
 gi_loopw [3] (fun i wr => ∃ (k : Nat) (x : Int), k ≤ l.length ∧ i = .int .i64 x ∧ x + 1 + (k : Int) = (l.length : Int) ∧ J (bkw l k) wr ∧ Below n₀ W wr)
  (fun i _ => (intOf i + 1).toNat)
 case atStart => exact ⟨0, _, Nat.zero_le _, rfl, by omega, h0, Below.refl _ _⟩
 case round =>
  obtain ⟨k, x, hk, rfl, hx, hJs, hnx⟩ := hrel;have hBs' := (hnx.cell (p := ⟨Bs, 0, none⟩) hBs0).trans hBs;by_cases hlt : k < l.length
  ·obtain ⟨m, hm⟩ : ∃ m, m + 1 + k = l.length := ⟨l.length - 1 - k, by omega⟩;have hml : m < l.length := by omega
   obtain rfl : x = (m : Int) := by omega
   obtain ⟨q0, q1⟩ := hc m hml;have q0' := (hnx.cell (p := ⟨g, o + m * 2, none⟩) (hb (by omega))).trans q0;have q1' := (hnx.cell (p := ⟨g, o + m * 2 + 1, none⟩) (hb (by omega))).trans q1;obtain ⟨fn, tmps, assign, body, hy, hR⟩ := hY _ (m, l[m]) wr hJs (by rw [bkw_length]; exact hlt)
   dsimp only [prC] at hy
   have hmi : (m : Int) < (l.length : Int) := by omega
   gi_wp2
   refine hR.mono ?_;rintro e W3 (⟨rfl, hJ3, hk3⟩ | ⟨rfl, hJx3⟩)
   ·gi_wp2
    go_roundw
    case rel => exact ⟨k + 1, _, by omega, rfl, by omega, by rw [bkw_succ l k m hml hm]; exact hJ3, hnx.trans hk3⟩
    case measure => first | (simp [intOf]; done) | (simp [intOf]; omega)
   ·gi_wp2
    refine bodyPost_ret (results_none rfl _ _ _) rfl ?_;exact ⟨⟨_, rfl⟩, .inr ⟨_, ⟨k + 1, by omega, (bkw_succ l k m hml hm).symm⟩, hJx3⟩⟩
  ·obtain rfl : k = l.length := by omega
   obtain rfl : x = -1 := by omega
   gi_wp2
   go_end0
   exact ⟨⟨_, rfl⟩, .inl ⟨_, rfl, hJs⟩⟩
theorem back1_nil_in (n : Nat) (lp Bs : Nat) (a : Option Addr) (J : List (Nat × Pr) → World → Prop) (W : World) (hBs : W.cell? ⟨Bs, 0, none⟩ = some (.slice a 0 0)) (h0 : J [] W) :
  CallsIn Fence.wide n Tryz.prog 140 #[.func (.yield lp) #[] #[], .pointer (some ⟨Bs, 0, none⟩)] W fun e W' => (∃ v, e = .returned v) ∧ J [] W' := by
 refine callsIn_of_wp Tryz.func140 rfl trivial ?_ rfl;simp only [Tryz.ntmps140, List.size_toArray, List.length_cons, List.length_nil, Nat.reduceAdd, Nat.reduceSub, Array.replicate_succ, Array.replicate_zero, List.push_toArray, List.append_toArray, List.nil_append, List.cons_append]
 gi_wp2
 gi_loopw [3] (fun i wr => i = .int .i64 (-1) ∧ J [] wr) (fun _ _ => 0)
 case atStart => exact ⟨rfl, h0⟩
 case round =>
  obtain ⟨rfl, hJs⟩ := hrel
  gi_wp2
  go_end0
  exact ⟨⟨_, rfl⟩, hJs⟩
theorem back_in (n : Nat) (a : Option Addr) (len cap : Nat) (w : World) :
  CallsIn Fence.wide n Tryz.prog 111 #[.slice a len cap] w fun e w' => e = .returned (.func (.func 140) #[] #[.pointer (some ⟨w.heap.size, 0, none⟩)]) ∧ w' = w.alloc (.cells #[.slice a len cap] 34) := by
 refine callsIn_of_wp Tryz.func111 rfl trivial ?_ rfl;simp only [Tryz.ntmps111, List.size_toArray, List.length_cons, List.length_nil, Nat.reduceAdd, Nat.reduceSub, Array.replicate_succ, Array.replicate_zero, List.push_toArray, List.append_toArray, List.nil_append, List.cons_append]
 gi_wp2
 go_ret
 exact ⟨rfl, rfl⟩
theorem back_stops (n : Nat) (hn : 1 ≤ n) (Bs : Nat) (sv : Value) (l : List Pr) (hlen : l.length ≤ 1000000000) (w : World) (hBs : Bs < w.heap.size) (hc : w.cell? ⟨Bs, 0, none⟩ = some sv) (hI : SlR RP (fun _ => False) sv l w) :
  SeqStopsK Fence.wide n Tryz.prog 140 #[.pointer (some ⟨Bs, 0, none⟩)] (fun x : Nat × Pr => #[Value.int .i64 (x.1 : Int), .agg (prC x.2)]) (Below w.heap.size) (fun ys => ys = bkw l l.length)
   (fun pre => ∃ k, k ≤ l.length ∧ pre = bkw l k) l.length w := fun lp J Jx W hW _ _ hY h0 => by
 have hc' := (hW.cell (p := ⟨Bs, 0, none⟩) hBs).trans hc;rcases hI with ⟨a, rfl, rfl⟩ | ⟨g, o, c, _, rfl, h3, h4, h5⟩
 ·exact (back1_nil_in n lp Bs a J W hc' h0).mono fun e W' ⟨he, hj⟩ => ⟨he, .inl ⟨_, rfl, hj⟩⟩
 ·have hcell : ∀ j (hj : j < l.length), w.cell? ⟨g, o + j * 2, none⟩ = some (.string (str l[j].1)) ∧ w.cell? ⟨g, o + j * 2 + 1, none⟩ = some (.string (str l[j].2)) := fun j hj => by
   have a0 := h5 j l[j] 0 _ (List.getElem?_eq_getElem hj) rfl;have a1 := h5 j l[j] 1 _ (List.getElem?_eq_getElem hj) rfl;simp only [RP, Nat.add_zero] at a0 a1;exact ⟨a0, a1⟩
  have hg : 0 < l.length → g < w.heap.size := fun h => by
   have := (hcell 0 h).1;unfold World.cell? at this;rcases Nat.lt_or_ge g w.heap.size with hl | hl
   ·exact hl
   ·rw [Array.getElem?_eq_none hl] at this;cases this
  exact back1_in n hn lp Bs w.heap.size g o c l hlen hg hBs J Jx hY W hc' (fun j hj => ⟨(hW.cell (p := ⟨g, o + j * 2, none⟩) (hg (by omega))).trans (hcell j hj).1, (hW.cell (p := ⟨g, o + j * 2 + 1, none⟩) (hg (by omega))).trans (hcell j hj).2⟩) h0
end Go.Proofs.YtlenihpbhlfcoaaGreatDoor
namespace Go.Proofs.YtlenihpbhlfcoaaGreatDoor
open Go.RowKit Go.Shelf
attribute [local go_sem] Oper.semAt_some
theorem find_in (w : World) (a : Option Addr) (len cap : Nat) (l : List Pr) (k : Bs) (hl : SlR RP (fun _ => False) (.slice a len cap) l w) (hlen : l.length ≤ 1000000000) :
  CallsIn Fence.wide 3 Tryz.prog 84 #[.slice a len cap, .string (str k)] w fun e W' => (((e = .returned (fdV none) ∧ ∀ p ∈ bkw l l.length, p.2.1 ≠ k) ∨ ∃ K ini last, K ≤ l.length ∧ bkw l K = ini ++ [last] ∧ (∀ p ∈ ini, p.2.1 ≠ k) ∧ last.2.1 = k ∧ e = .returned (fdV (some last.2.2))) ∧ Below w.heap.size w W') := by
 refine callsIn_of_wp_marks Tryz.func84 rfl trivial ?_ rfl;simp only [Tryz.ntmps84, List.size_toArray, List.length_cons, List.length_nil, Nat.reduceAdd, Nat.reduceSub, Array.replicate_succ, Array.replicate_zero, List.push_toArray, List.append_toArray, List.nil_append, List.cons_append]
 gi_wp2_with (refine ⟨trivial, ?_⟩; gi_at_call 111; refine (back_in _ _ _ _ _).mono ?_; rintro e w' ⟨rfl, rfl⟩)
 have bK := (((Boxed.new w 9 (.string (str k))).alloc (.cells #[.string ⟨#[]⟩] 9)).alloc (.cells #[.bool false] 4)).alloc (.cells #[.slice a len cap] 34);have bR := ((Boxed.new (w.alloc (.cells #[.string (str k)] 9)) 9 (.string ⟨#[]⟩)).alloc (.cells #[.bool false] 4)).alloc (.cells #[.slice a len cap] 34);have bS := (Boxed.new ((w.alloc (.cells #[.string (str k)] 9)).alloc (.cells #[.string ⟨#[]⟩] 9)) 4 (.bool false)).alloc (.cells #[.slice a len cap] 34)
 have bN := Boxed.new (((w.alloc (.cells #[.string (str k)] 9)).alloc (.cells #[.string ⟨#[]⟩] 9)).alloc (.cells #[.bool false] 4)) 34 (.slice a len cap);simp only [World.size_alloc] at bR bS bN;have hN0 : Nw w ((((w.alloc (.cells #[.string (str k)] 9)).alloc (.cells #[.string ⟨#[]⟩] 9)).alloc (.cells #[.bool false] 4)).alloc (.cells #[.slice a len cap] 34)) := ((((Fr.refl _ _).alloc _).alloc _).alloc _).alloc _
 have hB0 : Below w.heap.size w ((((w.alloc (.cells #[.string (str k)] 9)).alloc (.cells #[.string ⟨#[]⟩] 9)).alloc (.cells #[.bool false] 4)).alloc (.cells #[.slice a len cap] 34)) := nw_below hN0;have hsz : ((((w.alloc (.cells #[.string (str k)] 9)).alloc (.cells #[.string ⟨#[]⟩] 9)).alloc (.cells #[.bool false] 4)).alloc (.cells #[.slice a len cap] 34)).heap.size = w.heap.size + 4 := by simp
 obtain ⟨W0, hW0⟩ : ∃ W0, (((w.alloc (.cells #[.string (str k)] 9)).alloc (.cells #[.string ⟨#[]⟩] 9)).alloc (.cells #[.bool false] 4)).alloc (.cells #[.slice a len cap] 34) = W0 := ⟨_, rfl⟩;rw [hW0] at bK bR bS bN hN0 hB0 hsz ⊢;clear hW0;refine wpIn_rangeFunc_ownH (α := Nat × Pr) rfl (by decide) (gf := 140) (lb := #[.pointer (some ⟨w.heap.size + 1 + 1 + 1, 0, none⟩)]) rfl trivial (enters_of Tryz.func140 (by kernel_rfl) rfl)
  (back_stops _ (by decide) (w.heap.size + 1 + 1 + 1) _ l hlen W0 (by omega) bN.cell (hl.nw hN0)) belowK_t (belowK_b (Nat.le_refl _)) (Below.refl _ _) (fun _ => rfl)
  (fun pre W => (∀ p ∈ pre, p.2.1 ≠ k) ∧ Below W0.heap.size W0 W)
  (fun c pre W => (c = .ret ∧ ∃ ini last, pre = ini ++ [last] ∧ (∀ p ∈ ini, p.2.1 ≠ k) ∧ last.2.1 = k ∧ Boxed W (w.heap.size + 1) 9 (.string (str last.2.2)) ∧ Boxed W (w.heap.size + 1 + 1) 4 (.bool true)) ∧ Below w.heap.size w W)
  (OwnFrom.and (ownFrom_pure _ _) (ownFrom_below (Nat.le_refl _) (Nat.le_refl _)))
  ?hIx
  ⟨by simp, Below.refl _ _⟩
  (fun x a' W => ∃ Bx, w.heap.size + 1 + 1 < Bx ∧ (W.heap[Bx]? = some (.cells (prC x.2) 56)) ∧ a' = { tmps := #[.slice a len cap, .string (str k), undef, .pointer (some ⟨w.heap.size, 0, none⟩), .pointer (some ⟨w.heap.size + 1, 0, none⟩), .pointer (some ⟨w.heap.size + 1 + 1, 0, none⟩), undef, .pointer (some ⟨Bx, 0, none⟩), .slice a len cap, .func (.func 140) #[] #[.pointer (some ⟨w.heap.size + 1 + 1 + 1, 0, none⟩)], .int .i64 (x.1 : Int), .agg (prC x.2), undef, undef, undef, undef, undef, undef], defers := [] })
  ?hAx ?assign ?body ?done ?stop
 case hIx =>
  intro c;refine OwnFrom.and (Own.from (fun s A B row hs hg hr => ?_) _) (ownFrom_below (Nat.le_refl _) (by omega));obtain ⟨hc, ini, last, e1, e2, e3, e4, e5⟩ := hs;exact ⟨hc, ini, last, e1, e2, e3, boxed_own _ 9 (fun (_ : Unit) => Value.string (str last.2.2)) () A B row e4 hg hr, boxed_own _ 4 (fun (_ : Unit) => Value.bool true) () A B row e5 hg hr⟩
 case hAx =>
  intro x a' u X Y row hs hg hr;obtain ⟨Bx, p1, p2, p3⟩ := hs;refine ⟨Bx, p1, (hg.block Bx (Array.getElem?_eq_some_iff.1 p2).1 (fun e' => ?_)).trans p2, p3⟩;obtain ⟨_, o, ho, hc⟩ := hr Bx e'.symm;rw [p2] at ho;cases ho;cases hc
 case assign =>
  rintro lp pre ⟨xi, xk, xv⟩ W K ⟨hp, hB⟩ hK;have hsW := hB.size;simp only [prC] at hK ⊢
  gi_wp2
  exact hK _ _ ((KeepsOthers.alloc _ _).from _) ((Below.refl _ W).alloc hsW _) ⟨hp, hB.alloc hsW _⟩ ⟨W.heap.size, by omega, World.alloc_heap_new W _, rfl⟩
 case body =>
  rintro lp pre x a' W hlp _ ⟨hp, hB⟩ ⟨Bx, hBx, hx, rfl⟩ hlt;have hsW := hB.size;have bK1 : Boxed W w.heap.size 9 (.string (str k)) := (hB.block _ (by omega)).trans bK;have bR1 : Boxed W (w.heap.size + 1) 9 (.string ⟨#[]⟩) := (hB.block _ (by omega)).trans bR;have bS1 : Boxed W (w.heap.size + 1 + 1) 4 (.bool false) := (hB.block _ (by omega)).trans bS;have cK := bK1.cell;have cR := bR1.cell;have fR := bR1.frozen;have cS := bS1.cell;have fS := bS1.frozen;have c0 : W.cell? ⟨Bx, 0, none⟩ = some (.string (str x.2.1)) := by unfold World.cell?; rw [hx]; rfl
  have c1 : W.cell? ⟨Bx, 1, none⟩ = some (.string (str x.2.2)) := by unfold World.cell?; rw [hx]; rfl
  have bq := str_beqJ x.2.1 k;have hBw : Below w.heap.size w W := hB0.trans (hB.mono (by omega));by_cases heq : x.2.1 = k
  ·rw [decide_eq_true heq] at bq
   gi_wp2
   exact ⟨((KeepsOthers.setCell _ _ _).trans (KeepsOthers.setCell _ _ _)).from _, ⟨rfl, pre, x, rfl, hp, heq, (bR1.set _).other (by omega) _, (bS1.other (by omega) _).set _⟩, (hBw.setCell (p := ⟨w.heap.size + 1, 0, none⟩) (Nat.le_add_right _ _) _).setCell (p := ⟨w.heap.size + 1 + 1, 0, none⟩) (Nat.le_add_right _ 2) _⟩
  ·rw [decide_eq_false heq] at bq
   gi_wp2
   exact ⟨KeepsFrom.refl _ _, Below.refl _ _, fun p hp' => (List.mem_append.1 hp').elim (hp p) (fun e => by rw [List.mem_singleton] at e; subst e; exact heq), hB⟩
 case done =>
  rintro D ys W hD rfl ⟨hp, hB⟩ hK;have bR1 : Boxed W (w.heap.size + 1) 9 (.string ⟨#[]⟩) := (hB.block _ (by omega)).trans bR;have bS1 : Boxed W (w.heap.size + 1 + 1) 4 (.bool false) := (hB.block _ (by omega)).trans bS;have cR := bR1.cell;have fR := bR1.frozen;have cS := bS1.cell;have fS := bS1.frozen;have hBw : Below w.heap.size w W := hB0.trans (hB.mono (by omega))
  gi_wp2
  have hK' := ((KeepsOthers.setCell W ⟨w.heap.size + 1, 0, none⟩ (.string ⟨#[]⟩)).trans (KeepsOthers.setCell _ ⟨w.heap.size + 1 + 1, 0, none⟩ (.bool false))).same D _ hK rfl;have hR2 := ((bR1.set (.string ⟨#[]⟩)).other (B' := w.heap.size + 1 + 1) (by omega) (.bool false)).cell;have hS2 := ((bS1.other (B' := w.heap.size + 1) (by omega) (.string ⟨#[]⟩)).set (.bool false)).cell;refine ⟨by simp, .inl ⟨_, _, rfl, run_takeDeferred hK', ?_⟩⟩;have hc5 := cell_kept hR2 (grownBy_putObj' _ D (.deferred none)) (fun r e => by cases e; exact ⟨_, hK', rfl⟩)
  have hc6 := cell_kept hS2 (grownBy_putObj' _ D (.deferred none)) (fun r e => by cases e; exact ⟨_, hK', rfl⟩);refine ⟨fdV none, ?_, .inl ⟨rfl, hp⟩, ((hBw.setCell (p := ⟨w.heap.size + 1, 0, none⟩) (Nat.le_add_right _ _) _).setCell (p := ⟨w.heap.size + 1 + 1, 0, none⟩) (Nat.le_add_right _ 2) _).trans (belowK_b (w := w) (Nat.le_refl _) _ D _ _ (by omega) hK' rfl rfl)⟩;simp [results, Tryz.f84, go_sem, hc5, hc6, fdV]
 case stop =>
  rintro D c pre W hD ⟨K, hK1, rfl⟩ ⟨⟨rfl, ini, last, e1, e2, e3, e4, e5⟩, hBw⟩ hK
  gi_wp2
  refine ⟨by simp, .inl ⟨_, _, rfl, run_takeDeferred hK, ?_⟩⟩;have hc5 := cell_kept e4.cell (grownBy_putObj' _ D (.deferred none)) (fun r e => by cases e; exact ⟨_, hK, rfl⟩);have hc6 := cell_kept e5.cell (grownBy_putObj' _ D (.deferred none)) (fun r e => by cases e; exact ⟨_, hK, rfl⟩);refine ⟨fdV (some last.2.2), ?_, .inr ⟨K, ini, last, hK1, e1, e2, e3, rfl⟩, hBw.trans (belowK_b (w := w) (Nat.le_refl _) W D _ _ (by omega) hK rfl rfl)⟩;simp [results, Tryz.f84, go_sem, hc5, hc6, fdV]
theorem bkw_none (l : List Pr) (k : Bs) (K : Nat) (hK : K ≤ l.length) (h : ∀ p ∈ bkw l K, p.2.1 ≠ k) : fndV l k = fndV (l.take (l.length - K)) k := by
 induction K with
 | zero => rw [Nat.sub_zero, List.take_length]
 | succ K ih =>
  obtain ⟨m, hm⟩ : ∃ m, m + 1 + K = l.length := ⟨l.length - 1 - K, by omega⟩;have hml : m < l.length := by omega
  rw [bkw_succ l K m hml hm] at h;rw [ih (by omega) (fun p hp => h p (List.mem_append_left _ hp)), show l.length - K = m + 1 by omega, fndV_take l k m hml, if_neg (h (m, l[m]) (by simp)), show l.length - (K + 1) = m by omega]
theorem bkw_some (l : List Pr) (k : Bs) (K : Nat) (hK : K ≤ l.length) (ini : List (Nat × Pr)) (last : Nat × Pr) (he : bkw l K = ini ++ [last]) (h : ∀ p ∈ ini, p.2.1 ≠ k) (hl : last.2.1 = k) : fndV l k = some last.2.2 := by
 cases K with
 | zero =>
  have := congrArg List.length he;simp [bkw] at this
 | succ K =>
  obtain ⟨m, hm⟩ : ∃ m, m + 1 + K = l.length := ⟨l.length - 1 - K, by omega⟩;have hml : m < l.length := by omega
  rw [bkw_succ l K m hml hm] at he;obtain ⟨e1, e2⟩ := List.append_inj' he rfl;injection e2 with e2 _;subst e1 e2;rw [bkw_none l k K (by omega) h, show l.length - K = m + 1 by omega, fndV_take l k m hml, if_pos hl]
theorem pfind_any {X : Nat → Prop} (w : World) (va : Value) (l : List Pr) (k : Bs) (hl : SlR RP X va l w) (hlen : l.length ≤ 1000000000) : Calls Tryz.prog 84 #[va, .string (str k)] w fun e w' => e = .returned (fdV (fndV l k)) ∧ Nw w w' := by
 obtain ⟨a, c, rfl, _⟩ := hl.form;refine (callsIn_wide (n := 3)).1 ((find_in w a l.length c l k hl.anyP hlen).mono ?_);rintro e W' ⟨h, hB⟩;refine ⟨?_, below_nw hB⟩;rcases h with ⟨rfl, h⟩ | ⟨K, ini, last, h1, h2, h3, h4, rfl⟩
 ·rw [bkw_none l k l.length (Nat.le_refl _) h, Nat.sub_self, List.take_zero];rfl
 ·rw [bkw_some l k K h1 ini last h2 h3 h4]
end Go.Proofs.YtlenihpbhlfcoaaGreatDoor

import Derived.RangeFuncNested
import Derived.RangeFuncBound
import Derived.RangeFuncCalls
import Derived.RangeFuncLeaves
import Derived.Shelf.Abstract
import Derived.Shelf.RegionOpen
import Derived.WalkKit
import Derived.OwnWalkIn
import Derived.TacticsInMore
import Derived.LoopNIn
import Derived.LoopIn
import Derived.Test.YtenkchhlaphocaaGreatDoorNkN
namespace Go.Proofs.YtenkchhlaphocaaGreatDoor
open Go.RowKit Go.Shelf
set_option linter.unusedVariables false
attribute [local go_sem] Oper.semAt_some
/-! ### slices.Backward at pairs -/
/-- What has come when k rounds are over. -/
def bkw (l : List Pr) (k : Nat) : List (Nat × Pr) := (List.range k).map (fun j => (l.length - 1 - j, l[l.length - 1 - j]?.getD ([], [])))
theorem bkw_succ (l : List Pr) (k m : Nat) (hm : m < l.length) (hk : m + 1 + k = l.length) : bkw l (k + 1) = bkw l k ++ [(m, l[m])] := by
  unfold bkw
  rw [List.range_succ, List.map_append, List.map_singleton, show l.length - 1 - k = m by omega, List.getElem?_eq_getElem hm]
  rfl
theorem bkw_length (l : List Pr) (k : Nat) : (bkw l k).length = k := by simp [bkw]
set_option maxRecDepth 100000 in
set_option maxHeartbeats 4000000 in
theorem back1_in (n : Nat) (hn : 1 ≤ n) (lp Bs n₀ g o cap : Nat) (l : List Pr) (hlen : l.length ≤ 1000000000) (hb : 0 < l.length → g < n₀) (hBs0 : Bs < n₀) (J Jx : List (Nat × Pr) → World → Prop)
    (hY : ∀ pre x W, J pre W → pre.length < l.length → YieldAt Fence.wide (n - 1) Tryz.prog lp #[.int .i64 (x.1 : Int), .agg (prC x.2)] W fun e W' =>
      (e = .returned (.bool true) ∧ J (pre ++ [x]) W' ∧ Below n₀ W W') ∨ (e = .returned (.bool false) ∧ Jx (pre ++ [x]) W'))
    (W : World) (hBs : W.cell? ⟨Bs, 0, none⟩ = some (.slice (some ⟨g, o, none⟩) l.length cap)) (hc : ∀ j (hj : j < l.length), W.cell? ⟨g, o + j * 2, none⟩ = some (.string (str l[j].1)) ∧ W.cell? ⟨g, o + j * 2 + 1, none⟩ = some (.string (str l[j].2))) (h0 : J [] W) :
    CallsIn Fence.wide n Tryz.prog 32 #[.func (.yield lp) #[] #[], .pointer (some ⟨Bs, 0, none⟩)] W fun e W' => (∃ v, e = .returned v) ∧
      ((∃ ys, ys = bkw l l.length ∧ J ys W') ∨ (∃ pre, (∃ k, k ≤ l.length ∧ pre = bkw l k) ∧ Jx pre W')) := by
  refine callsIn_of_wp Tryz.func32 rfl trivial ?_ rfl
  simp only [Tryz.ntmps32, List.size_toArray, List.length_cons, List.length_nil, Nat.reduceAdd, Nat.reduceSub, Array.replicate_succ, Array.replicate_zero, List.push_toArray, List.append_toArray, List.nil_append, List.cons_append]
  gi_wp2
  gi_loopw [3] (fun i wr => ∃ (k : Nat) (x : Int), k ≤ l.length ∧ i = .int .i64 x ∧ x + 1 + (k : Int) = (l.length : Int) ∧ J (bkw l k) wr ∧ Below n₀ W wr)
    (fun i _ => (intOf i + 1).toNat)
  case atStart => exact ⟨0, _, Nat.zero_le _, rfl, by omega, h0, Below.refl _ _⟩
  case round =>
    obtain ⟨k, x, hk, rfl, hx, hJs, hnx⟩ := hrel
    have hBs' := (hnx.cell (p := ⟨Bs, 0, none⟩) hBs0).trans hBs
    by_cases hlt : k < l.length
    · obtain ⟨m, hm⟩ : ∃ m, m + 1 + k = l.length := ⟨l.length - 1 - k, by omega⟩
      have hml : m < l.length := by omega
      obtain rfl : x = (m : Int) := by omega
      obtain ⟨q0, q1⟩ := hc m hml
      have q0' := (hnx.cell (p := ⟨g, o + m * 2, none⟩) (hb (by omega))).trans q0
      have q1' := (hnx.cell (p := ⟨g, o + m * 2 + 1, none⟩) (hb (by omega))).trans q1
      obtain ⟨fn, tmps, assign, body, hy, hR⟩ := hY _ (m, l[m]) wr hJs (by rw [bkw_length]; exact hlt)
      dsimp only [prC] at hy
      have hmi : (m : Int) < (l.length : Int) := by omega
      gi_wp2
      refine hR.mono ?_
      rintro e W3 (⟨rfl, hJ3, hk3⟩ | ⟨rfl, hJx3⟩)
      · gi_wp2
        go_roundw
        case rel => exact ⟨k + 1, _, by omega, rfl, by omega, by rw [bkw_succ l k m hml hm]; exact hJ3, hnx.trans hk3⟩
        case measure => first | (simp [intOf]; done) | (simp [intOf]; omega)
      · gi_wp2
        refine bodyPost_ret (results_none rfl _ _ _) rfl ?_
        exact ⟨⟨_, rfl⟩, .inr ⟨_, ⟨k + 1, by omega, (bkw_succ l k m hml hm).symm⟩, hJx3⟩⟩
    · obtain rfl : k = l.length := by omega
      obtain rfl : x = -1 := by omega
      gi_wp2
      go_end0
      exact ⟨⟨_, rfl⟩, .inl ⟨_, rfl, hJs⟩⟩
set_option maxRecDepth 100000 in
set_option maxHeartbeats 2000000 in
theorem back1_nil_in (n : Nat) (lp Bs : Nat) (a : Option Addr) (J : List (Nat × Pr) → World → Prop) (W : World) (hBs : W.cell? ⟨Bs, 0, none⟩ = some (.slice a 0 0)) (h0 : J [] W) :
    CallsIn Fence.wide n Tryz.prog 32 #[.func (.yield lp) #[] #[], .pointer (some ⟨Bs, 0, none⟩)] W fun e W' => (∃ v, e = .returned v) ∧ J [] W' := by
  refine callsIn_of_wp Tryz.func32 rfl trivial ?_ rfl
  simp only [Tryz.ntmps32, List.size_toArray, List.length_cons, List.length_nil, Nat.reduceAdd, Nat.reduceSub, Array.replicate_succ, Array.replicate_zero, List.push_toArray, List.append_toArray, List.nil_append, List.cons_append]
  gi_wp2
  gi_loopw [3] (fun i wr => i = .int .i64 (-1) ∧ J [] wr) (fun _ _ => 0)
  case atStart => exact ⟨rfl, h0⟩
  case round =>
    obtain ⟨rfl, hJs⟩ := hrel
    gi_wp2
    go_end0
    exact ⟨⟨_, rfl⟩, hJs⟩
set_option maxHeartbeats 1000000 in
theorem back_in (n : Nat) (a : Option Addr) (len cap : Nat) (w : World) :
    CallsIn Fence.wide n Tryz.prog 16 #[.slice a len cap] w fun e w' => e = .returned (.func (.func 32) #[] #[.pointer (some ⟨w.heap.size, 0, none⟩)]) ∧ w' = w.alloc (.cells #[.slice a len cap] 22) := by
  refine callsIn_of_wp Tryz.func16 rfl trivial ?_ rfl
  simp only [Tryz.ntmps16, List.size_toArray, List.length_cons, List.length_nil, Nat.reduceAdd, Nat.reduceSub, Array.replicate_succ, Array.replicate_zero, List.push_toArray, List.append_toArray, List.nil_append, List.cons_append]
  gi_wp2
  go_ret
  exact ⟨rfl, rfl⟩
theorem back_stops (n : Nat) (hn : 1 ≤ n) (Bs : Nat) (sv : Value) (l : List Pr) (hlen : l.length ≤ 1000000000) (w : World) (hBs : Bs < w.heap.size) (hc : w.cell? ⟨Bs, 0, none⟩ = some sv) (hI : SlR RP (fun _ => False) sv l w) :
    SeqStopsK Fence.wide n Tryz.prog 32 #[.pointer (some ⟨Bs, 0, none⟩)] (fun x : Nat × Pr => #[Value.int .i64 (x.1 : Int), .agg (prC x.2)]) (Below w.heap.size) (fun ys => ys = bkw l l.length)
      (fun pre => ∃ k, k ≤ l.length ∧ pre = bkw l k) l.length w := fun lp J Jx W hW _ _ hY h0 => by
  have hc' := (hW.cell (p := ⟨Bs, 0, none⟩) hBs).trans hc
  rcases hI with ⟨a, rfl, rfl⟩ | ⟨g, o, c, _, rfl, h3, h4, h5⟩
  · exact (back1_nil_in n lp Bs a J W hc' h0).mono fun e W' ⟨he, hj⟩ => ⟨he, .inl ⟨_, rfl, hj⟩⟩
  · have hcell : ∀ j (hj : j < l.length), w.cell? ⟨g, o + j * 2, none⟩ = some (.string (str l[j].1)) ∧ w.cell? ⟨g, o + j * 2 + 1, none⟩ = some (.string (str l[j].2)) := fun j hj => by
      have a0 := h5 j l[j] 0 _ (List.getElem?_eq_getElem hj) rfl
      have a1 := h5 j l[j] 1 _ (List.getElem?_eq_getElem hj) rfl
      simp only [RP, Nat.add_zero] at a0 a1
      exact ⟨a0, a1⟩
    have hg : 0 < l.length → g < w.heap.size := fun h => by
      have := (hcell 0 h).1
      unfold World.cell? at this
      rcases Nat.lt_or_ge g w.heap.size with hl | hl
      · exact hl
      · rw [Array.getElem?_eq_none hl] at this
        cases this
    exact back1_in n hn lp Bs w.heap.size g o c l hlen hg hBs J Jx hY W hc' (fun j hj => ⟨(hW.cell (p := ⟨g, o + j * 2, none⟩) (hg (by omega))).trans (hcell j hj).1, (hW.cell (p := ⟨g, o + j * 2 + 1, none⟩) (hg (by omega))).trans (hcell j hj).2⟩) h0
end Go.Proofs.YtenkchhlaphocaaGreatDoor

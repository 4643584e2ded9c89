import Derived.Test.YtenkchhlaphocaaGreatDoorNkR
import Derived.Test.YtenkchhlaphocaaGreatDoorNkP
namespace Go.Proofs.YtenkchhlaphocaaGreatDoor
open Go.RowKit Go.Shelf
set_option linter.unusedVariables false
attribute [local go_sem] Oper.semAt_some
/-! ### inTurn: one list behind the other -/
/-- Below n, and but for one block, all is as it was. -/
structure Bel (mb B : Nat) (w w' : World) : Prop where
  os : w'.os = w.os
  tape : w'.tape = w.tape
  output : w'.output = w.output
  size : w.heap.size ≤ w'.heap.size
  block : ∀ k, k < B → k ≠ mb → w'.heap[k]? = w.heap[k]?
theorem Bel.refl (mb B : Nat) (w : World) : Bel mb B w w := ⟨rfl, rfl, rfl, Nat.le_refl _, fun _ _ _ => rfl⟩
theorem Bel.trans {mb B : Nat} {a b c : World} (h : Bel mb B a b) (k : Bel mb B b c) : Bel mb B a c :=
  ⟨k.os.trans h.os, k.tape.trans h.tape, k.output.trans h.output, Nat.le_trans h.size k.size, fun i hi hm => (k.block i hi hm).trans (h.block i hi hm)⟩
theorem Bel.of {mb B : Nat} {a b : World} (h : Below B a b) : Bel mb B a b := ⟨h.os, h.tape, h.output, h.size, fun i hi _ => h.block i hi⟩
theorem Bel.alloc {mb B : Nat} {a b : World} (h : Bel mb B a b) (hs : B ≤ b.heap.size) (o : Obj) : Bel mb B a (b.alloc o) := h.trans (Bel.of ((Below.refl B b).alloc hs o))
theorem Bel.cell {mb B : Nat} {a b : World} (h : Bel mb B a b) {p : Addr} (hp : p.block < B) (hm : p.block ≠ mb) : b.cell? p = a.cell? p := World.cell?_of_block (h.block p.block hp hm)
theorem Bel.fr {mb : Nat} {a b : World} (h : Bel mb a.heap.size a b) : Fr (fun k => k = mb) a b := ⟨h.os, h.tape, h.output, h.size, fun i hi hm => h.block i hi hm⟩
set_option maxRecDepth 100000 in
set_option maxHeartbeats 8000000 in
theorem turn1_in (n : Nat) (hn : 1 ≤ n) (lp Bs n₀ gl mb : Nat) (va vb : Value) (b a : List Pr) (hlen : b.length + a.length ≤ 1000000000) (hgl : gl < n₀) (hgm : gl ≠ mb) (J Jx : List Pr → World → Prop)
    (hA : ∀ pre W o, J pre W → J pre (W.alloc o))
    (hY : ∀ pre x W, J pre W → pre ++ [x] <+: b ++ a → YieldAt Fence.wide (n - 1) Tryz.prog lp #[.agg (prC x)] W fun e W' =>
      (e = .returned (.bool true) ∧ J (pre ++ [x]) W' ∧ Bel mb n₀ W W') ∨ (e = .returned (.bool false) ∧ Jx (pre ++ [x]) W'))
    (W : World) (hn0 : n₀ ≤ W.heap.size) (hBs : W.cell? ⟨Bs, 0, none⟩ = some (.slice (some ⟨gl, 0, none⟩) 2 2)) (h1 : W.cell? ⟨gl, 0, none⟩ = some va) (h2 : W.cell? ⟨gl, 1, none⟩ = some vb)
    (hb : ∀ V, Bel mb n₀ W V → SlR RP (fun _ => False) va b V) (ha : ∀ V, Bel mb n₀ W V → SlR RP (fun _ => False) vb a V) (h0 : J [] W) :
    CallsIn Fence.wide n Tryz.prog 28 #[.func (.yield lp) #[] #[], .pointer (some ⟨Bs, 0, none⟩)] W fun e W' => (∃ v, e = .returned v) ∧
      ((∃ ys, ys = b ++ a ∧ J ys W') ∨ (∃ pre, pre <+: b ++ a ∧ Jx pre W')) := by
  obtain ⟨ab, cb, rfl, kb1, kb2, _⟩ := (hb W (Bel.refl _ _ _)).form
  obtain ⟨aa, ca, rfl, ka1, ka2, _⟩ := (ha W (Bel.refl _ _ _)).form
  refine callsIn_of_wp Tryz.func28 rfl trivial ?_ rfl
  simp only [Tryz.ntmps28, List.size_toArray, List.length_cons, List.length_nil, Nat.reduceAdd, Nat.reduceSub, Array.replicate_succ, Array.replicate_zero, List.push_toArray, List.append_toArray, List.nil_append, List.cons_append]
  gi_wp2
  gi_loopw [9] (fun i wr => ∃ (k : Nat), k ≤ 2 ∧ i = .int .i64 k ∧ J (([b, a].take k).flatten) wr ∧ Bel mb n₀ W wr)
    (fun i _ => 2 - (intOf i).toNat)
  case atStart => exact ⟨0, by omega, rfl, h0, Bel.refl _ _ _⟩
  case round =>
    obtain ⟨k, hk, rfl, hJs, hnx⟩ := hrel
    have c0 := (hnx.cell (p := ⟨gl, 0, none⟩) hgl hgm).trans h1
    have c1 := (hnx.cell (p := ⟨gl, 1, none⟩) hgl hgm).trans h2
    rcases (show k = 0 ∨ k = 1 ∨ k = 2 by omega) with rfl | rfl | rfl
    · have hJ0 : J (([] : List Pr)) wr := by simpa using hJs
      gi_wp2
      gi_loopw [15] (fun i wr2 => ∃ j : Nat, j ≤ b.length ∧ i = .int .i64 j ∧ J (([] : List Pr) ++ b.take j) wr2 ∧ Bel mb n₀ W wr2) (fun i _ => b.length - (intOf i).toNat)
      case atStart => exact ⟨0, Nat.zero_le _, rfl, by simpa using hJ0, hnx⟩
      case round =>
        obtain ⟨j, hj, rfl, hJj, hnj⟩ := hrel
        by_cases hlt : j < b.length
        · obtain ⟨g, o, rfl, _, q0, q1⟩ := rp_at (hb _ hnj) j hlt
          have hJa := hA _ _ (.cells (prC b[j]) 28) hJj
          obtain ⟨fn, tmps, assign, body, hy, hR⟩ := hY _ (b[j]) _ hJa (by rw [List.append_assoc, List.take_append_getElem, List.nil_append]; exact (List.take_prefix _ _).trans (List.prefix_append _ _))
          have hji : (j : Int) < (b.length : Int) := by omega
          have hsj := hnj.size
          have htk : ([] : List Pr) ++ b.take j ++ [b[j]] = ([] : List Pr) ++ b.take (j + 1) := by rw [List.append_assoc, List.take_append_getElem]
          dsimp only [prC] at hy hR
          gi_wp2
          refine hR.mono ?_
          rintro e W3 (⟨rfl, hJ3, hk3⟩ | ⟨rfl, hJx3⟩)
          · rw [htk] at hJ3
            gi_wp2
            go_roundw
            case rel => exact ⟨_, _, _, _, _, _, _, _, _, _, ⟨j + 1, by omega, by first | rfl | simp, hJ3, (hnj.alloc (by omega) _).trans hk3⟩, rfl⟩
            case measure => first | (simp [intOf]; done) | (simp [intOf]; omega)
          · rw [htk] at hJx3
            gi_wp2
            refine bodyPost_ret (results_none rfl _ _ _) rfl ?_
            exact ⟨⟨_, rfl⟩, .inr ⟨_, ((List.nil_append (b.take (j + 1))).symm ▸ (List.take_prefix _ _).trans (List.prefix_append _ _)), hJx3⟩⟩
        · obtain rfl : j = b.length := by omega
          rw [List.take_length] at hJj
          gi_wp2
          go_roundw
          case rel => exact ⟨1, by omega, by first | rfl | simp, by simpa using hJj, hnj⟩
          case measure => first | (simp [intOf]; done) | (simp [intOf]; omega)
    · have hJ0 : J (b) wr := by simpa using hJs
      gi_wp2
      gi_loopw [15] (fun i wr2 => ∃ j : Nat, j ≤ a.length ∧ i = .int .i64 j ∧ J (b ++ a.take j) wr2 ∧ Bel mb n₀ W wr2) (fun i _ => a.length - (intOf i).toNat)
      case atStart => exact ⟨0, Nat.zero_le _, rfl, by simpa using hJ0, hnx⟩
      case round =>
        obtain ⟨j, hj, rfl, hJj, hnj⟩ := hrel
        by_cases hlt : j < a.length
        · obtain ⟨g, o, rfl, _, q0, q1⟩ := rp_at (ha _ hnj) j hlt
          have hJa := hA _ _ (.cells (prC a[j]) 28) hJj
          obtain ⟨fn, tmps, assign, body, hy, hR⟩ := hY _ (a[j]) _ hJa (by rw [List.append_assoc, List.take_append_getElem]; exact (List.prefix_append_right_inj _).2 (List.take_prefix _ _))
          have hji : (j : Int) < (a.length : Int) := by omega
          have hsj := hnj.size
          have htk : b ++ a.take j ++ [a[j]] = b ++ a.take (j + 1) := by rw [List.append_assoc, List.take_append_getElem]
          dsimp only [prC] at hy hR
          gi_wp2
          refine hR.mono ?_
          rintro e W3 (⟨rfl, hJ3, hk3⟩ | ⟨rfl, hJx3⟩)
          · rw [htk] at hJ3
            gi_wp2
            go_roundw
            case rel => exact ⟨_, _, _, _, _, _, _, _, _, _, ⟨j + 1, by omega, by first | rfl | simp, hJ3, (hnj.alloc (by omega) _).trans hk3⟩, rfl⟩
            case measure => first | (simp [intOf]; done) | (simp [intOf]; omega)
          · rw [htk] at hJx3
            gi_wp2
            refine bodyPost_ret (results_none rfl _ _ _) rfl ?_
            exact ⟨⟨_, rfl⟩, .inr ⟨_, (List.prefix_append_right_inj _).2 (List.take_prefix _ _), hJx3⟩⟩
        · obtain rfl : j = a.length := by omega
          rw [List.take_length] at hJj
          gi_wp2
          go_roundw
          case rel => exact ⟨2, by omega, by first | rfl | simp, by simpa using hJj, hnj⟩
          case measure => first | (simp [intOf]; done) | (simp [intOf]; omega)
    · gi_wp2
      go_end0
      exact ⟨⟨_, rfl⟩, .inl ⟨_, by simp, hJs⟩⟩
set_option maxHeartbeats 1000000 in
theorem turn_in (n : Nat) (a : Option Addr) (len cap : Nat) (w : World) :
    CallsIn Fence.wide n Tryz.prog 13 #[.slice a len cap] w fun e w' => e = .returned (.func (.func 28) #[] #[.pointer (some ⟨w.heap.size, 0, none⟩)]) ∧ w' = w.alloc (.cells #[.slice a len cap] 69) := by
  refine callsIn_of_wp Tryz.func13 rfl trivial ?_ rfl
  simp only [Tryz.ntmps13, List.size_toArray, List.length_cons, List.length_nil, Nat.reduceAdd, Nat.reduceSub, Array.replicate_succ, Array.replicate_zero, List.push_toArray, List.append_toArray, List.nil_append, List.cons_append]
  gi_wp2
  go_ret
  exact ⟨rfl, rfl⟩
/-- Pairs whose keys are not too long. -/
abbrev PrS := { x : Pr // x.1.length ≤ 140737488351232 }
theorem turn_stops (n : Nat) (hn : 1 ≤ n) (Bs gl mb : Nat) (hgm : gl ≠ mb) (va vb : Value) (b a : List Pr) (hlen : b.length + a.length ≤ 1000000000) (hk : ∀ x ∈ b ++ a, x.1.length ≤ 140737488351232) (w : World) (hBs : Bs < w.heap.size) (hgl : gl < w.heap.size) (hc : w.cell? ⟨Bs, 0, none⟩ = some (.slice (some ⟨gl, 0, none⟩) 2 2)) (h1 : w.cell? ⟨gl, 0, none⟩ = some va) (h2 : w.cell? ⟨gl, 1, none⟩ = some vb)
    (hb : ∀ V, Fr (fun k => k = mb) w V → SlR RP (fun _ => False) va b V) (ha : ∀ V, Fr (fun k => k = mb) w V → SlR RP (fun _ => False) vb a V) :
    SeqStopsK Fence.wide n Tryz.prog 28 #[.pointer (some ⟨Bs, 0, none⟩)] (fun x : PrS => #[.agg (prC x.1)]) (Bel mb w.heap.size) (fun ys => ys.map Subtype.val = b ++ a) (fun pre => pre.map Subtype.val <+: b ++ a) (b.length + a.length) w := fun lp J Jx W hW hJ _ hY h0 => by
  have := turn1_in n hn lp Bs w.heap.size gl mb va vb b a hlen hgl hgm (fun pre W => ∃ pre' : List PrS, pre'.map Subtype.val = pre ∧ J pre' W) (fun pre W => ∃ pre' : List PrS, pre'.map Subtype.val = pre ∧ Jx pre' W)
    (fun pre W' o ⟨pre', e, hj⟩ => ⟨pre', e, hJ pre' W' _ none hj (World.grownBy_alloc W' o none) (fun r e => by cases e)⟩)
    (fun pre x W' ⟨pre', e, hj⟩ hp => by
      subst e
      have hx : x ∈ b ++ a := hp.subset (by simp)
      have hl : pre'.length < b.length + a.length := by
        have := hp.length_le
        simp at this
        omega
      obtain ⟨fn, tmps, assign, body, hy, hR⟩ := hY pre' ⟨x, hk x hx⟩ W' hj hl
      refine ⟨fn, tmps, assign, body, hy, hR.mono ?_⟩
      rintro e W3 (⟨rfl, hJ3, hk3⟩ | ⟨rfl, hJx3⟩)
      · exact .inl ⟨rfl, ⟨_, by simp, hJ3⟩, hk3⟩
      · exact .inr ⟨rfl, _, by simp, hJx3⟩)
    W hW.size ((hW.cell (p := ⟨Bs, 0, none⟩) hBs).trans hc) ((hW.cell (p := ⟨gl, 0, none⟩) hgl).trans h1) ((hW.cell (p := ⟨gl, 1, none⟩) hgl).trans h2)
    (fun V hV => hb V ((Bel.of hW).trans hV).fr) (fun V hV => ha V ((Bel.of hW).trans hV).fr) ⟨[], rfl, h0⟩
  refine this.mono ?_
  rintro e W' ⟨he, ⟨ys, rfl, ys', e1, hj⟩ | ⟨pre, hp, pre', e1, hj⟩⟩
  · exact ⟨he, .inl ⟨ys', e1, hj⟩⟩
  · exact ⟨he, .inr ⟨pre', (by rw [e1]; exact hp : pre'.map Subtype.val <+: b ++ a), hj⟩⟩
end Go.Proofs.YtenkchhlaphocaaGreatDoor

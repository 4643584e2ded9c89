import Derived.Test.YtpjnbhflnbhnoaaGreatDoorWaz
import Derived.Recover
import Derived.Defers
import Derived.Laws.EntriesVeiled
import Derived.BigRegion
namespace Go.Proofs.YtpjnbhflnbhnoaaGreatDoor
open Go.RowKit
set_option linter.unusedVariables false
set_option maxHeartbeats 4000000 in
set_option maxRecDepth 100000 in
/-- The deferred function, where nothing is to be recovered. -/
theorem zcatch_idle (x : Addr) (w : World) :
    CallsD Tryz.prog 53 #[.pointer (some x)] .returning w fun e u' w' => e = .returned (.tuple #[]) ∧ u' = .returning ∧ w' = w := by
  refine callsD_of_wpS Tryz.func53 rfl fun c₀ cs hu => ?_
  apply wpS_seq
  apply wpS_region
  simp [wpOpsS, go_sem, recoverD, hu, Tryz.ntmps53, Exit.thenS]
  refine wpS_of_wp ?_
  go_wp2_with fail
  cases c₀
  simp_all [bodyPostS, results, Tryz.results53]
set_option maxHeartbeats 4000000 in
set_option maxRecDepth 100000 in
/-- The deferred function, where an error is recovered. -/
theorem zcatch_fault (xb y : Nat) (older : _) (w : World) (vx : Value) (cx : w.cell? ⟨xb, 0, none⟩ = some vx) (fx : w.frozen? ⟨xb, 0, none⟩ = false) :
    CallsD Tryz.prog 53 #[.pointer (some ⟨xb, 0, none⟩)] (.panicking ({ v := .iface 27 (.int .i64 y), recovered := false } :: older)) w fun e u' w' => e = .returned (.tuple #[]) ∧ u' = .panicking ({ v := .iface 27 (.int .i64 y), recovered := true } :: older) ∧ w' = w.setCell ⟨xb, 0, none⟩ (.int .i64 y) := by
  refine callsD_of_wpS Tryz.func53 rfl fun c₀ cs hu => ?_
  apply wpS_seq
  apply wpS_region
  simp [wpOpsS, go_sem, recoverD, hu, Tryz.ntmps53, Exit.thenS]
  have hta : ∀ (v : Value) (w : World), (Instr.typeAssert (.iface 27 v) 20 27 true).run Tryz.prog w = .ok (.tuple #[v, .bool true]) w := fun v w => by kernel_rfl
  have heq : ∀ (v : Value) (w : World), (binOp BinOp.eql 20 (.iface 27 v) .nilIface).run Tryz.prog w = .ok (.bool false) w := fun v w => by kernel_rfl
  change Code.wpS Tryz.prog _ _ { tmps := #[.pointer (some ⟨xb, 0, none⟩), undef, undef, undef, .iface 27 (.int .i64 y), undef, undef, undef, undef, undef, undef], defers := [] } _ _
  refine wpS_of_wp ?_
  go_wp2_with fail
  cases c₀
  simp_all [bodyPostS, results, Tryz.results53]
theorem setCell_id {w : World} {g i : Nat} {R : Array Value} {T : Nat} {v : Value} (h : w.heap[g]? = some (.cells R T)) (hv : R[i]? = some v) : w.setCell ⟨g, i, none⟩ v = w := by
  have hh : (w.setCell ⟨g, i, none⟩ v).heap = w.heap := by
    apply Array.ext_getElem?
    intro k
    by_cases hk : k = g
    · subst hk
      rw [row_set h i v, h]
      congr 2
      apply Array.ext_getElem?
      intro j
      rw [Array.getElem?_setIfInBounds]
      split
      · rename_i e
        subst e
        split
        · exact hv.symm
        · rename_i hlt
          rw [Array.getElem?_eq_none (by omega)] at hv
          cases hv
      · rfl
    · simp [World.setCell, Array.getElem?_modify, Ne.symm hk]
  cases w
  simp only [World.setCell] at hh ⊢
  simp_all
/-- What readHead answers. -/
def RhA (b : List By) (w : World) (e : Ending) (w' : World) : Prop :=
  (∃ y, headH b 0 = .bad y ∧ e = .returned (.tuple #[.agg zrow, .int .i64 0, .int .i64 (y : Nat)]) ∧ Nw w w') ∨
  (∃ m n v, headH b 0 = .ok m n ∧ e = .returned (.tuple #[v, .int .i64 (n : Nat), .int .i64 0]) ∧ vM w.heap.size m v w' ∧ Nw w w' ∧ n ≤ b.length)
set_option maxHeartbeats 16000000 in
set_option maxRecDepth 100000 in
theorem zreadHead_any (w : World) (a : Option Addr) (c : Nat) (b : List By) (hb : Old w (.slice a b.length c) b) (hbl : b.length ≤ 140737488351232) (hT : TabT w) (h0 : 0 < w.heap.size) :
    Calls Tryz.prog 39 #[.slice a b.length c] w (RhA b w) := by
  obtain ⟨P, hP⟩ : ∃ P : Ending → World → Prop, P = RhA b w := ⟨_, rfl⟩
  rw [← hP]
  obtain ⟨W0, hW0⟩ : ∃ W0, w.alloc (.cells zrow 25) = W0 := ⟨_, rfl⟩
  obtain ⟨W1, hW1⟩ : ∃ W1, W0.alloc (.cells #[.int .i64 0] 27) = W1 := ⟨_, rfl⟩
  obtain ⟨W2, hW2⟩ : ∃ W2, W1.alloc (.cells #[.slice a b.length c, .int .i64 0] 85) = W2 := ⟨_, rfl⟩
  have s0 : W0.heap.size = w.heap.size + 1 := by rw [← hW0]; simp
  have s1 : W1.heap.size = w.heap.size + 1 + 1 := by rw [← hW1]; show (W0.heap.push _).size = _; rw [Array.size_push, s0]
  have n0 : Nw w W0 := by rw [← hW0]; exact (Fr.refl _ _).alloc _
  have n1 : Nw W0 W1 := by rw [← hW1]; exact (Fr.refl _ _).alloc _
  have n2 : Nw W1 W2 := by rw [← hW2]; exact (Fr.refl _ _).alloc _
  have rm : W2.heap[w.heap.size]? = some (.cells zrow 25) := n2.heap (n1.heap (by rw [← hW0]; exact new_heap _ _))
  have re : W2.heap[W0.heap.size]? = some (.cells #[.int .i64 0] 27) := n2.heap (by rw [← hW1]; exact new_heap _ _)
  have rr : W2.heap[W1.heap.size]? = some (.cells #[.slice a b.length c, .int .i64 0] 85) := by rw [← hW2]; exact new_heap _ _
  have hlr := (Array.getElem?_eq_some_iff.1 rr).1
  have n02 : Nw w W2 := (n0.trans n1).trans n2
  have hY : Yr w.heap.size W1.heap.size a c b 0 W2 := ⟨rr, hb.nw n02, by omega, by omega, hbl⟩
  have HH : Hid (Calls Tryz.prog 54 #[.pointer (some ⟨W1.heap.size, 0, none⟩)] W2 (Yq w.heap.size W1.heap.size a c b W2 (headH b 0) (vM W2.heap.size))) := yhead_any hY hlr (by omega) (hT.nw n02) (by omega)
  have HBD : Hid (∀ y V, headH b 0 = .bad y → Fr (fun k => k = W1.heap.size) W2 V → V.cell? ⟨W0.heap.size, 0, none⟩ = some (.int .i64 0) ∧ V.frozen? ⟨W0.heap.size, 0, none⟩ = false ∧ V.heap[w.heap.size]? = some (.cells zrow 25) ∧ (V.setCell ⟨W0.heap.size, 0, none⟩ (.int .i64 (y : Nat))).heap[w.heap.size]? = some (.cells zrow 25) ∧ P (.returned (.tuple #[.agg zrow, .int .i64 0, .int .i64 (y : Nat)])) (V.setCell ⟨W0.heap.size, 0, none⟩ (.int .i64 (y : Nat)))) := fun y V hy f => by
    have e1 := row_kept re f (by omega)
    have m1 := row_kept rm f (by omega)
    have fx : Fr (fun k => k = W0.heap.size) V (V.setCell ⟨W0.heap.size, 0, none⟩ (.int .i64 (y : Nat))) := (Fr.refl _ _).setCell _ _ (.inl rfl)
    refine ⟨(row_cell e1 0 _ rfl).1, (row_cell e1 0 (.int .i64 0) rfl).2, m1, row_kept m1 fx (by omega), ?_⟩
    rw [hP]
    exact .inl ⟨y, hy, rfl, (n02.then f (fun i hi => .inr (by omega))).then fx (fun i hi => .inr (by omega))⟩
  have HOK : Hid (∀ m n V ea en ec, headH b 0 = .ok m n → n ≤ b.length → Fr (fun k => k = W1.heap.size) W2 V → vM W2.heap.size m (.agg #[.string (str m.nm), .string (str m.cm), .slice ea en ec, .int .u32 m.tm, .int .u8 m.fl.toNat, .int .u8 m.sy.toNat, .bool m.tx, .bool m.sm]) V → Yr w.heap.size W1.heap.size a c b n V →
      ∃ V1, V1 = V.setRow w.heap.size #[.string (str m.nm), .string (str m.cm), .slice ea en ec, .int .u32 m.tm, .int .u8 m.fl.toNat, .int .u8 m.sy.toNat, .bool m.tx, .bool m.sm] ∧ V.heap[w.heap.size]? = some (.cells zrow 25) ∧ V1.heap[w.heap.size]? = some (.cells #[.string (str m.nm), .string (str m.cm), .slice ea en ec, .int .u32 m.tm, .int .u8 m.fl.toNat, .int .u8 m.sy.toNat, .bool m.tx, .bool m.sm] 25) ∧ V1.heap[W0.heap.size]? = some (.cells #[.int .i64 0] 27) ∧ V1.cell? ⟨W1.heap.size, 1, none⟩ = some (.int .i64 (n : Nat)) ∧ Hid (∀ U, Nw V1 U → P (.returned (.tuple #[.agg #[.string (str m.nm), .string (str m.cm), .slice ea en ec, .int .u32 m.tm, .int .u8 m.fl.toNat, .int .u8 m.sy.toNat, .bool m.tx, .bool m.sm], .int .i64 (n : Nat), .int .i64 0])) U)) := fun m n V ea en ec hy hn f hv hYn => by
    have e1 := row_kept re f (by omega)
    have m1 := row_kept rm f (by omega)
    have fx : Fr (fun k => k = w.heap.size) V (V.setRow w.heap.size #[.string (str m.nm), .string (str m.cm), .slice ea en ec, .int .u32 m.tm, .int .u8 m.fl.toNat, .int .u8 m.sy.toNat, .bool m.tx, .bool m.sm]) := (Fr.refl _ _).setRow _ _ (.inl rfl)
    refine ⟨_, rfl, m1, setRow_heap V _ _ _ 25 _ m1, row_kept e1 fx (by omega), (row_cell (row_kept hYn.row fx (by omega)) 1 _ rfl).1, fun U hU => ?_⟩
    rw [hP]
    obtain ⟨ea', en', ec', q1, q2, q3⟩ := hv
    injection q1 with q1
    injection q1 with q1
    simp only [List.cons.injEq, Value.slice.injEq, and_true, true_and] at q1
    obtain ⟨qa, qb, qc⟩ := q1
    subst qa qb qc
    refine .inr ⟨m, n, _, hy, rfl, ⟨ea, en, ec, rfl, q2, ?_⟩, ((n02.then f (fun i hi => .inr (by omega))).then fx (fun i hi => .inr (by omega))).trans hU, hn⟩
    exact ((q3.kept fx (fun k hk => .inl (by omega))).nw hU).more (fun k hk => .inl (by omega))
  clear hP hT hb hY n0 n1 n2 n02 hlr
  rw [s0, s1] at HBD HOK
  rw [s1] at HH
  obtain ⟨L, hL⟩ : ∃ L, b.length = L := ⟨_, rfl⟩
  have HLL : Hid (b.length = L) := hL
  rw [hL] at hW2 HOK hbl rr ⊢
  clear hL
  go_enter_defers Tryz.func39, Tryz.ntmps39
  go_wp2_with fail
  change Calls _ _ _ (((w.alloc (.cells zrow 25)).alloc (.cells #[.int .i64 0] 27)).alloc (.cells #[.slice a L c, .int .i64 0] 85)) _
  rw [hW0, hW1, hW2]
  with_reducible refine HH.out.mono ?_
  unfold Yq
  rintro e V (⟨y, hy, rfl, f1⟩ | ⟨m, n, v, hy, rfl, hv, hY1, f1⟩)
  · obtain ⟨k1, k2, k2b, k3, k4⟩ := HBD.out y V hy f1
    have HF := toHid2 k4
    have c1 : (V.setCell ⟨w.heap.size + 1, 0, none⟩ (.int .i64 (y : Nat))).cell? ⟨w.heap.size + 1, 0, none⟩ = some (.int .i64 y) := World.cell?_setCell_same _ _ _ k1
    have d0 : V.cell? ⟨w.heap.size, 0, none⟩ = some (.string ⟨#[]⟩) := (row_cell k2b 0 _ rfl).1
    have d1 : V.cell? ⟨w.heap.size, 1, none⟩ = some (.string ⟨#[]⟩) := (row_cell k2b 1 _ rfl).1
    have d2 : V.cell? ⟨w.heap.size, 2, none⟩ = some (.slice none 0 0) := (row_cell k2b 2 _ rfl).1
    have d3 : V.cell? ⟨w.heap.size, 3, none⟩ = some (.int .u32 0) := (row_cell k2b 3 _ rfl).1
    have d4 : V.cell? ⟨w.heap.size, 4, none⟩ = some (.int .u8 0) := (row_cell k2b 4 _ rfl).1
    have d5 : V.cell? ⟨w.heap.size, 5, none⟩ = some (.int .u8 0) := (row_cell k2b 5 _ rfl).1
    have d6 : V.cell? ⟨w.heap.size, 6, none⟩ = some (.bool false) := (row_cell k2b 6 _ rfl).1
    have d7 : V.cell? ⟨w.heap.size, 7, none⟩ = some (.bool false) := (row_cell k2b 7 _ rfl).1
    clear k3 k4 hy f1 HBD HOK HH k2b
    go_wp2_with fail
    refine leaves_cons (f := 53) (args := #[.pointer (some ⟨w.heap.size + 1, 0, none⟩)]) (by simp) (by simp [go_sem]) ?_
    refine (zcatch_fault (w.heap.size + 1) y [] V _ k1 k2).mono ?_
    rintro e u' w5 ⟨rfl, rfl, rfl⟩
    simp [Leaves, settle, results, Tryz.results39, go_sem, c1, d0, d1, d2, d3, d4, d5, d6, d7]
    exact HF.out
  · have hv0 := hv
    obtain ⟨ea, en, ec, hveq, hh⟩ := hv0
    subst hveq
    clear hh
    obtain ⟨V1, hV1, m0, m1, e1, r1, HF⟩ := HOK.out m n V ea en ec hy (by have := hY1.pl; rw [HLL.out] at this; exact this) f1 hv hY1
    have d0 : V1.cell? ⟨w.heap.size, 0, none⟩ = some (.string (str m.nm)) := (row_cell m1 0 _ rfl).1
    have g0 : V1.frozen? ⟨w.heap.size, 0, none⟩ = false := (row_cell m1 0 (.string (str m.nm)) rfl).2
    have k0 : V1.setCell ⟨w.heap.size, 0, none⟩ (.string (str m.nm)) = V1 := setCell_id m1 rfl
    have d1 : V1.cell? ⟨w.heap.size, 1, none⟩ = some (.string (str m.cm)) := (row_cell m1 1 _ rfl).1
    have g1 : V1.frozen? ⟨w.heap.size, 1, none⟩ = false := (row_cell m1 1 (.string (str m.cm)) rfl).2
    have k1 : V1.setCell ⟨w.heap.size, 1, none⟩ (.string (str m.cm)) = V1 := setCell_id m1 rfl
    have d2 : V1.cell? ⟨w.heap.size, 2, none⟩ = some (.slice ea en ec) := (row_cell m1 2 _ rfl).1
    have g2 : V1.frozen? ⟨w.heap.size, 2, none⟩ = false := (row_cell m1 2 (.slice ea en ec) rfl).2
    have k2 : V1.setCell ⟨w.heap.size, 2, none⟩ (.slice ea en ec) = V1 := setCell_id m1 rfl
    have d3 : V1.cell? ⟨w.heap.size, 3, none⟩ = some (.int .u32 m.tm) := (row_cell m1 3 _ rfl).1
    have g3 : V1.frozen? ⟨w.heap.size, 3, none⟩ = false := (row_cell m1 3 (.int .u32 m.tm) rfl).2
    have k3 : V1.setCell ⟨w.heap.size, 3, none⟩ (.int .u32 m.tm) = V1 := setCell_id m1 rfl
    have d4 : V1.cell? ⟨w.heap.size, 4, none⟩ = some (.int .u8 m.fl.toNat) := (row_cell m1 4 _ rfl).1
    have g4 : V1.frozen? ⟨w.heap.size, 4, none⟩ = false := (row_cell m1 4 (.int .u8 m.fl.toNat) rfl).2
    have k4 : V1.setCell ⟨w.heap.size, 4, none⟩ (.int .u8 m.fl.toNat) = V1 := setCell_id m1 rfl
    have d5 : V1.cell? ⟨w.heap.size, 5, none⟩ = some (.int .u8 m.sy.toNat) := (row_cell m1 5 _ rfl).1
    have g5 : V1.frozen? ⟨w.heap.size, 5, none⟩ = false := (row_cell m1 5 (.int .u8 m.sy.toNat) rfl).2
    have k5 : V1.setCell ⟨w.heap.size, 5, none⟩ (.int .u8 m.sy.toNat) = V1 := setCell_id m1 rfl
    have d6 : V1.cell? ⟨w.heap.size, 6, none⟩ = some (.bool m.tx) := (row_cell m1 6 _ rfl).1
    have g6 : V1.frozen? ⟨w.heap.size, 6, none⟩ = false := (row_cell m1 6 (.bool m.tx) rfl).2
    have k6 : V1.setCell ⟨w.heap.size, 6, none⟩ (.bool m.tx) = V1 := setCell_id m1 rfl
    have d7 : V1.cell? ⟨w.heap.size, 7, none⟩ = some (.bool m.sm) := (row_cell m1 7 _ rfl).1
    have g7 : V1.frozen? ⟨w.heap.size, 7, none⟩ = false := (row_cell m1 7 (.bool m.sm) rfl).2
    have k7 : V1.setCell ⟨w.heap.size, 7, none⟩ (.bool m.sm) = V1 := setCell_id m1 rfl
    have e0 : V1.cell? ⟨w.heap.size + 1, 0, none⟩ = some (.int .i64 0) := (row_cell e1 0 _ rfl).1
    have ef : V1.frozen? ⟨w.heap.size + 1, 0, none⟩ = false := (row_cell e1 0 (.int .i64 0) rfl).2
    have ek : V1.setCell ⟨w.heap.size + 1, 0, none⟩ (.int .i64 0) = V1 := setCell_id e1 rfl
    clear hy hv hY1 f1 HBD HOK HH m1 e1
    generalize m.fl.toNat = F at *
    generalize m.sy.toNat = S at *
    go_wp2_with (first
      | (refine wpList_store_row rfl 25 _ _ rfl w.heap.size #[.string (str m.nm), .string (str m.cm), .slice ea en ec, .int .u32 m.tm, .int .u8 F, .int .u8 S, .bool m.tx, .bool m.sm] (by simp [Act.eval]) (by simp [Act.eval]) 25 _ m0 (by kernel_rfl) rfl (by simp [Value.oneCell']) ?_))
    rw [← hV1]
    clear hV1 m0
    have t0 : V1.drew.cell? ⟨w.heap.size, 0, none⟩ = some (.string (str m.nm)) := d0
    have t1 : V1.drew.cell? ⟨w.heap.size, 1, none⟩ = some (.string (str m.cm)) := d1
    have t2 : V1.drew.cell? ⟨w.heap.size, 2, none⟩ = some (.slice ea en ec) := d2
    have t3 : V1.drew.cell? ⟨w.heap.size, 3, none⟩ = some (.int .u32 m.tm) := d3
    have t4 : V1.drew.cell? ⟨w.heap.size, 4, none⟩ = some (.int .u8 F) := d4
    have t5 : V1.drew.cell? ⟨w.heap.size, 5, none⟩ = some (.int .u8 S) := d5
    have t6 : V1.drew.cell? ⟨w.heap.size, 6, none⟩ = some (.bool m.tx) := d6
    have t7 : V1.drew.cell? ⟨w.heap.size, 7, none⟩ = some (.bool m.sm) := d7
    have t8 : V1.drew.cell? ⟨w.heap.size + 1 + 1, 1, none⟩ = some (.int .i64 (n : Nat)) := r1
    go_region_held3 (fun W => W.cell? ⟨w.heap.size, 0, none⟩ = some (.string (str m.nm)) ∧ W.cell? ⟨w.heap.size, 1, none⟩ = some (.string (str m.cm)) ∧ W.cell? ⟨w.heap.size, 2, none⟩ = some (.slice ea en ec) ∧ W.cell? ⟨w.heap.size, 3, none⟩ = some (.int .u32 m.tm) ∧ W.cell? ⟨w.heap.size, 4, none⟩ = some (.int .u8 F) ∧ W.cell? ⟨w.heap.size, 5, none⟩ = some (.int .u8 S) ∧ W.cell? ⟨w.heap.size, 6, none⟩ = some (.bool m.tx) ∧ W.cell? ⟨w.heap.size, 7, none⟩ = some (.bool m.sm) ∧ W.cell? ⟨w.heap.size + 1 + 1, 1, none⟩ = some (.int .i64 (n : Nat)))
      (first | assumption | (refine ⟨?_, ?_, ?_, ?_, ?_, ?_, ?_, ?_, ?_⟩ <;> assumption))
      (fail)
    all_goals go_wp2_with fail
    all_goals (
      refine leaves_cons (f := 53) (args := #[.pointer (some ⟨w.heap.size + 1, 0, none⟩)]) (by simp) (by simp [go_sem]) ?_
      refine (zcatch_idle ⟨w.heap.size + 1, 0, none⟩ _).mono ?_
      rintro e u' w5 ⟨rfl, rfl, rfl⟩
      simp [Leaves, settle, results, Tryz.results39, go_sem, d0, d1, d2, d3, d4, d5, d6, d7, e0]
      exact HF.out _ ((Fr.refl _ _).drew))
end Go.Proofs.YtpjnbhflnbhnoaaGreatDoor

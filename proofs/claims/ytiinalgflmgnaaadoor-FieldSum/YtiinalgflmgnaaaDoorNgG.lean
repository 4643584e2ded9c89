import Derived.Test.YtiinalgflmgnaaaDoorNgF
namespace Go.Proofs.YtiinalgflmgnaaaDoor
open Go.RowKit
set_option linter.unusedVariables false
namespace fieldSum
set_option maxHeartbeats 16000000 in
set_option maxRecDepth 100000 in
theorem walk (b : List By) (hb : b.length = 512) (at_ tn : Nat) (hat : at_ ≤ 65535) (htn : tn ≤ 255) (w : World) :
    Calls Tryd.prog 7 #[.agg (rc b), .int .u16 at_, .int .u8 tn] w fun e w' => e = .returned (.bool true) ∧ Nw w w' := by
  obtain ⟨P, hP⟩ : ∃ P : Ending → World → Prop, P = fun e w' => e = .returned (.bool true) ∧ Nw w w' := ⟨_, rfl⟩
  rw [← hP]
  have HF : Hid (∀ W, Nw w W → P (.returned (.bool true)) W) := fun W hW => by rw [hP]; exact ⟨rfl, hW⟩
  clear hP
  obtain ⟨W1, hW1⟩ : ∃ W1, w.alloc (.cells (rc b) 28) = W1 := ⟨_, rfl⟩
  have h1 : RcH w.heap.size b W1 := by rw [← hW1]; exact rec_heap w b
  have n1 : Nw w W1 := by rw [← hW1]; exact (Fr.refl _ _).alloc _
  obtain ⟨X, hX⟩ : ∃ X, psm b = X := ⟨_, rfl⟩
  have hXl : X.length = 512 := by rw [← hX]; exact psm_length b hb
  have hck : chk X = true := by rw [← hX]; exact chk_psm b hb
  obtain ⟨i, hi⟩ : ∃ i, at_ % 512 = i := ⟨_, rfl⟩
  have hi5 : i < 512 := by rw [← hi]; exact Nat.mod_lt _ (by decide)
  have hrem : (at_ : Int).tmod 512 = (i : Int) := by rw [← hi, Int.tmod_eq_emod_of_nonneg (by omega)]; omega
  obtain ⟨t, ht⟩ : ∃ t : By, t.toNat = tn := ⟨BitVec.ofNat 8 tn, by rw [BitVec.toNat_ofNat, Nat.mod_eq_of_lt (by omega)]⟩
  have hst := sum_turned X hXl i hi5 t
  obtain ⟨Y, hY⟩ : ∃ Y, X.set i ((X[i]'(by omega)) ^^^ t) = Y := ⟨_, rfl⟩
  rw [hY] at hst
  have hYl : Y.length = 512 := by rw [← hY, List.length_set]; exact hXl
  have hxor : bits .xor .u8 ((X[i]'(by omega)).toNat : Int) (tn : Int) = (((X[i]'(by omega)) ^^^ t).toNat : Int) := by
    have := (X[i]'(by omega)).isLt
    rw [u8_xor _ _ (by omega) (by omega) (by omega) (by omega), BitVec.toNat_xor, ht]
    simp
  have ht0 : decide (t = 0#8 ∨ (148 ≤ i ∧ i < 156)) = (decide (tn = 0) || (decide (148 ≤ i) && decide (i < 156))) := by
    rw [← ht, Bool.eq_iff_iff]
    simp only [decide_eq_true_eq, Bool.or_eq_true, Bool.and_eq_true]
    constructor
    · rintro (rfl | h)
      · exact .inl rfl
      · exact .inr h
    · rintro (h | h)
      · exact .inl (BitVec.eq_of_toNat_eq h)
      · exact .inr h
  rw [ht0] at hst
  have HL : Hid (Calls Tryd.prog 24 #[] W1 fun e w' => e = .returned (.bool true) ∧ Hid (Nw W1 w')) := lives_any W1
  have HPS : Hid (∀ V, Nw W1 V → Calls Tryd.prog 20 #[.agg (rc b)] V fun e w' => e = .returned (.agg (rc X)) ∧ Hid (Nw W1 w')) := fun V hV => by
    rw [← hX]
    exact (putSum_any b hb V).mono (by rintro e w' ⟨rfl, h⟩; exact ⟨rfl, hV.trans h⟩)
  have HCK : Hid (∀ V, Calls Tryd.prog 18 #[.agg (rc X)] V fun e w' => e = .returned (.bool true) ∧ Hid (Nw V w')) := fun V => by
    rw [← hck]; exact check_any X hXl V
  have HS1 : Hid (∀ V, Calls Tryd.prog 16 #[.agg (rc X)] V fun e w' => e = .returned (.tuple #[.int .i64 (su (blk X)), .int .i64 (ss (blk X))]) ∧ Hid (Nw V w')) := fun V => sums_any X hXl V
  have HS2 : Hid (∀ V, Calls Tryd.prog 16 #[.agg (rc Y)] V fun e w' => e = .returned (.tuple #[.int .i64 (su (blk Y)), .int .i64 (ss (blk Y))]) ∧ Hid (Nw V w')) := fun V => sums_any Y hYl V
  have HI := tHid (rc_info b hb)
  have HIX := tHid (rc_info X hXl)
  have HIY := tHid (rc_info Y hYl)
  have HOX := tHid (rc_one X)
  have HZS : Hid (Tryd.zeroCells28.size = (rc X).size) := by show _ = _; rw [zrec_rc, rc_size, rc_size, zrec_length, hXl]
  have H1 : Hid (∀ V, Nw W1 V → V.heap[w.heap.size]? = some (.cells (rc b) 28)) := fun V hV => hV.heap h1
  have HN1 := tHid n1
  -- the block of x
  have HX7 : Hid (∀ V, Nw W1 V → ∃ W2, (V.alloc (.cells Tryd.zeroCells28 28)).setRow V.heap.size (rc X) = W2 ∧ Hid (Nw W1 W2) ∧ Hid (∀ U, Nw W2 U → RcH V.heap.size X U ∧ (∃ W4, U.setCell ⟨V.heap.size, i, none⟩ (.int .u8 (((X[i]'(by omega)) ^^^ t).toNat : Int)) = W4 ∧ RcH V.heap.size Y W4 ∧ Nw W1 W4))) := fun V hV => by
    refine ⟨_, rfl, ?_, fun U hU => ?_⟩
    · exact (hV.alloc _).setRow _ _ (.inr hV.size)
    · have r0 : (V.alloc (.cells Tryd.zeroCells28 28)).heap[V.heap.size]? = some (.cells Tryd.zeroCells28 28) := newHeap _ _
      have r1 : RcH V.heap.size X ((V.alloc (.cells Tryd.zeroCells28 28)).setRow V.heap.size (rc X)) := setRow_heap _ _ _ _ 28 _ r0
      have r2 : RcH V.heap.size X U := hU.heap r1
      refine ⟨r2, _, rfl, ?_, ?_⟩
      · have := r2.set i ((X[i]'(by omega)) ^^^ t) _ rfl
        rw [hY] at this
        exact this
      · exact (((hV.alloc _).setRow _ _ (.inr hV.size)).trans hU).setCell _ _ (.inr hV.size)
  have hxi := (X[i]'(by omega)).isLt
  generalize hxv : (X[i]'(by omega)).toNat = xv at *
  generalize hyv : (((X[i]'(by omega)) ^^^ t).toNat : Int) = yv at *
  have HXI : Hid (∀ g U, RcH g X U → U.cell? ⟨g, i, none⟩ = some (.int .u8 xv) ∧ U.frozen? ⟨g, i, none⟩ = false) := fun g U h => by
    have := h.cell i (by omega)
    rw [hxv] at this
    exact this
  clear h1 n1 hX hXl hYl hck hi ht hY ht0 hyv hxv hb
  generalize hA : su (blk X) = A at *
  generalize hA2 : su (blk Y) = A2 at *
  generalize ss (blk X) = B at *
  generalize ss (blk Y) = B2 at *
  generalize hC : rc b = C at *
  clear hA hA2 hC
  go_enter Tryd.func7, Tryd.ntmps7
  go_upto_region 3 with (first
    | (go_at_call 24; with_reducible refine HL.out.mono ?_; rintro e w2 ⟨rfl, K2⟩))
  have HP2 := tHid (HPS.out w2 K2.out)
  have HB2 := tHid (H1.out w2 K2.out)
  go_upto_region 4 with (first
    | (refine wpList_load_row rfl 28 _ rfl w.heap.size (by first | rfl | simp [Act.eval]) 28 _ (0, 0) _ HB2.out Tryd.underlying28 rfl HI.out ?_)
    | (go_at_call 20; with_reducible refine HP2.out.mono ?_; rintro e w3 ⟨rfl, K3⟩; obtain ⟨W2, hW2, KW2, HU⟩ := HX7.out w3 K3.out; have HW2 := tHid hW2; clear hW2)
    | (refine wpList_store_row rfl 28 _ _ rfl w3.heap.size (rc X) (by first | rfl | simp [Act.eval]) (by first | rfl | simp [Act.eval]) 28 _ (newHeap w3 _) HIX.out HZS.out HOX.out ?_; rw [HW2.out]))
  have HG2 := tHid (HU.out W2 (Fr.refl _ _)).1
  have HC2 := tHid (HCK.out W2)
  clear HP2 HB2 HPS HI H1 HX7 HL K2 K3 HW2
  generalize w3.heap.size = G at *
  go_upto_region 7 with (first
    | (refine wpList_load_row rfl 28 _ rfl G (by first | rfl | simp [Act.eval, Act.put]) 28 _ (0, 0) _ HG2.out Tryd.underlying28 rfl HIX.out ?_)
    | (go_at_call 18; with_reducible refine HC2.out.mono ?_; rintro e w4 ⟨rfl, K4⟩))
  have HG4 := tHid (HU.out w4 K4.out).1
  have HC4 := tHid (HS1.out w4)
  go_upto_region 8 with (first
    | (refine wpList_load_row rfl 28 _ rfl G (by first | rfl | simp [Act.eval, Act.put]) 28 _ (0, 0) _ HG4.out Tryd.underlying28 rfl HIX.out ?_)
    | (go_at_call 16; with_reducible refine HC4.out.mono ?_; rintro e w5 ⟨rfl, K5⟩))
  obtain ⟨r5, W6, hW6, r6, n6⟩ := HU.out w5 (K4.out.trans K5.out)
  obtain ⟨x1, x2⟩ := HXI.out G w5 r5
  have HG6 : Hid (W6.heap[G]? = some (.cells (rc Y) 28)) := r6
  have HC6 := tHid (HS2.out W6)
  have HN6 := tHid n6
  have hi6 : (i : Int) < 512 := by omega
  clear HG2 HC2 HG4 HC4 K4 K5 HU r5 r6 n6 HXI HCK HS1 HS2 HIX HOX HZS KW2
  go_upto_region 9 with fail
  go_upto_region 10 with (first
    | (refine wpList_load_row rfl 28 _ rfl G (by first | rfl | simp [Act.eval, Act.put]) 28 _ (0, 0) _ HG6.out Tryd.underlying28 rfl HIY.out ?_)
    | (go_at_call 16; with_reducible refine HC6.out.mono ?_; rintro e w7 ⟨rfl, K7⟩))
  have HFF := tHid (HF.out w7 ((HN1.out.trans HN6.out).trans K7.out))
  clear HF HN1 HN6 K7 HC6 HG6 HIY x1 x2 hxor hrem
  have hbeq : (A == A2) = decide (A = A2) := rfl
  rw [hst] at hbeq
  clear hst
  by_cases t0 : tn = 0
  · subst t0
    rw [decide_eq_true rfl, Bool.true_or] at hbeq
    go_wp2_with fail
    exact HFF.out
  · rw [decide_eq_false t0, Bool.false_or] at hbeq
    have t1 : ((tn : Int) == 0) = false := by rw [beq_eq_false_iff_ne]; omega
    by_cases i1 : (148 : Int) ≤ (i : Int)
    · have d1 : decide ((148 : Int) ≤ (i : Int)) = true := decide_eq_true i1
      rw [decide_eq_true (show 148 ≤ i by omega), Bool.true_and] at hbeq
      by_cases i2 : (i : Int) < 156
      · have d2 : decide ((i : Int) < 156) = true := decide_eq_true i2
        rw [decide_eq_true (show i < 156 by omega)] at hbeq
        go_wp2_with fail
        exact HFF.out
      · have d2 : decide ((i : Int) < 156) = false := decide_eq_false i2
        rw [decide_eq_false (show ¬ i < 156 by omega)] at hbeq
        go_wp2_with fail
        exact HFF.out
    · have d1 : decide ((148 : Int) ≤ (i : Int)) = false := decide_eq_false i1
      rw [decide_eq_false (show ¬ 148 ≤ i by omega), Bool.false_and] at hbeq
      go_wp2_with fail
      exact HFF.out
end fieldSum
end Go.Proofs.YtiinalgflmgnaaaDoor

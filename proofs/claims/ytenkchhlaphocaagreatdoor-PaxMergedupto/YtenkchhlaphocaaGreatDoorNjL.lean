import Derived.Test.YtenkchhlaphocaaGreatDoorNjK
import Derived.Test.YtenkchhlaphocaaGreatDoorNjE
namespace Go.Proofs.YtenkchhlaphocaaGreatDoor
open Go.RowKit
set_option linter.unusedVariables false
/-! ### first -/
def rxV : Rx → Value
  | .bad n e => .tuple #[.agg (prC ([], [])), .int .i64 (n : Nat), .int .i64 (e : Nat)]
  | .ok x n => .tuple #[.agg (prC x), .int .i64 (n : Nat), .int .i64 0]
theorem pr_info (x : Pr) : (Tryz.prog.info? 28).map (·.size) = some (prC x).size := by
  show _ = some 2
  kernel_rfl
theorem pr_one (x : Pr) : (prC x).all (·.oneCell') = true := by simp [prC, Value.oneCell']
theorem setRow_id {w : World} {g : Nat} {cs : Array Value} {T : Nat} (h : w.heap[g]? = some (.cells cs T)) : w.setRow g cs = w := by
  have hg := (Array.getElem?_eq_some_iff.1 h).1
  have he := (Array.getElem?_eq_some_iff.1 h).2
  unfold World.setRow
  congr 1
  apply Array.ext
  · simp
  · intro i h1 h2
    rw [Array.getElem_modify]
    split
    · rename_i e
      subst e
      rw [he]
    · rfl
/-- A function's end, whose first result lies in a cell. -/
theorem fret {R : Ending → World → Prop} {a : Act} {w : World} {x : Pr} {v3 v4 : Value} (rs : Nat) (h1 : a.tmps.getD 2 undef = .pointer (some ⟨rs, 0, none⟩)) (hrow : w.heap[rs]? = some (.cells (prC x) 28)) (h3 : a.tmps.getD 3 undef = v3) (h4 : a.tmps.getD 4 undef = v4) (hd : a.defers = []) (hR : R (.returned (.tuple #[.agg (prC x), v3, v4])) w) : bodyPost Tryz.prog Tryz.f20 R .ret a w := by
  have hl := run_loadVar_row (P := Tryz.prog) w rs 28 28 (prC x) (0, 0) _ hrow Tryz.underlying28 rfl (pr_info x)
  have hp' : a.tmps[2]?.getD undef = .pointer (some ⟨rs, 0, none⟩) := by simpa using h1
  have h3' : a.tmps[3]?.getD undef = v3 := by simpa using h3
  have h4' : a.tmps[4]?.getD undef = v4 := by simpa using h4
  refine bodyPost_ret ?_ hd hR
  simp [results, hp', asAddr, hl, h3', h4']
theorem lit10 (w : World) : Sl (fun _ => False) (.slice (some ⟨w.heap.size, 0, none⟩) 1 1) [10#8] (w.alloc (.cells #[.int .u8 10] 5 (1, 2))) := by
  refine .inr ⟨w.heap.size, fun h => h, 0, 1, rfl, by decide, by decide, fun j hj => ?_⟩
  have hj0 : j = 0 := by simp at hj; omega
  subst hj0
  have := newHeap w (.cells #[.int .u8 10] 5 (1, 2))
  unfold World.cell?
  rw [this]
  rfl
set_option maxHeartbeats 8000000 in
set_option maxRecDepth 100000 in
theorem first_any {X : Nat → Prop} (w : World) (a : Option Addr) (n c : Nat) (b : List By) (hb : Sl X (.slice a n c) b w) (hn : n ≤ 140737488351232) :
    Calls Tryz.prog 20 #[.slice a n c] w fun e w' => e = .returned (rxV (rc1 b)) ∧ Nw w w' := by
  obtain ⟨P, hP⟩ : ∃ P : Ending → World → Prop, P = fun e w' => e = .returned (rxV (rc1 b)) ∧ Nw w w' := ⟨_, rfl⟩
  rw [← hP]
  have HF : Hid (∀ r W, rc1 b = r → Nw w W → P (.returned (rxV r)) W) := fun r W h1 h2 => by rw [hP, h1]; exact ⟨rfl, h2⟩
  clear hP
  obtain ⟨hbn, k1, k2⟩ := sl_len hb
  obtain ⟨rs, hrs⟩ : ∃ rs, w.heap.size = rs := ⟨_, rfl⟩
  obtain ⟨W0, hW0⟩ : ∃ W0, w.alloc (.cells #[.string ⟨#[]⟩, .string ⟨#[]⟩] 28) = W0 := ⟨_, rfl⟩
  have hN0 : Nw w W0 := by rw [← hW0]; exact (Fr.refl _ _).alloc _
  have hR0 : W0.heap[rs]? = some (.cells (prC ([], [])) 28) := by rw [← hW0, ← hrs]; exact newHeap _ _
  have HA := tHid (ahead_any W0 a n c b (hb.nw hN0))
  have hwhy := la_why 0 0 b
  have hgood := la_good b
  have hrc : rc1 b = rc1 b := rfl
  conv at hrc => rhs; unfold rc1
  unfold laV at HA
  rw [hbn] at hrc hgood
  generalize la 0 0 b = L at *
  obtain ⟨N, I, y⟩ := L
  simp only at hwhy hgood hrc HA
  have HR0 := tHid hR0
  have HW0 := tHid hW0
  have HRS := tHid hrs
  have HN0 := tHid hN0
  have HB := tHid (And.intro hbn hb)
  clear hR0 hW0 hrs hN0 hb hbn
  by_cases y4 : y = 4
  · subst y4
    rw [if_pos rfl] at hrc
    have HF2 := tHid (HF.out _ W0 hrc HN0.out)
    clear HF hgood hwhy hrc HB
    go_enter Tryz.func20, Tryz.ntmps20
    go_upto_region 1 with fail
    rw [HW0.out, HRS.out]
    go_wp2_with (first
      | (go_at_call 36; with_reducible refine HA.out.mono ?_; rintro e w1 ⟨rfl, rfl⟩)
      | (refine wpList_store_row rfl 28 _ _ rfl rs (prC ([], [])) (by first | rfl | simp [Act.eval]) (by first | rfl | simp [Act.eval]) 28 _ HR0.out (pr_info _) rfl (pr_one _) ?_; rw [setRow_id HR0.out]))
    exact fret rs (by first | rfl | simp [Act.put]) HR0.out (by first | rfl | simp [Act.put]) (by first | rfl | simp [Act.put]) rfl HF2.out
  rw [if_neg y4] at hrc
  have y4' : ¬ ((y : Int) = 4) := by omega
  by_cases y0 : y ≠ 0
  · rw [if_pos (.inl y0)] at hrc
    obtain rfl : y = 140 := by omega
    have HF2 := tHid (HF.out _ W0 hrc HN0.out)
    clear HF hgood hwhy hrc HB y0 y4 y4'
    go_enter Tryz.func20, Tryz.ntmps20
    go_upto_region 1 with fail
    rw [HW0.out, HRS.out]
    go_wp2_with (first
      | (go_at_call 36; with_reducible refine HA.out.mono ?_; rintro e w1 ⟨rfl, rfl⟩)
      | (refine wpList_store_row rfl 28 _ _ rfl rs (prC ([], [])) (by first | rfl | simp [Act.eval]) (by first | rfl | simp [Act.eval]) 28 _ HR0.out (pr_info _) rfl (pr_one _) ?_; rw [setRow_id HR0.out]))
    exact fret rs (by first | rfl | simp [Act.put]) HR0.out (by first | rfl | simp [Act.put]) (by first | rfl | simp [Act.put]) rfl HF2.out
  have hy0 : y = 0 := by omega
  subst hy0
  obtain ⟨g7, g0, gN, gI, gb⟩ := hgood rfl
  clear hgood hwhy y0 y4 y4'
  obtain ⟨J, hJ⟩ : ∃ J, I + 1 = J := ⟨_, rfl⟩
  have hJi : (I : Int) + 1 = (J : Int) := by omega
  have hI4 : (I : Int) + 4 ≤ 11 := by omega
  by_cases c1 : N < I + 4
  · rw [if_pos (.inr c1)] at hrc
    have c1' : (N : Int) < (I : Int) + 4 := by omega
    have HF2 := tHid (HF.out _ W0 hrc HN0.out)
    clear HF hrc HB gb gI
    go_enter Tryz.func20, Tryz.ntmps20
    go_upto_region 1 with fail
    rw [HW0.out, HRS.out]
    go_wp2_with (first
      | (go_at_call 36; with_reducible refine HA.out.mono ?_; rintro e w1 ⟨rfl, rfl⟩)
      | (refine wpList_store_row rfl 28 _ _ rfl rs (prC ([], [])) (by first | rfl | simp [Act.eval]) (by first | rfl | simp [Act.eval]) 28 _ HR0.out (pr_info _) rfl (pr_one _) ?_; rw [setRow_id HR0.out]))
    exact fret rs (by first | rfl | simp [Act.put]) HR0.out (by first | rfl | simp [Act.put]) (by first | rfl | simp [Act.put]) rfl HF2.out
  have c1' : ¬ (N : Int) < (I : Int) + 4 := by omega
  have c1d : decide ((N : Int) < (I : Int) + 4) = false := decide_eq_false c1'
  rw [if_neg (by rintro (h | h); exact h rfl; exact c1 h)] at hrc
  by_cases c2 : n < N
  · rw [if_pos c2] at hrc
    have c2' : (n : Int) < (N : Int) := by omega
    have HF2 := tHid (HF.out _ W0 hrc HN0.out)
    clear HF hrc HB gb gI
    go_enter Tryz.func20, Tryz.ntmps20
    go_upto_region 1 with fail
    rw [HW0.out, HRS.out]
    go_wp2_with (first
      | (go_at_call 36; with_reducible refine HA.out.mono ?_; rintro e w1 ⟨rfl, rfl⟩)
      | (refine wpList_store_row rfl 28 _ _ rfl rs (prC ([], [])) (by first | rfl | simp [Act.eval]) (by first | rfl | simp [Act.eval]) 28 _ HR0.out (pr_info _) rfl (pr_one _) ?_; rw [setRow_id HR0.out]))
    exact fret rs (by first | rfl | simp [Act.put]) HR0.out (by first | rfl | simp [Act.put]) (by first | rfl | simp [Act.put]) rfl HF2.out
  have c2' : ¬ (n : Int) < (N : Int) := by omega
  have c2d : decide ((n : Int) < (N : Int)) = false := decide_eq_false c2'
  rw [if_neg c2] at hrc
  obtain ⟨hbn, hS⟩ := HB.out
  obtain ⟨M, hM⟩ : ∃ M, N = J + (M + 1) := ⟨N - J - 1, by omega⟩
  have hsl0 := sl_take (hS.nw HN0.out) N (by omega)
  obtain ⟨g, o, rfl, hsl1⟩ := sl_last hsl0 J (by omega)
  rw [show N - J = M + 1 by omega] at hsl1
  have hlastb : ((b.take N).drop J)[M]? = b[N - 1]? := by
    rw [List.getElem?_drop, List.getElem?_take, if_pos (by omega), show J + M = N - 1 by omega]
  obtain ⟨W1, hW1⟩ : ∃ W1, W0.alloc (.cells #[.int .u8 10] 5 (1, 2)) = W1 := ⟨_, rfl⟩
  have hN1 : Nw W0 W1 := by rw [← hW1]; exact (Fr.refl _ _).alloc _
  have hcv0 : (convert 32 32 (.slice (some ⟨W0.heap.size, 0, none⟩) 1 1)).run Tryz.prog (W0.alloc (.cells #[.int .u8 10] 5)) = .ok (.slice (some ⟨W0.heap.size, 0, none⟩) 1 1) W1 := by rw [← hW1]; exact Lib.run_convert_bytes_const W0 32 5 _ 1 1 Tryz.underlying32 Tryz.underlying5
  have hlit : Sl (fun _ => False) (.slice (some ⟨W0.heap.size, 0, none⟩) 1 1) [10#8] W1 := by rw [← hW1]; exact lit10 W0
  have HCS := tHid (cutSuf_any W1 _ _ _ _ (by omega : 1 ≤ M + 1) (hsl1.nw hN1) _ _ hlit)
  rw [Nat.add_sub_cancel, hlastb] at HCS
  have HR1 := tHid (hN1.heap HR0.out)
  obtain ⟨M1, hM1⟩ : ∃ M1, M + 1 = M1 := ⟨_, rfl⟩
  obtain ⟨K, hK⟩ : ∃ K, N - 1 = K := ⟨_, rfl⟩
  rw [hM1] at HCS
  have e1 : (J : Int) ≤ (N : Int) := by omega
  have e2 : (N : Int) ≤ (c : Int) := by omega
  have e3 : J < c := by omega
  have e4 : ¬ c ≤ J := by omega
  have e5 : ¬ c = J := by omega
  have e6 : N - J = M1 := by omega
  have e7 : (N : Int) - (J : Int) = (M1 : Int) := by omega
  have e8 : (N : Int) - 1 = (K : Int) := by omega
  have HN1 := tHid (HN0.out.trans hN1)
  have HSL := tHid (sl_take (hsl1.nw hN1) M (by omega))
  have HEQ := tHid (And.intro hM (And.intro hM1 (And.intro hK (And.intro hJ hbn))))
  have hKN : K ≤ N := by omega
  rw [hK] at HCS hrc
  rw [hJ] at hrc
  clear hM hM1 hK hJ hbn
  clear hsl0 hsl1 hlastb hN1 hlit hS HB hW1
  by_cases c3 : b[K]? = some 10#8
  · rw [if_neg (by intro h; exact h c3)] at hrc
    rw [decide_eq_true c3, if_pos c3] at HCS
    have hslM := HSL.out
    have hbd : ((b.take N).drop J).take M = (b.take K).drop J := by
      obtain ⟨q1, q2, q3, q4, q5⟩ := HEQ.out
      rw [List.drop_take, List.drop_take, List.take_take]
      congr 1
      omega
    rw [hbd] at hslM
    have hcv := conv_any hslM
    have hlen := (sl_len hslM).1
    have hMn : M ≤ n := by obtain ⟨q1, q2, q3, q4, q5⟩ := HEQ.out; omega
    have HK := tHid (scut_61 ((b.take K).drop J) W1 (by omega))
    generalize (b.take K).drop J = bd at *
    clear hbd hslM HSL gb c3
    go_enter Tryz.func20, Tryz.ntmps20
    go_upto_region 1 with fail
    rw [HW0.out, HRS.out]
    go_upto_region 12 with (first
      | (go_at_call 36; with_reducible refine HA.out.mono ?_; rintro e w1 ⟨rfl, rfl⟩)
      | (go_at_call 37; with_reducible refine HCS.out.mono ?_; rintro e w1 ⟨rfl, rfl⟩)
      | (go_at_call 22; with_reducible refine HK.out.mono ?_; rintro e w2 ⟨p, r, f, rfl, H2⟩))
    obtain ⟨hcut, hN2⟩ := H2.out
    obtain ⟨W3, hW3⟩ : ∃ W3, w2.alloc (.cells #[.string (str p), .string (str r)] 28) = W3 := ⟨_, rfl⟩
    have hN3 : Nw w2 W3 := by rw [← hW3]; exact (Fr.refl _ _).alloc _
    have HR3 := tHid (hN3.heap (hN2.heap HR1.out))
    have hpb : W3.heap[w2.heap.size]? = some (.cells (prC (p, r)) 28) := by rw [← hW3]; exact newHeap _ _
    have HN3 := tHid (HN1.out.trans (hN2.trans hN3))
    rcases hcut with ⟨rfl, hbd, hnk⟩ | ⟨rfl, rfl, rfl, hnk⟩
    · rw [hbd, cutE_app p r hnk] at hrc
      simp only at hrc
      have hpl : p.length ≤ 140737488351232 := by rw [hbd] at hlen; simp at hlen; omega
      have hrl : r.length ≤ 140737488351232 := by rw [hbd] at hlen; simp at hlen; omega
      have HP := tHid (poss_any (p, r) hpl hrl W3)
      have c0 : W3.cell? ⟨w2.heap.size, 0, none⟩ = some (.string (str p)) := by unfold World.cell?; rw [hpb]; rfl
      have c1 : W3.cell? ⟨w2.heap.size, 1, none⟩ = some (.string (str r)) := by unfold World.cell?; rw [hpb]; rfl
      have HC01 := tHid (And.intro c0 c1)
      have HPB := tHid (World.block_lt_of_cell? _ _ c0)
      have HRSl : Hid (w.heap.size ≤ rs) := by show _ ≤ _; rw [HRS.out]; exact Nat.le_refl _
      obtain ⟨pb, hpbe⟩ : ∃ pb, w2.heap.size = pb := ⟨_, rfl⟩
      rw [hpbe] at hpb c0 c1 HC01 HPB
      have HPBE := tHid hpbe
      have HW3 := tHid hW3
      simp only [prC] at HP
      clear hN2 H2 hN3 hpb hpbe hW3 hbd hnk HK HCS HA HR1 hcv hcv0 hlen hpl hrl
      go_upto_region 13 with fail
      rw [HW3.out, HPBE.out]
      cases hcan : canP (p, r) with
      | true =>
        rw [hcan] at HP
        rw [if_pos hcan] at hrc
        have HF2 : Hid (∀ V, Nw w V → P (.returned (rxV (.ok (p, r) N))) V) := fun V hV => HF.out _ V hrc hV
        clear HF hrc hcan HR0 HW0 HN0 HN1
        go_wp2_with (first
          | (go_at_call 17; with_reducible refine HP.out.mono ?_; rintro e w4 ⟨rfl, H4⟩; have HR4 := tHid (Nw.heap H4 HR3.out); have HN4 := tHid (Nw.trans HN3.out H4); have d0 := Nw.cell H4 HC01.out.1; have d1 := Nw.cell H4 HC01.out.2; have H4' := tHid H4; clear H4)
          | (refine wpList_store_row rfl 28 _ _ rfl rs (prC (p, r)) (by first | rfl | simp [Act.eval]) (by first | rfl | simp [Act.eval]) 28 _ HR4.out (pr_info _) rfl (pr_one _) ?_))
        exact fret rs (by first | rfl | simp [Act.put]) (setRow_heap _ rs _ _ 28 _ HR4.out) (by first | rfl | simp [Act.put]) (by first | rfl | simp [Act.put]) rfl (HF2.out _ (HN4.out.setRow rs _ (.inr HRSl.out)))
      | false =>
        rw [hcan] at HP
        rw [if_neg (by rw [hcan]; decide)] at hrc
        have HF2 : Hid (∀ V, Nw w V → P (.returned (rxV (.bad J 141))) V) := fun V hV => HF.out _ V hrc hV
        clear HF hrc hcan HR0 HW0 HN0 HN1
        go_upto_region 14 with (first
          | (go_at_call 17; with_reducible refine HP.out.mono ?_; rintro e w4 ⟨rfl, H4⟩; have HR4 := tHid (Nw.heap H4 HR3.out); have HN4 := tHid (Nw.trans HN3.out H4)))
        have HF3 := tHid (HF2.out _ HN4.out)
        go_wp2_with (first
          | (refine wpList_store_row rfl 28 _ _ rfl rs (prC ([], [])) (by first | rfl | simp [Act.eval]) (by first | rfl | simp [Act.eval]) 28 _ HR4.out (pr_info _) rfl (pr_one _) ?_; rw [setRow_id HR4.out]))
        exact fret rs (by first | rfl | simp [Act.put]) HR4.out (by first | rfl | simp [Act.put]) (by first | rfl | simp [Act.put]) rfl HF3.out
    · have hnone : cutE p = none := by
        rcases eqAt_cut p with ⟨h1, _⟩ | ⟨x, h1, _, h3, _⟩
        · exact h1
        · exact absurd (by rw [h3]; simp) hnk
      rw [hnone] at hrc
      simp only at hrc
      have HF2 := tHid (HF.out _ W3 hrc HN3.out)
      have HW3 := tHid hW3
      clear HF hrc hnone hnk H2 hN2 hN3 hpb hW3 HK HCS HA HR0 HR1 HN0 HN1 HW0 hcv hcv0 hlen
      go_upto_region 13 with fail
      rw [HW3.out]
      go_wp2_with (first
        | (refine wpList_store_row rfl 28 _ _ rfl rs (prC ([], [])) (by first | rfl | simp [Act.eval]) (by first | rfl | simp [Act.eval]) 28 _ HR3.out (pr_info _) rfl (pr_one _) ?_; rw [setRow_id HR3.out]))
      exact fret rs (by first | rfl | simp [Act.put]) HR3.out (by first | rfl | simp [Act.put]) (by first | rfl | simp [Act.put]) rfl HF2.out
  · rw [if_pos c3] at hrc
    rw [decide_eq_false c3, if_neg c3] at HCS
    have HF2 := tHid (HF.out _ W1 hrc HN1.out)
    clear HF hrc gb gI HSL c3
    go_enter Tryz.func20, Tryz.ntmps20
    go_upto_region 1 with fail
    rw [HW0.out, HRS.out]
    go_wp2_with (first
      | (go_at_call 36; with_reducible refine HA.out.mono ?_; rintro e w1 ⟨rfl, rfl⟩)
      | (go_at_call 37; with_reducible refine HCS.out.mono ?_; rintro e w1 ⟨rfl, rfl⟩)
      | (refine wpList_store_row rfl 28 _ _ rfl rs (prC ([], [])) (by first | rfl | simp [Act.eval]) (by first | rfl | simp [Act.eval]) 28 _ HR1.out (pr_info _) rfl (pr_one _) ?_; rw [setRow_id HR1.out]))
    exact fret rs (by first | rfl | simp [Act.put]) HR1.out (by first | rfl | simp [Act.put]) (by first | rfl | simp [Act.put]) rfl HF2.out
end Go.Proofs.YtenkchhlaphocaaGreatDoor

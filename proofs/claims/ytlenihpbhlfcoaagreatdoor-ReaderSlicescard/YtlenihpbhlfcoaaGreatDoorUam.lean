import Derived.Test.YtlenihpbhlfcoaaGreatDoorUal
set_option maxHeartbeats 8000000
set_option maxRecDepth 100000
set_option linter.unusedSimpArgs false
set_option linter.unusedVariables false
namespace Go.Proofs.YtlenihpbhlfcoaaGreatDoor
open Go.RowKit
def rxV : Rx → Value
 | .bad n e => .tuple #[.agg (prC ([], [])), .int .i64 (n : Nat), .int .i64 (e : Nat)]
 | .ok x n => .tuple #[.agg (prC x), .int .i64 (n : Nat), .int .i64 0]
theorem pr_info (x : Pr) : (Tryz.prog.info? 56).map (·.size) = some (prC x).size := by
 show _ = some 2
 kernel_rfl
theorem pr_one (x : Pr) : (prC x).all (·.oneCell') = true := by simp [prC, Value.oneCell']
theorem setRow_id {w : World} {g : Nat} {cs : Array Value} {T : Nat} (h : w.heap[g]? = some (.cells cs T)) : w.setRow g cs = w := by
 have hg := (Array.getElem?_eq_some_iff.1 h).1;have he := (Array.getElem?_eq_some_iff.1 h).2;unfold World.setRow;congr 1;apply Array.ext
 ·simp
 ·intro i h1 h2;rw [Array.getElem_modify];split
  ·rename_i e;subst e;rw [he]
  ·rfl
theorem fret {R : Ending → World → Prop} {a : Act} {w : World} {x : Pr} {v3 v4 : Value} (rs : Nat) (h1 : a.tmps.getD 2 undef = .pointer (some ⟨rs, 0, none⟩)) (hrow : w.heap[rs]? = some (.cells (prC x) 56)) (h3 : a.tmps.getD 3 undef = v3) (h4 : a.tmps.getD 4 undef = v4) (hd : a.defers = []) (hR : R (.returned (.tuple #[.agg (prC x), v3, v4])) w) : bodyPost Tryz.prog Tryz.f124 R .ret a w := by
 have hl := run_loadVar_row (P := Tryz.prog) w rs 56 56 (prC x) (0, 0) _ hrow Tryz.underlying56 rfl (pr_info x);have hp' : a.tmps[2]?.getD undef = .pointer (some ⟨rs, 0, none⟩) := by simpa using h1
 have h3' : a.tmps[3]?.getD undef = v3 := by simpa using h3
 have h4' : a.tmps[4]?.getD undef = v4 := by simpa using h4
 refine bodyPost_ret ?_ hd hR;simp [results, hp', asAddr, hl, h3', h4']
theorem lit10 (w : World) : Sl (fun _ => False) (.slice (some ⟨w.heap.size, 0, none⟩) 1 1) [10#8] (w.alloc (.cells #[.int .u8 10] 5 (1, 2))) := by
 refine .inr ⟨w.heap.size, fun h => h, 0, 1, rfl, by decide, by decide, fun j hj => ?_⟩;have hj0 : j = 0 := by simp at hj; omega
 subst hj0;have := newHeapJ w (.cells #[.int .u8 10] 5 (1, 2));unfold World.cell?;rw [this];rfl
theorem pfirst_any {X : Nat → Prop} (w : World) (a : Option Addr) (n c : Nat) (b : List By) (hb : Sl X (.slice a n c) b w) (hn : n ≤ 140737488351232) :
  Calls Tryz.prog 124 #[.slice a n c] w fun e w' => e = .returned (rxV (rc1 b)) ∧ Nw w w' := by
 refine asP fun P hP => ?_
 have HF : Hid (∀ r W, rc1 b = r → Nw w W → P (.returned (rxV r)) W) := fun r W h1 h2 => by rw [hP, h1]; exact ⟨rfl, h2⟩
 clear hP;obtain ⟨hbn, k1, k2⟩ := sl_lenJ hb;obtain ⟨rs, hrs⟩ : ∃ rs, w.heap.size = rs := ⟨_, rfl⟩;obtain ⟨W0, hW0⟩ : ∃ W0, w.alloc (.cells #[.string ⟨#[]⟩, .string ⟨#[]⟩] 56) = W0 := ⟨_, rfl⟩;have hN0 : Nw w W0 := by rw [← hW0]; exact (Fr.refl _ _).alloc _
 have hR0 : W0.heap[rs]? = some (.cells (prC ([], [])) 56) := by rw [← hW0, ← hrs]; exact newHeapJ _ _
 have HA := tHid (ahead_any W0 a n c b (hb.nw hN0));have hwhy := la_why 0 0 b;have hgood := la_good b;have hrc : rc1 b = rc1 b := rfl
 conv at hrc => rhs; unfold rc1
 unfold laV at HA;rw [hbn] at hrc hgood;generalize la 0 0 b = L at *;obtain ⟨N, I, y⟩ := L;simp only at hwhy hgood hrc HA;have HR0 := tHid hR0;have HW0 := tHid hW0;have HRS := tHid hrs;have HN0 := tHid hN0;have HB := tHid (And.intro hbn hb);clear hR0 hW0 hrs hN0 hb hbn;by_cases y4 : y = 4
 ·subst y4;rw [if_pos rfl] at hrc;have HF2 := tHid (HF.out _ W0 hrc HN0.out);clear HF hgood hwhy hrc HB;go_enter Tryz.func124, Tryz.ntmps124;go_upto_region 1 with fail;rw [HW0.out, HRS.out]
  go_wp2_with (first
   | (go_at_call 155; with_reducible refine HA.out.mono ?_; rintro e w1 ⟨rfl, rfl⟩)
   | (refine wpList_store_row rfl 56 _ _ rfl rs (prC ([], [])) (by first | rfl | simp [Act.eval]) (by first | rfl | simp [Act.eval]) 56 _ HR0.out (pr_info _) rfl (pr_one _) ?_; rw [setRow_id HR0.out]))
  exact fret rs (by first | rfl | simp [Act.put]) HR0.out (by first | rfl | simp [Act.put]) (by first | rfl | simp [Act.put]) rfl HF2.out
 rw [if_neg y4] at hrc;have y4' : ¬ ((y : Int) = 4) := by omega
 by_cases y0 : y ≠ 0
 ·rw [if_pos (.inl y0)] at hrc;obtain rfl : y = 140 := by omega
  have HF2 := tHid (HF.out _ W0 hrc HN0.out);clear HF hgood hwhy hrc HB y0 y4 y4';go_enter Tryz.func124, Tryz.ntmps124;go_upto_region 1 with fail;rw [HW0.out, HRS.out]
  go_wp2_with (first
   | (go_at_call 155; with_reducible refine HA.out.mono ?_; rintro e w1 ⟨rfl, rfl⟩)
   | (refine wpList_store_row rfl 56 _ _ rfl rs (prC ([], [])) (by first | rfl | simp [Act.eval]) (by first | rfl | simp [Act.eval]) 56 _ HR0.out (pr_info _) rfl (pr_one _) ?_; rw [setRow_id HR0.out]))
  exact fret rs (by first | rfl | simp [Act.put]) HR0.out (by first | rfl | simp [Act.put]) (by first | rfl | simp [Act.put]) rfl HF2.out
 have hy0 : y = 0 := by omega
 subst hy0;obtain ⟨g7, g0, gN, gI, gb⟩ := hgood rfl;clear hgood hwhy y0 y4 y4';obtain ⟨J, hJ⟩ : ∃ J, I + 1 = J := ⟨_, rfl⟩;have hJi : (I : Int) + 1 = (J : Int) := by omega
 have hI4 : (I : Int) + 4 ≤ 11 := by omega
 by_cases c1 : N < I + 4
 ·rw [if_pos (.inr c1)] at hrc;have c1' : (N : Int) < (I : Int) + 4 := by omega
  have HF2 := tHid (HF.out _ W0 hrc HN0.out);clear HF hrc HB gb gI;go_enter Tryz.func124, Tryz.ntmps124;go_upto_region 1 with fail;rw [HW0.out, HRS.out]
  go_wp2_with (first
   | (go_at_call 155; with_reducible refine HA.out.mono ?_; rintro e w1 ⟨rfl, rfl⟩)
   | (refine wpList_store_row rfl 56 _ _ rfl rs (prC ([], [])) (by first | rfl | simp [Act.eval]) (by first | rfl | simp [Act.eval]) 56 _ HR0.out (pr_info _) rfl (pr_one _) ?_; rw [setRow_id HR0.out]))
  exact fret rs (by first | rfl | simp [Act.put]) HR0.out (by first | rfl | simp [Act.put]) (by first | rfl | simp [Act.put]) rfl HF2.out
 have c1' : ¬ (N : Int) < (I : Int) + 4 := by omega
 have c1d : decide ((N : Int) < (I : Int) + 4) = false := decide_eq_false c1';rw [if_neg (by rintro (h | h); exact h rfl; exact c1 h)] at hrc;by_cases c2 : n < N
 ·rw [if_pos c2] at hrc;have c2' : (n : Int) < (N : Int) := by omega
  have HF2 := tHid (HF.out _ W0 hrc HN0.out);clear HF hrc HB gb gI;go_enter Tryz.func124, Tryz.ntmps124;go_upto_region 1 with fail;rw [HW0.out, HRS.out]
  go_wp2_with (first
   | (go_at_call 155; with_reducible refine HA.out.mono ?_; rintro e w1 ⟨rfl, rfl⟩)
   | (refine wpList_store_row rfl 56 _ _ rfl rs (prC ([], [])) (by first | rfl | simp [Act.eval]) (by first | rfl | simp [Act.eval]) 56 _ HR0.out (pr_info _) rfl (pr_one _) ?_; rw [setRow_id HR0.out]))
  exact fret rs (by first | rfl | simp [Act.put]) HR0.out (by first | rfl | simp [Act.put]) (by first | rfl | simp [Act.put]) rfl HF2.out
 have c2' : ¬ (n : Int) < (N : Int) := by omega
 have c2d : decide ((n : Int) < (N : Int)) = false := decide_eq_false c2';rw [if_neg c2] at hrc;obtain ⟨hbn, hS⟩ := HB.out;obtain ⟨M, hM⟩ : ∃ M, N = J + (M + 1) := ⟨N - J - 1, by omega⟩;have hsl0 := sl_takeJ (hS.nw HN0.out) N (by omega);obtain ⟨g, o, rfl, hsl1⟩ := sl_last hsl0 J (by omega);rw [show N - J = M + 1 by omega] at hsl1;have hlastb : ((b.take N).drop J)[M]? = b[N - 1]? := by
  rw [List.getElem?_drop, List.getElem?_take, if_pos (by omega), show J + M = N - 1 by omega]
 obtain ⟨W1, hW1⟩ : ∃ W1, W0.alloc (.cells #[.int .u8 10] 5 (1, 2)) = W1 := ⟨_, rfl⟩;have hN1 : Nw W0 W1 := by rw [← hW1]; exact (Fr.refl _ _).alloc _
 have hcv0 : (convert 22 22 (.slice (some ⟨W0.heap.size, 0, none⟩) 1 1)).run Tryz.prog (W0.alloc (.cells #[.int .u8 10] 5)) = .ok (.slice (some ⟨W0.heap.size, 0, none⟩) 1 1) W1 := by rw [← hW1]; exact Lib.run_convert_bytes_const W0 22 5 _ 1 1 Tryz.underlying22 Tryz.underlying5
 have hlit : Sl (fun _ => False) (.slice (some ⟨W0.heap.size, 0, none⟩) 1 1) [10#8] W1 := by rw [← hW1]; exact lit10 W0
 have HCS := tHid (cutSuf_any W1 _ _ _ _ (by omega : 1 ≤ M + 1) (hsl1.nw hN1) _ _ hlit);rw [Nat.add_sub_cancel, hlastb] at HCS;have HR1 := tHid (hN1.heap HR0.out);obtain ⟨M1, hM1⟩ : ∃ M1, M + 1 = M1 := ⟨_, rfl⟩;obtain ⟨K, hK⟩ : ∃ K, N - 1 = K := ⟨_, rfl⟩;rw [hM1] at HCS;have e1 : (J : Int) ≤ (N : Int) := by omega
 have e2 : (N : Int) ≤ (c : Int) := by omega
 have e3 : J < c := by omega
 have e4 : ¬ c ≤ J := by omega
 have e5 : ¬ c = J := by omega
 have e6 : N - J = M1 := by omega
 have e7 : (N : Int) - (J : Int) = (M1 : Int) := by omega
 have e8 : (N : Int) - 1 = (K : Int) := by omega
 have HN1 := tHid (HN0.out.trans hN1);have HSL := tHid (sl_takeJ (hsl1.nw hN1) M (by omega));have HEQ := tHid (And.intro hM (And.intro hM1 (And.intro hK (And.intro hJ hbn))));have hKN : K ≤ N := by omega
 rw [hK] at HCS hrc;rw [hJ] at hrc;clear hM hM1 hK hJ hbn;clear hsl0 hsl1 hlastb hN1 hlit hS HB hW1;by_cases c3 : b[K]? = some 10#8
 ·rw [if_neg (by intro h; exact h c3)] at hrc;rw [decide_eq_true c3, if_pos c3] at HCS;have hslM := HSL.out;have hbd : ((b.take N).drop J).take M = (b.take K).drop J := by
   obtain ⟨q1, q2, q3, q4, q5⟩ := HEQ.out;rw [List.drop_take, List.drop_take, List.take_take];congr 1;omega
  rw [hbd] at hslM;have hcv := conv_any hslM;have hlen := (sl_lenJ hslM).1;have hMn : M ≤ n := by obtain ⟨q1, q2, q3, q4, q5⟩ := HEQ.out; omega
  have HK := tHid (scut_61 ((b.take K).drop J) W1 (by omega));generalize (b.take K).drop J = bd at *;clear hbd hslM HSL gb c3;go_enter Tryz.func124, Tryz.ntmps124;go_upto_region 1 with fail;rw [HW0.out, HRS.out];go_upto_region 12 with (first
   | (go_at_call 155; with_reducible refine HA.out.mono ?_; rintro e w1 ⟨rfl, rfl⟩)
   | (go_at_call 156; with_reducible refine HCS.out.mono ?_; rintro e w1 ⟨rfl, rfl⟩)
   | (go_at_call 157; with_reducible refine HK.out.mono ?_; rintro e w2 ⟨p, r, f, rfl, H2⟩))
  obtain ⟨hcut, hN2⟩ := H2.out;obtain ⟨W3, hW3⟩ : ∃ W3, w2.alloc (.cells #[.string (str p), .string (str r)] 56) = W3 := ⟨_, rfl⟩;have hN3 : Nw w2 W3 := by rw [← hW3]; exact (Fr.refl _ _).alloc _
  have HR3 := tHid (hN3.heap (hN2.heap HR1.out));have hpb : W3.heap[w2.heap.size]? = some (.cells (prC (p, r)) 56) := by rw [← hW3]; exact newHeapJ _ _
  have HN3 := tHid (HN1.out.trans (hN2.trans hN3));rcases hcut with ⟨rfl, hbd, hnk⟩ | ⟨rfl, rfl, rfl, hnk⟩
  ·rw [hbd, cutE_app p r hnk] at hrc;simp only at hrc;have hpl : p.length ≤ 140737488351232 := by rw [hbd] at hlen; simp at hlen; omega
   have hrl : r.length ≤ 140737488351232 := by rw [hbd] at hlen; simp at hlen; omega
   have HP := tHid (poss_any (p, r) hpl hrl W3);have c0 : W3.cell? ⟨w2.heap.size, 0, none⟩ = some (.string (str p)) := by unfold World.cell?; rw [hpb]; rfl
   have c1 : W3.cell? ⟨w2.heap.size, 1, none⟩ = some (.string (str r)) := by unfold World.cell?; rw [hpb]; rfl
   have HC01 := tHid (And.intro c0 c1);have HPB := tHid (World.block_lt_of_cell? _ _ c0);have HRSl : Hid (w.heap.size ≤ rs) := by show _ ≤ _; rw [HRS.out]; exact Nat.le_refl _
   obtain ⟨pb, hpbe⟩ : ∃ pb, w2.heap.size = pb := ⟨_, rfl⟩;rw [hpbe] at hpb c0 c1 HC01 HPB;have HPBE := tHid hpbe;have HW3 := tHid hW3;simp only [prC] at HP;clear hN2 H2 hN3 hpb hpbe hW3 hbd hnk HK HCS HA HR1 hcv hcv0 hlen hpl hrl;go_upto_region 13 with fail;rw [HW3.out, HPBE.out];cases hcan : canP (p, r) with
   | true =>
    rw [hcan] at HP;rw [if_pos hcan] at hrc;have HF2 : Hid (∀ V, Nw w V → P (.returned (rxV (.ok (p, r) N))) V) := fun V hV => HF.out _ V hrc hV
    clear HF hrc hcan HR0 HW0 HN0 HN1
    go_wp2_with (first
     | (go_at_call 158; with_reducible refine HP.out.mono ?_; rintro e w4 ⟨rfl, H4⟩; have HR4 := tHid (Nw.heap H4 HR3.out); have HN4 := tHid (Nw.trans HN3.out H4); have d0 := Nw.cell H4 HC01.out.1; have d1 := Nw.cell H4 HC01.out.2; have H4' := tHid H4; clear H4)
     | (refine wpList_store_row rfl 56 _ _ rfl rs (prC (p, r)) (by first | rfl | simp [Act.eval]) (by first | rfl | simp [Act.eval]) 56 _ HR4.out (pr_info _) rfl (pr_one _) ?_))
    exact fret rs (by first | rfl | simp [Act.put]) (setRow_heap _ rs _ _ 56 _ HR4.out) (by first | rfl | simp [Act.put]) (by first | rfl | simp [Act.put]) rfl (HF2.out _ (HN4.out.setRow rs _ (.inr HRSl.out)))
   | false =>
    rw [hcan] at HP;rw [if_neg (by rw [hcan]; decide)] at hrc;have HF2 : Hid (∀ V, Nw w V → P (.returned (rxV (.bad J 141))) V) := fun V hV => HF.out _ V hrc hV
    clear HF hrc hcan HR0 HW0 HN0 HN1;go_upto_region 14 with (first
     | (go_at_call 158; with_reducible refine HP.out.mono ?_; rintro e w4 ⟨rfl, H4⟩; have HR4 := tHid (Nw.heap H4 HR3.out); have HN4 := tHid (Nw.trans HN3.out H4)))
    have HF3 := tHid (HF2.out _ HN4.out)
    go_wp2_with (first
     | (refine wpList_store_row rfl 56 _ _ rfl rs (prC ([], [])) (by first | rfl | simp [Act.eval]) (by first | rfl | simp [Act.eval]) 56 _ HR4.out (pr_info _) rfl (pr_one _) ?_; rw [setRow_id HR4.out]))
    exact fret rs (by first | rfl | simp [Act.put]) HR4.out (by first | rfl | simp [Act.put]) (by first | rfl | simp [Act.put]) rfl HF3.out
  ·have hnone : cutE p = none := by
    rcases eqAt_cut p with ⟨h1, _⟩ | ⟨x, h1, _, h3, _⟩
    ·exact h1
    ·exact absurd (by rw [h3]; simp) hnk
   rw [hnone] at hrc;simp only at hrc;have HF2 := tHid (HF.out _ W3 hrc HN3.out);have HW3 := tHid hW3;clear HF hrc hnone hnk H2 hN2 hN3 hpb hW3 HK HCS HA HR0 HR1 HN0 HN1 HW0 hcv hcv0 hlen;go_upto_region 13 with fail;rw [HW3.out]
   go_wp2_with (first
    | (refine wpList_store_row rfl 56 _ _ rfl rs (prC ([], [])) (by first | rfl | simp [Act.eval]) (by first | rfl | simp [Act.eval]) 56 _ HR3.out (pr_info _) rfl (pr_one _) ?_; rw [setRow_id HR3.out]))
   exact fret rs (by first | rfl | simp [Act.put]) HR3.out (by first | rfl | simp [Act.put]) (by first | rfl | simp [Act.put]) rfl HF2.out
 ·rw [if_pos c3] at hrc;rw [decide_eq_false c3, if_neg c3] at HCS;have HF2 := tHid (HF.out _ W1 hrc HN1.out);clear HF hrc gb gI HSL c3;go_enter Tryz.func124, Tryz.ntmps124;go_upto_region 1 with fail;rw [HW0.out, HRS.out]
  go_wp2_with (first
   | (go_at_call 155; with_reducible refine HA.out.mono ?_; rintro e w1 ⟨rfl, rfl⟩)
   | (go_at_call 156; with_reducible refine HCS.out.mono ?_; rintro e w1 ⟨rfl, rfl⟩)
   | (refine wpList_store_row rfl 56 _ _ rfl rs (prC ([], [])) (by first | rfl | simp [Act.eval]) (by first | rfl | simp [Act.eval]) 56 _ HR1.out (pr_info _) rfl (pr_one _) ?_; rw [setRow_id HR1.out]))
  exact fret rs (by first | rfl | simp [Act.put]) HR1.out (by first | rfl | simp [Act.put]) (by first | rfl | simp [Act.put]) rfl HF2.out
theorem eq_45 (c : By) : ((str [c]).toList == ([45] : List UInt8)) = decide (c = 45#8) := by
 have := str_beqJ [c] [45#8];rw [show (str [45#8]).toList = [45] from str_toList _] at this;rw [this];by_cases h : c = 45#8
 ·subst h; rfl
 ·rw [decide_eq_false h, decide_eq_false (by intro e; injection e with e; exact h e)]
theorem hp45_any (l : Bs) (w : World) (hs : l.length ≤ 140737488351232) : Calls Tryz.prog 132 #[.string (str l), .string ⟨#[45]⟩] w fun e w' => e = .returned (.bool (minusV l)) ∧ w = w' := by
 refine asP fun P hP => ?_
 cases l with
 | nil =>
  have HF : Hid (P (.returned (.bool false)) w) := by rw [hP]; exact ⟨rfl, rfl⟩
  clear hP;show Calls Tryz.prog 132 #[.string ⟨#[]⟩, .string ⟨#[45]⟩] w P;go_enter Tryz.func132, Tryz.ntmps132
  go_wp2_with fail
  exact HF.out
 | cons c r =>
  have hm : minusV (c :: r) = decide (c = 45#8) := by unfold minusV; simp
  have HF : Hid (P (.returned (.bool (decide (c = 45#8)))) w) := by rw [hP, hm]; exact ⟨rfl, rfl⟩
  have x1 : (str (c :: r)).extract 0 1 = str [c] := str_pre [c] r;have hsz := str_size (c :: r);have hb := eq_45 c;rw [List.length_cons] at hsz hs;have z1 : 1 ≤ (str (c :: r)).size := by omega
  have z2 : (1 : Int) ≤ ((str (c :: r)).size : Int) := by omega
  have z3 : decide ((1 : Int) ≤ ((str (c :: r)).size : Int)) = true := decide_eq_true z2;have z4 : decide (1 ≤ (str (c :: r)).size) = true := decide_eq_true z1;have z5 : (str (c :: r)).size ≤ 140737488351232 := by omega
  clear hP hsz hs hm;generalize str (c :: r) = s at *;generalize str [c] = sp at *;generalize decide (c = 45#8) = B at *;go_enter Tryz.func132, Tryz.ntmps132
  go_wp2_with fail
  exact HF.out
theorem slcp_any (l : Bs) (w : World) (hs : l.length ≤ 140737488351232) : Calls Tryz.prog 218 #[.string (str l), .string ⟨#[45]⟩] w fun e w' => e = .returned (.tuple #[.string (str (restV l)), .bool (minusV l)]) ∧ w = w' := by
 refine asP fun P hP => ?_
 have HJ := tHid (hp45_any l w hs);cases hm : minusV l with
 | true =>
  cases l with
  | nil => cases hm
  | cons c r =>
   have hr : restV (c :: r) = r := by unfold restV; rw [hm]; rfl
   have HF : Hid (P (.returned (.tuple #[.string (str r), .bool true])) w) := by rw [hP, hr, hm]; exact ⟨rfl, rfl⟩
   have hx := str_tail c r;have hsz := str_size (c :: r);rw [List.length_cons] at hsz hs;have z2 : (1 : Int) ≤ ((str (c :: r)).size : Int) := by omega
   have z3 : 1 ≤ (str (c :: r)).size := by omega
   have z5 : (str (c :: r)).size ≤ 140737488351232 := by omega
   rw [hm] at HJ;clear hP hm hr hs hsz;generalize str (c :: r) = s at *;generalize str r = t at *;go_enter Tryz.func218, Tryz.ntmps218
   go_wp2_with (first | (go_at_call 132; with_reducible refine HJ.out.mono ?_; rintro e w1 ⟨rfl, rfl⟩))
   first | exact HF.out | (go_ret; exact HF.out)
 | false =>
  have hr : restV l = l := by unfold restV; rw [hm]; rfl
  have HF : Hid (P (.returned (.tuple #[.string (str l), .bool false])) w) := by rw [hP, hr, hm]; exact ⟨rfl, rfl⟩
  rw [hm] at HJ;clear hP hm hr;generalize str l = s at *;go_enter Tryz.func218, Tryz.ntmps218
  go_wp2_with (first | (go_at_call 132; with_reducible refine HJ.out.mono ?_; rintro e w1 ⟨rfl, rfl⟩))
  first | exact HF.out | (go_ret; exact HF.out)
theorem cp_any (l : Bs) (w : World) (hs : l.length ≤ 140737488351232) : Calls Tryz.prog 184 #[.string (str l), .string ⟨#[45]⟩] w fun e w' => e = .returned (.tuple #[.string (str (restV l)), .bool (minusV l)]) ∧ w = w' := by
 refine asP fun P hP => ?_
 have HJ := tHid (slcp_any l w hs);have HF : Hid (P (.returned (.tuple #[.string (str (restV l)), .bool (minusV l)])) w) := by rw [hP]; exact ⟨rfl, rfl⟩
 clear hP;generalize str (restV l) = t at *;generalize str l = s at *;generalize minusV l = B at *;go_enter Tryz.func184, Tryz.ntmps184
 go_wp2_with (first | (go_at_call 218; with_reducible refine HJ.out.mono ?_; rintro e w1 ⟨rfl, rfl⟩))
 first | exact HF.out | (go_ret; exact HF.out)
theorem pad_at (re : Bs) (I : Nat) (hI : I < 9) : val 0 ((re ++ List.replicate 9 48#8).take (I + 1)) = val 0 ((re ++ List.replicate 9 48#8).take I) * 10 + (if h : I < re.length then (re[I]'h).toNat - 48 else 0) := by
 have hl : I < (re ++ List.replicate 9 48#8).length := by rw [List.length_append, List.length_replicate]; omega
 rw [List.take_add_one, List.getElem?_eq_getElem hl, Option.toList_some, val_app];show val 0 (List.take I _) * 10 + (_ - 48) = _;congr 1;by_cases h : I < re.length
 ·rw [dif_pos h, List.getElem_append_left h]
 ·rw [dif_neg h, List.getElem_append_right (by omega), List.getElem_replicate];rfl
theorem nano_any (re : Bs) (hd : ∀ c ∈ re, isDK c) (hl : re.length ≤ 140737488351232) (w : World) : Calls Tryz.prog 185 #[.string (str re)] w fun e w' => e = .returned (.int .i32 (nanoV re : Nat)) ∧ w = w' := by
 refine asP fun P hP => ?_
 have HF : Hid (P (.returned (.int .i32 (nanoV re : Nat))) w) := by rw [hP]; exact ⟨rfl, rfl⟩
 clear hP;have hsz := str_size re;have hget : Hid (∀ j (h : j < (str re).size) (h' : j < re.length), ((str re)[j]'h).toNat = (re[j]'h').toNat) := fun j h h' => str_get re j h
 have HD := tHid hd;clear hd;generalize str re = s at *;go_enter Tryz.func185, Tryz.ntmps185;go_upto_region 3 with fail;go_loopg [3, 5] 9 (fun kx v i wr => ∃ (I N : Nat), I ≤ 9 ∧ 9 - I ≤ kx ∧ i = .int .i64 I ∧ v = .int .i32 N ∧ N < 1000000000 ∧ wr = w ∧ Hid (N = val 0 ((re ++ List.replicate 9 48#8).take I) ∧ N < 10 ^ I))
 case atStart => exact ⟨0, 0, by omega, by omega, rfl, rfl, by omega, rfl, rfl, by decide⟩
 case round =>
  obtain ⟨I, N, hI, hkx, rfl, rfl, hN, hw, HV⟩ := hrel;have hw' := hw.symm;subst hw';clear hw;obtain ⟨hv, hp⟩ := HV.out;by_cases hlt : I < 9
  ·have hlt' : (I : Int) < 9 := by omega
   have hpa := pad_at re I hlt;rw [← hv] at hpa;have hps : 10 ^ (I + 1) = 10 * 10 ^ I := by rw [Nat.pow_succ, Nat.mul_comm]
   have hp9 : 10 ^ (I + 1) ≤ 10 ^ 9 := Nat.pow_le_pow_right (by decide) (by omega);have hp9' : (10 : Nat) ^ 9 = 1000000000 := rfl;by_cases hr : I < re.length
   ·rw [dif_pos hr] at hpa;have hr' : I < s.size := by omega
    have hg := hget.out I hr' hr;have hd := HD.out _ (List.getElem_mem hr);unfold isDK at hd;obtain ⟨y, hy⟩ : ∃ y, (re[I]'hr).toNat = y := ⟨_, rfl⟩;rw [hy] at hg hd hpa;obtain ⟨z, hz⟩ : ∃ z, y - 48 = z := ⟨_, rfl⟩;have hyz : (y : Int) - 48 = (z : Int) := by omega
    rw [hz] at hpa;obtain ⟨T, hT⟩ : ∃ T, N * 10 = T := ⟨_, rfl⟩;have hTi : (N : Int) * 10 = (T : Int) := by omega
    obtain ⟨M, hM⟩ : ∃ M, T + z = M := ⟨_, rfl⟩;have hMi : (T : Int) + (z : Int) = (M : Int) := by omega
    rw [hT, hM] at hpa;have hM9 : M < 1000000000 := by omega
    have hT9 : T < 1000000000 := by omega
    have hz9 : z ≤ 9 := by omega
    have HV2 := tHid (And.intro hpa.symm (show M < 10 ^ (I + 1) by omega));have hrI : (I : Int) < (re.length : Int) := by omega
    have hwz : (z : Int) ≤ 9 := by omega
    clear HF HV hv hp hpa hps hp9 hp9' hT hM hz hget HD hy hd
    go_wp2_with fail
    go_roundg (9 - (I + 1))
    case measure => omega
    case rel => exact ⟨I + 1, M, by omega, by omega, by first | rfl | (congr 1), by first | rfl | (congr 1), hM9, rfl, HV2⟩
   ·rw [dif_neg hr, Nat.add_zero] at hpa;obtain ⟨T, hT⟩ : ∃ T, N * 10 = T := ⟨_, rfl⟩;have hTi : (N : Int) * 10 = (T : Int) := by omega
    rw [hT] at hpa;have hT9 : T < 1000000000 := by omega
    have HV2 := tHid (And.intro hpa.symm (show T < 10 ^ (I + 1) by omega));have hrI : ¬ (I : Int) < (re.length : Int) := by omega
    clear HF HV hv hp hpa hps hp9 hp9' hT hget HD
    go_wp2_with fail
    go_roundg (9 - (I + 1))
    case measure => omega
    case rel => exact ⟨I + 1, T, by omega, by omega, by first | rfl | (congr 1), by first | rfl | (congr 1), hT9, rfl, HV2⟩
  ·obtain rfl : I = 9 := by omega
   have HF2 : Hid (P (.returned (.int .i32 (N : Nat))) w) := by rw [hv]; exact HF.out
   clear HF HV hv hp hget HD
   go_wp2_with fail
   first | exact HF2.out | (go_ret; exact HF2.out)
theorem cutD_of {l p r : Bs} {f : Bool} (h : CutsB 46#8 l p r f) : cutD l = (p, r) := by
 have key : ∀ (q t : Bs), 46#8 ∉ q → cutD (q ++ 46#8 :: t) = (q, t) ∧ cutD q = (q, []) := by
  intro q t
  induction q with
  | nil => intro _; exact ⟨by simp [cutD], rfl⟩
  | cons c u ih =>
   intro hm;rw [List.mem_cons, not_or] at hm;obtain ⟨e1, e2⟩ := ih hm.2;rw [List.cons_append, cutD, cutD, if_neg (fun e => hm.1 e.symm), if_neg (fun e => hm.1 e.symm), e1, e2];exact ⟨rfl, rfl⟩
 rcases h with ⟨_, rfl, h⟩ | ⟨_, rfl, rfl, h⟩
 ·exact (key p r h).1
 ·exact (key _ [] h).2
theorem cutD_len (l : Bs) : (cutD l).1.length ≤ l.length ∧ (cutD l).2.length ≤ l.length := by
 induction l with
 | nil => simp [cutD]
 | cons c r ih =>
  rw [cutD];split
  ·simp
  ·simp only [List.length_cons]; omega
theorem restV_len (l : Bs) : (restV l).length ≤ l.length := by
 unfold restV;split
 ·simp
 ·exact Nat.le_refl _
def tmV (l : Bs) : Value := .tuple #[.int .i64 (timV l).1, .int .i32 ((timV l).2.1 : Nat), .int .i64 ((timV l).2.2 : Nat)]
theorem time_any (l : Bs) (hl : l.length ≤ 140737488351232) (w : World) (hE : Env w) : Calls Tryz.prog 144 #[.string (str l)] w fun e w' => e = .returned (tmV l) ∧ Nw w w' := by
 refine asP fun P hP => ?_
 have HF : Hid (∀ x V, timV l = x → Nw w V → P (.returned (.tuple #[.int .i64 x.1, .int .i32 (x.2.1 : Nat), .int .i64 (x.2.2 : Nat)])) V) := fun x V hx hV => by rw [hP]; unfold tmV; rw [hx]; exact ⟨rfl, hV⟩
 clear hP;have htim : timV l = timV l := rfl
 conv at htim => rhs; unfold timV
 have hr1 := restV_len l;have HCP := tHid (cp_any l w hl);have HCU := tHid (scut_46 (restV l) w (by omega));have hcl := cutD_len (restV l);have hnl := numV_lt (cutD (restV l)).1;have HENV := tHid hE;go_enter Tryz.func144, Tryz.ntmps144;go_upto_region 3 with (first
  | (go_at_call 184; with_reducible refine HCP.out.mono ?_; rintro e w1 ⟨rfl, rfl⟩)
  | (go_at_call 157; with_reducible refine HCU.out.mono ?_; rintro e w2 ⟨p, r, f, rfl, H2⟩))
 obtain ⟨hcut, hN2⟩ := H2.out;have hcd := cutD_of hcut;rw [hcd] at htim hcl hnl;simp only at htim hcl hnl;have HDG := tHid (fun V => digs_any r (by omega) V);have HNU : Hid (∀ V, Nw w V → _) := fun V hV => num_any p (by omega) V (hE.nw hV)
 have HN2 := tHid hN2;clear HCP HCU hcut hcd H2 hN2 hE;cases hA : allD r with
 | false =>
  rw [hA, if_pos rfl] at htim;rw [hA] at HDG;have HF2 : Hid (∀ V, Nw w V → P (.returned (.tuple #[.int .i64 0, .int .i32 0, .int .i64 120])) V) := fun V hV => HF.out _ V htim hV
  clear HF htim hA HNU;generalize str p = sp at *;generalize str r = sr at *
  go_wp2_with (first | (go_at_call 112; with_reducible refine (HDG.out _).mono ?_; rintro e w3 ⟨rfl, H3⟩; have H3 := tHid H3))
  first | exact HF2.out _ (HN2.out.trans H3.out) | (go_ret; exact HF2.out _ (HN2.out.trans H3.out))
 | true =>
  rw [hA, if_neg (by decide)] at htim;rw [hA] at HDG;have hdr := (allD_iff r).1 hA;have HNO := tHid (fun V => nano_any r hdr (by omega) V);have hnv := nanoV_lt r hdr;generalize numV p = Q at *;obtain ⟨N, E⟩ := Q;simp only at htim hnl;by_cases he : E ≠ 0
  ·rw [if_pos he] at htim;have he0 : ¬ ((E : Int) = 0) := by omega
   have HF2 : Hid (∀ V, Nw w V → P (.returned (.tuple #[.int .i64 0, .int .i32 0, .int .i64 (E : Nat)])) V) := fun V hV => HF.out _ V htim hV
   clear HF htim hA HNO hdr;generalize str p = sp at *;generalize str r = sr at *
   go_wp2_with (first
    | (go_at_call 112; with_reducible refine (HDG.out _).mono ?_; rintro e w3 ⟨rfl, H3⟩; have H3 := tHid H3)
    | (go_at_call 85; with_reducible refine (HNU.out _ (Nw.trans HN2.out H3.out)).mono ?_; rintro e w4 ⟨rfl, H4⟩; have H4 := tHid H4))
   first | exact HF2.out _ ((HN2.out.trans H3.out).trans H4.out) | (go_ret; exact HF2.out _ ((HN2.out.trans H3.out).trans H4.out))
  ·have hE0 : E = 0 := by omega
   subst hE0;rw [if_neg he] at htim;generalize nanoV r = K at *;clear hA hdr he;cases hm : minusV l with
   | false =>
    rw [hm, if_pos rfl] at htim;have HF2 : Hid (∀ V, Nw w V → P (.returned (.tuple #[.int .i64 (N : Nat), .int .i32 (K : Nat), .int .i64 0])) V) := fun V hV => HF.out _ V htim hV
    clear HF htim hm;generalize str p = sp at *;generalize str r = sr at *
    go_wp2_with (first
     | (go_at_call 112; with_reducible refine (HDG.out _).mono ?_; rintro e w3 ⟨rfl, H3⟩; have H3 := tHid H3)
     | (go_at_call 85; with_reducible refine (HNU.out _ (Nw.trans HN2.out H3.out)).mono ?_; rintro e w4 ⟨rfl, H4⟩; have H4 := tHid H4)
     | (go_at_call 185; with_reducible refine (HNO.out _).mono ?_; rintro e w5 ⟨rfl, rfl⟩))
    first | exact HF2.out _ ((HN2.out.trans H3.out).trans H4.out) | (go_ret; exact HF2.out _ ((HN2.out.trans H3.out).trans H4.out))
   | true =>
    rw [hm, if_neg (by decide)] at htim;by_cases hk : K = 0
    ·rw [if_pos hk] at htim;subst hk;have HNO2 : Hid (∀ V, Calls Tryz.prog 185 #[.string (str r)] V fun e w' => e = .returned (.int .i32 0) ∧ V = w') := HNO;have HF2 : Hid (∀ V, Nw w V → P (.returned (.tuple #[.int .i64 (-(N : Int)), .int .i32 0, .int .i64 0])) V) := fun V hV => HF.out _ V htim hV
     clear HF htim hm HNO;generalize str p = sp at *;generalize str r = sr at *
     go_wp2_with (first
      | (go_at_call 112; with_reducible refine (HDG.out _).mono ?_; rintro e w3 ⟨rfl, H3⟩; have H3 := tHid H3)
      | (go_at_call 85; with_reducible refine (HNU.out _ (Nw.trans HN2.out H3.out)).mono ?_; rintro e w4 ⟨rfl, H4⟩; have H4 := tHid H4)
      | (go_at_call 185; with_reducible refine (HNO2.out _).mono ?_; rintro e w5 ⟨rfl, rfl⟩))
     first | exact HF2.out _ ((HN2.out.trans H3.out).trans H4.out) | (go_ret; exact HF2.out _ ((HN2.out.trans H3.out).trans H4.out))
    ·rw [if_neg hk] at htim;have hk0 : ¬ ((K : Int) = 0) := by omega
     obtain ⟨M, hM⟩ : ∃ M, 1000000000 - K = M := ⟨_, rfl⟩;have hMi : (1000000000 : Int) - (K : Int) = (M : Int) := by omega
     rw [hM] at htim;have hM9 : M < 1000000000 := by omega
     have HF2 : Hid (∀ V, Nw w V → P (.returned (.tuple #[.int .i64 (-(N : Int) - 1), .int .i32 (M : Nat), .int .i64 0])) V) := fun V hV => HF.out _ V htim hV
     clear HF htim hm hM hk;generalize str p = sp at *;generalize str r = sr at *
     go_wp2_with (first
      | (go_at_call 112; with_reducible refine (HDG.out _).mono ?_; rintro e w3 ⟨rfl, H3⟩; have H3 := tHid H3)
      | (go_at_call 85; with_reducible refine (HNU.out _ (Nw.trans HN2.out H3.out)).mono ?_; rintro e w4 ⟨rfl, H4⟩; have H4 := tHid H4)
      | (go_at_call 185; with_reducible refine (HNO.out _).mono ?_; rintro e w5 ⟨rfl, rfl⟩))
     first | exact HF2.out _ ((HN2.out.trans H3.out).trans H4.out) | (go_ret; exact HF2.out _ ((HN2.out.trans H3.out).trans H4.out))
end Go.Proofs.YtlenihpbhlfcoaaGreatDoor

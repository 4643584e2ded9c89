import Derived.Test.YtlenihpbhlfcoaaGreatDoorUbd
set_option maxHeartbeats 8000000
set_option maxRecDepth 100000
set_option linter.unusedSimpArgs false
set_option linter.unusedVariables false
namespace Go.Proofs.YtlenihpbhlfcoaaGreatDoor
open Go.RowKit
theorem ext_last (s : ByteArray) (N : Nat) (h : s.size = N + 1) : ((s.extract N (N + 1)).toList == [47]) = slE s := by
 have hl : s.data.toList.length = N + 1 := by rw [Array.length_toList]; exact h
 have hd : (s.extract N (N + 1)).data.toList = [s.data.toList[N]'(by omega)] := by
  rw [ByteArray.data_extract, Array.toList_extract, List.extract, Nat.add_sub_cancel_left, List.drop_eq_getElem_cons (by omega)];rfl
 have e47 : (⟨#[47]⟩ : ByteArray).toList = [47] := by decide +kernel
 have hb := str_beq (s.extract N (N + 1)) ⟨#[47]⟩;rw [e47] at hb;rw [hb];unfold slE;rw [decide_eq_true (by omega : 0 < s.size), Bool.true_and];have hg : s.data.toList.getLast? = some (s.data.toList[N]'(by omega)) := by
  have e : s.data.toList.length - 1 = N := by omega
  rw [List.getLast?_eq_getElem?, e];exact List.getElem?_eq_getElem (by omega)
 rw [hg];congr 1;apply propext;constructor
 ·intro e;rw [e] at hd;injection hd with h1 h2;rw [← h1]
 ·intro e;injection e with e;apply ByteArray.ext;apply Array.ext';rw [hd, e]
theorem slSuf_any (s : ByteArray) (hs : s.size ≤ 140737488351232) (w : World) : Calls Tryz.prog 145 #[.string s, .string ⟨#[47]⟩] w fun e w' => e = .returned (.bool (slE s)) ∧ w' = w := by
 refine asP fun P hP => ?_
 have HF : Hid (∀ r, slE s = r → P (.returned (.bool r)) w) := fun r hr => by rw [hP, ← hr]; exact ⟨rfl, rfl⟩
 clear hP;cases hn : s.size with
 | zero =>
  have h0 : slE s = false := by unfold slE; rw [decide_eq_false (by omega)]; rfl
  have HE := tHid (HF.out _ h0);have d1 : ¬ (1 : Int) ≤ (s.size : Int) := by omega
  clear HF h0 hs hn;go_enter Tryz.func145, Tryz.ntmps145
  go_wp2_with fail
  exact HE.out
 | succ N =>
  have hx := ext_last s N hn;obtain ⟨M, hM⟩ : ∃ M, N + 1 = M := ⟨_, rfl⟩;rw [hM] at hx hn;have d1 : (1 : Int) ≤ (M : Int) := by omega
  have d2 : (M : Int) - 1 = (N : Int) := by omega
  have d3 : (N : Int) ≤ (M : Int) := by omega
  have d4 : N ≤ M := by omega
  have kw : IntKind.i64.wrap (N : Int) = (N : Int) := by rw [IntKind.wrap_i64]; omega
  obtain ⟨t, ht⟩ : ∃ t, s.extract N M = t := ⟨_, rfl⟩;rw [ht] at hx;obtain ⟨B, hB⟩ : ∃ B, slE s = B := ⟨_, rfl⟩;have HE := tHid (HF.out _ hB);rw [hB] at hx;clear HF hB hs hM;go_enter Tryz.func145, Tryz.ntmps145
  go_wp2_with fail
  exact HE.out
theorem sSuf_any (s : ByteArray) (hs : s.size ≤ 140737488351232) (w : World) : Calls Tryz.prog 116 #[.string s, .string ⟨#[47]⟩] w fun e w' => e = .returned (.bool (slE s)) ∧ w' = w := by
 refine asP fun P hP => ?_
 have HF : Hid (P (.returned (.bool (slE s))) w) := by rw [hP]; exact ⟨rfl, rfl⟩
 have HS := tHid (slSuf_any s hs w);clear hP;go_enter Tryz.func116, Tryz.ntmps116
 go_wp2_with (first | (go_at_call 145; with_reducible refine HS.out.mono ?_; rintro e w2 ⟨rfl, rfl⟩))
 exact HF.out
theorem qkindOf_any (h : Hr) (nm : ByteArray) (hn : nm.size ≤ 140737488351232) (w : World) : Calls Tryz.prog 90 #[.agg h.C, .string nm] w fun e w' => e = .returned (.int .i64 (kdR h nm : Nat)) ∧ Nw w w' := by
 refine asP fun P hP => ?_
 obtain ⟨W0, hW0⟩ : ∃ W0, w.alloc (.cells h.C 62) = W0 := ⟨_, rfl⟩;have hN0 : Nw w W0 := by rw [← hW0]; exact (Fr.refl _ _).alloc _
 have rh : W0.heap[w.heap.size]? = some (.cells h.C 62) := by rw [← hW0]; exact newHeap _ _
 have x8 : W0.cell? ⟨w.heap.size, 8, none⟩ = some (.int .u8 h.typ.toNat) := cell_of rh 8 _ rfl;have HW0 := tHid hW0;have HRH := tHid rh;have HSZ := tHid (hcSize h);have HSf := tHid (sSuf_any nm hn W0);have HIs := tHid (qisOld_any h W0);have HF : Hid (∀ W r, Nw W0 W → kdR h nm = r → P (.returned (.int .i64 (r : Nat))) W) := fun W r hW hr => by rw [hP, ← hr]; exact ⟨rfl, hN0.trans hW⟩
 have HR := tHid (Fr.refl (fun _ => False) W0);clear hP hW0 hN0 rh;have b1 : ((h.typ.toNat : Int) == 48) = decide (h.typ = 48#8) := by_beq h.typ 48 (by omega);have b2 : ((h.typ.toNat : Int) == 49) = decide (h.typ = 49#8) := by_beq h.typ 49 (by omega);have b3 : ((h.typ.toNat : Int) == 50) = decide (h.typ = 50#8) := by_beq h.typ 50 (by omega);have b4 : ((h.typ.toNat : Int) == 53) = decide (h.typ = 53#8) := by_beq h.typ 53 (by omega);have b5 : ((h.typ.toNat : Int) == 55) = decide (h.typ = 55#8) := by_beq h.typ 55 (by omega);unfold kdR at HF;by_cases h1 : h.typ = 48#8
 ·rw [if_pos h1] at HF;rw [decide_eq_true h1] at b1;clear h1 b2 b3 b4 b5 HIs;cases hb : slE nm with
  | true =>
   rw [hb] at HSf HF;rw [if_pos rfl] at HF;clear hb;go_enter Tryz.func90, Tryz.ntmps90;go_upto_region 1 with fail;rw [HW0.out]
   go_wp2_with (first | (go_at_call 116; with_reducible refine HSf.out.mono ?_; rintro e w2 ⟨rfl, rfl⟩))
   exact HF.out _ _ HR.out rfl
  | false =>
   rw [hb] at HSf HF;rw [if_neg (by decide)] at HF;clear hb;go_enter Tryz.func90, Tryz.ntmps90;go_upto_region 1 with fail;rw [HW0.out]
   go_wp2_with (first | (go_at_call 116; with_reducible refine HSf.out.mono ?_; rintro e w2 ⟨rfl, rfl⟩))
   exact HF.out _ _ HR.out rfl
 rw [if_neg h1] at HF;rw [decide_eq_false h1] at b1;by_cases h2 : h.typ = 49#8
 ·rw [if_pos h2] at HF;rw [decide_eq_true h2] at b2;clear h1 h2 b3 b4 b5 HIs HSf;go_enter Tryz.func90, Tryz.ntmps90;go_upto_region 1 with fail;rw [HW0.out]
  go_wp2_with fail
  exact HF.out _ _ HR.out rfl
 rw [if_neg h2] at HF;rw [decide_eq_false h2] at b2;by_cases h3 : h.typ = 50#8
 ·rw [if_pos h3] at HF;rw [decide_eq_true h3] at b3;clear h1 h2 h3 b4 b5 HIs HSf;go_enter Tryz.func90, Tryz.ntmps90;go_upto_region 1 with fail;rw [HW0.out]
  go_wp2_with fail
  exact HF.out _ _ HR.out rfl
 rw [if_neg h3] at HF;rw [decide_eq_false h3] at b3;by_cases h4 : h.typ = 53#8
 ·rw [if_pos h4] at HF;rw [decide_eq_true h4] at b4;clear h1 h2 h3 h4 b5 HIs HSf;go_enter Tryz.func90, Tryz.ntmps90;go_upto_region 1 with fail;rw [HW0.out]
  go_wp2_with fail
  exact HF.out _ _ HR.out rfl
 rw [if_neg h4] at HF;rw [decide_eq_false h4] at b4;by_cases h5 : h.typ = 55#8
 ·rw [if_pos h5] at HF;rw [decide_eq_true h5] at b5;clear h1 h2 h3 h4 h5 HIs HSf;go_enter Tryz.func90, Tryz.ntmps90;go_upto_region 1 with fail;rw [HW0.out]
  go_wp2_with fail
  exact HF.out _ _ HR.out rfl
 rw [if_neg h5] at HF;rw [decide_eq_false h5] at b5;have hiso : isOl h = decide (h.typ = 83#8 ∧ h.form = 3) := by
  unfold isOl;by_cases q1 : h.typ = 83#8 <;> by_cases q2 : h.form = 3 <;> simp [q1, q2]
 rw [hiso] at HIs;by_cases h6 : h.typ = 83#8 ∧ h.form = 3
 ·rw [if_pos h6] at HF;rw [decide_eq_true h6] at HIs;clear h1 h2 h3 h4 h5 h6 HSf hiso;go_enter Tryz.func90, Tryz.ntmps90;go_upto_region 1 with fail;rw [HW0.out]
  go_wp2_with (first
   | (refine wpList_load_row rfl 62 _ rfl w.heap.size (by first | rfl | simp [Act.eval]) 62 _ (0, 0) _ HRH.out Tryz.underlying62 rfl HSZ.out ?_)
   | (go_at_call 91; with_reducible refine HIs.out.mono ?_; rintro e w2 ⟨rfl, K2⟩; have HK2 := tHid K2; clear K2))
  exact HF.out _ _ HK2.out rfl
 ·rw [if_neg h6] at HF;rw [decide_eq_false h6] at HIs;clear h1 h2 h3 h4 h5 h6 HSf hiso;go_enter Tryz.func90, Tryz.ntmps90;go_upto_region 1 with fail;rw [HW0.out]
  go_wp2_with (first
   | (refine wpList_load_row rfl 62 _ rfl w.heap.size (by first | rfl | simp [Act.eval]) 62 _ (0, 0) _ HRH.out Tryz.underlying62 rfl HSZ.out ?_)
   | (go_at_call 91; with_reducible refine HIs.out.mono ?_; rintro e w2 ⟨rfl, K2⟩; have HK2 := tHid K2; clear K2))
  exact HF.out _ _ HK2.out rfl
def rsT (b : List By) : List (Nat × Nat) × Nat × Nat :=
 let r := nr 0 0 b
 if r.2.2 ≠ 0 then ([], 0, r.2.2) else
 if 65536 < r.1 then ([], 0, 2) else rdA b r.1 0 r.2.1 []
theorem rdT_rs (b : List By) : rdT b = if (rsT b).2.2 ≠ 0 then ([], 0, (rsT b).2.2) else if (zrF b (padN (rsT b).2.1) (rsT b).2.1).2 ≠ 0 then ([], 0, (zrF b (padN (rsT b).2.1) (rsT b).2.1).2) else ((rsT b).1, (zrF b (padN (rsT b).2.1) (rsT b).2.1).1, 0) := by
 unfold rdT rsT;simp only;by_cases h1 : (nr 0 0 b).2.2 ≠ 0
 ·rw [if_pos h1, if_pos h1];simp only;rw [if_pos h1]
 ·rw [if_neg h1, if_neg h1];by_cases h2 : 65536 < (nr 0 0 b).1
  ·rw [if_pos h2, if_pos h2];simp
  ·rw [if_neg h2, if_neg h2]
def RsA (w : World) (Tb : Nat) (a : Option Addr) (n c : Nat) (r : List (Nat × Nat) × Nat × Nat) (e : Ending) (V : World) : Prop := ∃ a' m' c', e = .returned (.tuple #[.slice a' m' c', .int .i64 (r.2.2 : Int)]) ∧ Hid (Fr (fun k => k = Tb) w V ∧ (r.2.2 = 0 → TX Tb a n c r.2.1 V ∧ NewG w (.slice a' m' c') (rgL r.1) V))
structure RsI (w : World) (Tb : Nat) (a : Option Addr) (n c : Nat) (b : List By) (cnt I E p : Nat) (v : Value) (R : List (Nat × Nat) × Nat × Nat) (V : World) : Prop where
 fr : Fr (fun k => k = Tb) w V
 tx : TX Tb a n c p V
 pn : p ≤ n
 ls : ∃ og acc, OgR RG og v (rgL acc) V ∧ (∀ g, og = some g → w.heap.size ≤ g) ∧ acc.length = I ∧ R = rdA b (cnt - I) E p acc
theorem rs_any (w : World) (Tb : Nat) (a : Option Addr) (n c : Nat) (b : List By) (hb : Sl (fun k => k = Tb ∨ w.heap.size ≤ k) (.slice a n c) b w) (hn : n ≤ 140737488351232) (hT : TX Tb a n c 0 w) :
  Calls Tryz.prog 150 #[.pointer (some ⟨Tb, 0, none⟩)] w (RsA w Tb a n c (rsT b)) := by
 refine asP fun Q hQ => ?_
 obtain ⟨hbn, k1, k2⟩ := slx_len hb;have hTl : Tb < w.heap.size := (Array.getElem?_eq_some_iff.1 hT).1;have HBad : Hid (∀ V (e : Nat) r, rsT b = (r, 0, e) → e ≠ 0 → Fr (fun k => k = Tb) w V → Q (.returned (.tuple #[.slice none 0 0, .int .i64 (e : Int)])) V) := fun V e r h1 h2 h3 => by
  rw [hQ, h1];exact ⟨none, 0, 0, rfl, h3, fun h => absurd h h2⟩
 have HOk : Hid (∀ V L p a' m' c', rsT b = (L, p, 0) → Fr (fun k => k = Tb) w V → TX Tb a n c p V → NewG w (.slice a' m' c') (rgL L) V → Q (.returned (.tuple #[.slice a' m' c', .int .i64 0])) V) := fun V L p a' m' c' h1 h2 h3 h4 => by
  rw [hQ, h1];exact ⟨a', m', c', rfl, h2, fun _ => ⟨h3, h4⟩⟩
 have HN1 := number_any15 w Tb a n c 0 b hb hn (by omega) hT;rw [List.drop_zero] at HN1;unfold NuA at HN1;have HTo : Hid (∀ V p, Fr (fun k => k = Tb) w V → TX Tb a n c p V → p ≤ n → Calls Tryz.prog 187 #[.func (.func 189) #[.pointer (some ⟨Tb, 0, none⟩)] #[]] V (ToA V Tb a n c (told1 b p))) := fun V p hV ht hp => told_any V Tb a n c p b (((hb.kept hV (fun g h => .inl h)).mono (fun g h => .inl h))) hn hp ht
 clear hQ hT hb;cases hr1 : nr 0 0 b with
 | mk cnt r1' =>
 obtain ⟨q1, e1⟩ := r1';rw [hr1] at HN1;simp only [Nat.zero_add] at HN1;have HN1 := tHid HN1;by_cases he1 : e1 = 0
 ·subst he1;have hi1 := num_inv b cnt q1 hr1;rw [hbn] at hi1;by_cases hbig : 65536 < cnt
  ·have hrs : rsT b = ([], 0, 2) := by unfold rsT; simp only [hr1]; rw [if_neg (by simp), if_pos hbig]
   have hbi : (65536 : Int) < (cnt : Int) := by omega
   have hcm : cnt ≤ 9223372036854775807 := hi1.2.2.2;clear HTo HOk hr1 hi1;go_enter Tryz.func150, Tryz.ntmps150
   go_wp2_with (first
    | (go_at_call 189; with_reducible refine HN1.out.mono ?_; rintro e w1 ⟨rfl, H1⟩))
   first | exact HBad.out _ 2 _ hrs (by omega) H1.out.1 | (go_ret; exact HBad.out _ 2 _ hrs (by omega) H1.out.1)
  ·have hrs : rsT b = rdA b cnt 0 q1 [] := by unfold rsT; simp only [hr1]; rw [if_neg (by simp), if_neg hbig]
   have hbi : ¬ (65536 : Int) < (cnt : Int) := by omega
   have hq1 : q1 ≤ n := hi1.2.2.1;have HRS := tHid hrs;have HBN := tHid hbn;clear hr1 hi1 hrs hbn;go_enter Tryz.func150, Tryz.ntmps150;go_upto_region 8 with (first
    | (go_at_call 189; with_reducible refine HN1.out.mono ?_; rintro e w1 ⟨rfl, H1⟩))
   go_upto_region 9 with fail
   go_loopg [6, 7, 21] cnt (fun kx v e i wr => ∃ (I E p m' c' : Nat) (a' : Option Addr), I ≤ cnt ∧ cnt - I ≤ kx ∧ E ≤ 9223372036854775807 ∧ v = .slice a' m' c' ∧ e = .int .i64 E ∧ i = .int .i64 I ∧ Hid (RsI w Tb a n c b cnt I E p (.slice a' m' c') (rsT b) wr))
   case atStart => exact ⟨0, 0, q1, 0, 0, none, by omega, by omega, by omega, rfl, rfl, rfl, H1.out.1, H1.out.2, hq1, none, [], ⟨rfl, rfl⟩, (fun g h => by cases h), rfl, HRS.out⟩
   case round =>
    obtain ⟨I, E, p, m', c', a', hI, hkx, hE, rfl, rfl, rfl, HI⟩ := hrel;obtain ⟨hfr, htx, hpn, og, acc, hog, hge, hal, hR⟩ := HI.out;by_cases hlt : I < cnt
    ·have hC := HTo.out wr p hfr htx hpn;have hpb : p ≤ b.length := by rw [HBN.out]; exact hpn
     rw [show cnt - I = (cnt - (I + 1)) + 1 by omega, rdA] at hR;unfold ToA at hC;cases ht1 : told1 b p with
     | mk FT r2' =>
     obtain ⟨p2, e2⟩ := r2';obtain ⟨F, T⟩ := FT;rw [ht1] at hC;simp only at hC;have HC := tHid hC;have hIi : (I : Int) < (cnt : Int) := by omega
     by_cases he2 : e2 = 0
     ·subst he2;have ho := one1_ok b E p (by rw [ht1]);rw [ht1] at ho;simp only at ho;by_cases hFE : F < E
      ·rw [if_pos hFE] at ho;rw [ho, if_pos (by simp)] at hR;have hFEi : (F : Int) < (E : Int) := by omega
       have HB2 : Hid (∀ V, Fr (fun k => k = Tb) wr V → Q (.returned (.tuple #[.slice none 0 0, .int .i64 3])) V) := fun V hV => HBad.out V 3 _ hR (by omega) (hfr.trans hV)
       clear HTo HOk HI hfr htx hog hge hR ho hC ht1 HBad
       go_wp2_with (first
        | (go_at_call 187; with_reducible refine HC.out.mono ?_; rintro e w2 ⟨rfl, H2⟩))
       first | exact HB2.out _ (H2.out.1.alloc _) | (go_ret; exact HB2.out _ (H2.out.1.alloc _))
      ·rw [if_neg hFE] at ho;obtain ⟨i1, i2, i3, i4, i5, i6, i7⟩ := one1_inv b E p (F, T) p2 hpb ho;rw [ho, if_neg (by simp)] at hR;simp only at hR i1 i2 i3;have hFEi : ¬ (F : Int) < (E : Int) := by omega
       have hp2 : p2 ≤ n := by have := HBN.out; omega
       have HST : Hid (∀ V, Fr (fun k => k = Tb) wr V → TX Tb a n c p2 V → ∃ a2 m2 c2 W, Hid (∀ ty, (Builtin.append_ #[33, 33] ty #[.slice a' m' c', .slice (some ⟨V.heap.size, 0, none⟩) 1 1]).run Tryz.prog (V.alloc (.cells #[.int .i64 (F : Int), .int .i64 (T : Int)] 54)) = .ok (.slice a2 m2 c2) W) ∧ (∃ o, W.heap[V.heap.size - 1]? = o) ∧ Fr (fun k => og = some k) V W ∧ Hid (RsI w Tb a n c b cnt (I + 1) T p2 (.slice a2 m2 c2) (rsT b) W)) := fun V hV htV => by
        obtain ⟨og', v', W, q1, q2, q3, q4⟩ := pushG V og (.slice a' m' c') (rgL acc) (hog.kept hV (fun g hg e => by have := hge g hg; omega)) (by rw [rgL_len]; omega) ((F : Int), (T : Int));obtain ⟨a2, c2, rfl, _, _⟩ := q2.form;have hfV := hfr.trans hV;have hog' : ∀ g, og' = some g → w.heap.size ≤ g := fun g hg => by
         rcases q4 with e | ⟨g', e, hg'⟩
         ·rw [e] at hg; exact hge g hg
         ·rw [e] at hg; injection hg with hg; have := hfV.size; omega
        refine ⟨a2, _, c2, W, q1, ⟨_, rfl⟩, q3, ⟨hfV.then q3 (fun i hi => .inr (hge i hi)), htV.kept q3 (fun e => by have := hge Tb e; omega), hp2, og', acc ++ [(F, T)], by rw [rgL_snoc]; exact q2, hog', by rw [List.length_append, List.length_singleton, hal], hR⟩⟩
       have HGE : Hid (∀ g, og = some g → g < wr.heap.size) := fun g hg => hog.lt g hg
       clear HOk HI hfr htx hog hge hR ho hC ht1 HBad i4 i5 i6 i7;go_upto_region 11 with (first
        | (go_at_call 187; with_reducible refine HC.out.mono ?_; rintro e w2 ⟨rfl, H2⟩))
       obtain ⟨V2, hV2⟩ : ∃ V2, w2.alloc (.cells #[.int .i64 (F : Int), .int .i64 (T : Int)] 54) = V2 := ⟨_, rfl⟩;have hbx : V2.heap[w2.heap.size]? = some (.cells #[.int .i64 (F : Int), .int .i64 (T : Int)] 54) := by rw [← hV2]; exact nHeap _ _
       obtain ⟨⟨c0, _⟩, ⟨c1, _⟩⟩ := two_cells hbx;have hN2 : Nw w2 V2 := by rw [← hV2]; exact (Fr.refl _ _).alloc _
       obtain ⟨a2, m2, c2, W, HA, _, hFW, HNX⟩ := HST.out V2 (H2.out.1.trans hN2.any) (H2.out.2.kept hN2 (fun h => h));have hbxW := hFW.heapv hbx (fun e => by have := HGE.out _ e; have := H2.out.1.size; omega);obtain ⟨⟨x0, _⟩, ⟨x1, _⟩⟩ := two_cells hbxW
       (try rw [hV2])
       clear hV2 hbx hN2 hFW hbxW HST HGE HC H2;obtain ⟨Bx, hBx⟩ : ∃ Bx, w2.heap.size = Bx := ⟨_, rfl⟩;rw [hBx] at c0 c1 x0 x1;rw [hBx];clear hBx
       go_wp2_with (first
        | (at_builtin; refine Lib.wpList_append_run _ rfl _ _ 33 33 rfl (.slice a' m' c') (.slice (some ⟨V2.heap.size, 0, none⟩) 1 1) (by first | rfl | simp [Act.eval]) (by first | rfl | simp [Act.eval]) _ _ (HA.out _) ?_))
       go_roundg (cnt - (I + 1))
       case measure => omega
       case rel => exact ⟨I + 1, T, p2, m2, c2, a2, by omega, by omega, by omega, rfl, rfl, by first | rfl | (congr 1), HNX⟩
     ·have ho := one1_bad b E p (by rw [ht1]; exact he2);rw [ht1] at ho;simp only at ho;rw [ho, if_pos he2] at hR;have he2i : ¬ ((e2 : Int) = 0) := by omega
      have HB2 : Hid (∀ V, Fr (fun k => k = Tb) wr V → Q (.returned (.tuple #[.slice none 0 0, .int .i64 (e2 : Int)])) V) := fun V hV => HBad.out V e2 _ hR he2 (hfr.trans hV)
      clear HTo HOk HI hfr htx hog hge hR ho hC ht1 HBad
      go_wp2_with (first
       | (go_at_call 187; with_reducible refine HC.out.mono ?_; rintro e w2 ⟨rfl, H2⟩))
      first | exact HB2.out _ (H2.out.1.alloc _) | (go_ret; exact HB2.out _ (H2.out.1.alloc _))
    ·have hIc : I = cnt := by omega
     rw [show cnt - I = 0 by omega, rdA] at hR;have HF2 := tHid (HOk.out wr acc p a' m' c' hR hfr htx ⟨og, hog, hge⟩);subst hIc;clear HTo HOk HI hfr htx hog hge hR HBad
     go_wp2_with fail
     first | exact HF2.out | (go_ret; exact HF2.out)
 ·have hrs : rsT b = ([], 0, e1) := by unfold rsT; simp only [hr1]; rw [if_pos he1]
  have he1i : ¬ ((e1 : Int) = 0) := by omega
  clear HTo HOk hr1;go_enter Tryz.func150, Tryz.ntmps150
  go_wp2_with (first
   | (go_at_call 189; with_reducible refine HN1.out.mono ?_; rintro e w1 ⟨rfl, H1⟩))
  first | exact HBad.out _ e1 _ hrs he1 H1.out.1 | (go_ret; exact HBad.out _ e1 _ hrs he1 H1.out.1)
end Go.Proofs.YtlenihpbhlfcoaaGreatDoor

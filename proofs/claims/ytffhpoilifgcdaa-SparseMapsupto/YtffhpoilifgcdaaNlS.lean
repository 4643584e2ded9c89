import Derived.Test.YtffhpoilifgcdaaNlR
import Derived.Test.YtffhpoilifgcdaaNlQ
import Derived.Test.YtffhpoilifgcdaaNlN
import Derived.Test.YtffhpoilifgcdaaNlO
namespace Go.Proofs.Ytffhpoilifgcdaa
open Go.RowKit
set_option linter.unusedVariables false
/-! ### SparseMaps -/
theorem OwR.cutR {α : Type} {R : RT α} {g m c : Nat} {l : List α} {w : World} (h : OwR R g (.slice (some ⟨g, 0, none⟩) m c) l w) (n : Nat) (hn : n ≤ l.length) : OwR R g (.slice (some ⟨g, 0, none⟩) n c) (l.take n) w := by
  obtain ⟨xs, e, h2, h3, h4, h5⟩ := h
  injection e with _ e1 e2
  subst e2
  have hl : (l.take n).length = n := by rw [List.length_take, Nat.min_eq_left hn]
  refine ⟨xs, by rw [hl], ?_, by rw [hl]; omega, h4, h5⟩
  rw [hl]
  conv => rhs; rw [← h2]
  rw [List.take_take, Nat.min_eq_left hn]
theorem copyG2 (V : World) (va : Value) (l : List Rg) (hl : SlR RG (fun _ => False) va l V) (hn : l.length ≤ 100000000) (x : Rg) : ∃ g1 m1 c1 W1 g2 c2 W2, Hid (∀ ty, (Builtin.append_ #[23, 23] ty #[.slice (some ⟨V.heap.size, 0, none⟩) 0 0, va]).run Try.prog (V.alloc (.cells #[] 29)) = .ok (.slice (some ⟨g1, 0, none⟩) m1 c1) W1) ∧
    Hid (∀ ty, (Builtin.append_ #[23, 23] ty #[.slice (some ⟨g1, 0, none⟩) m1 c1, .slice (some ⟨W1.heap.size, 0, none⟩) 1 1]).run Try.prog (W1.alloc (.cells (rgC x) 29)) = .ok (.slice (some ⟨g2, 0, none⟩) (l.length + 1) c2) W2) ∧
    OwR RG g2 (.slice (some ⟨g2, 0, none⟩) (l.length + 1) c2) (l ++ [x]) W2 ∧ Nw V W2 ∧ V.heap.size ≤ g2 := by
  have hN : Nw V (V.alloc (.cells #[] 29)) := (Fr.refl _ _).alloc _
  obtain ⟨v1, g1, W1, k1, k2, k3, k4⟩ := owR_app rgOk _ _ _ [] (OwR.empty (R := RG) V) va l (hl.nw hN) (by simp only [RG, List.length_nil]; omega) (by simp only [List.length_nil]; omega)
  rw [List.nil_append] at k2
  obtain ⟨xs, rfl, _⟩ := id k2
  obtain ⟨g2, m2, c2, W2, q1, q2, q3, q4⟩ := pushO W1 g1 _ _ l k2 (by omega) x
  obtain ⟨ys, e, _⟩ := id q2
  injection e with _ e1 e2
  rw [List.length_append, List.length_singleton] at e1
  subst e1
  have hs0 : ∀ o, (V.alloc o).heap.size = V.heap.size + 1 := fun o => by simp
  rw [hs0] at k4
  have h1 : V.heap.size ≤ g1 := by rcases k4 with e | e <;> omega
  have h2 : Nw V W1 := hN.then k3 (fun i hi => .inr (by omega))
  exact ⟨g1, _, _, W1, g2, c2, W2, k1, q1, q2, h2.then q3 (fun i hi => .inr (by omega)), by have := h2.size; rcases q4 with e | e <;> omega⟩
set_option maxHeartbeats 16000000 in
set_option maxRecDepth 100000 in
theorem maps_walk (w : World) (a : Option Addr) (n c : Nat) (b : List By) (hb : Old w (.slice a n c) b) (hn : n ≤ 1048576) (a2 : Option Addr) (n2 c2 : Nat) (l : List Rg) (hl : SlR RG (fun k => w.heap.size ≤ k) (.slice a2 n2 c2) l w) (hn2 : n2 ≤ 1048576) (s z : Int) (hs : -9223372036854775808 ≤ s ∧ s ≤ 9223372036854775807) (hz : -9223372036854775808 ≤ z ∧ z ≤ 9223372036854775807) :
    Calls Try.prog 3 #[.agg #[.slice a n c, .slice a2 n2 c2, .int .i64 s, .int .i64 z]] w fun e w' => e = .returned (.bool true) ∧ Nw w w' := by
  obtain ⟨P, hP⟩ : ∃ P : Ending → World → Prop, P = fun e w' => e = .returned (.bool true) ∧ Nw w w' := ⟨_, rfl⟩
  rw [← hP]
  have HF : Hid (∀ V, Nw w V → P (.returned (.bool true)) V) := fun V hV => by rw [hP]; exact ⟨rfl, hV⟩
  clear hP
  obtain ⟨hbn, k1, k2⟩ := slx_len hb
  obtain ⟨hln, k3, k4⟩ := slg_len hl
  obtain ⟨N32, hN32⟩ : ∃ N32, n + 32 = N32 := ⟨_, rfl⟩
  obtain ⟨M1, hM1⟩ : ∃ M1, n2 + 1 = M1 := ⟨_, rfl⟩
  have HB := tHid hb
  have HL := tHid hl
  have HE : Hid (b.length = n ∧ l.length = n2 ∧ n + 32 = N32 ∧ n2 + 1 = M1) := ⟨hbn, hln, hN32, hM1⟩
  have HLent : Hid (∀ V, Nw w V → Calls Try.prog 6 #[.slice a n c] V fun e w' => ∃ g c1, e = .returned (.tuple #[.slice (some ⟨g, 0, none⟩) n c1, .slice (some ⟨g, 0, none⟩) N32 c1]) ∧ Hid (V.heap.size ≤ g ∧ Ow g (.slice (some ⟨g, 0, none⟩) N32 c1) (b ++ marks 32) w' ∧ Nw V w')) := fun V hV => by
    refine (lent_any V (.slice a n c) b (hb.later hV) (by omega)).mono ?_
    rintro e w' ⟨g, c1, e1, e2, e3, e4⟩
    rw [hbn, hN32] at e1 e3
    exact ⟨g, c1, e1, e2, e3, e4⟩
  clear hb hl hbn hln hN32 hM1
  go_enter Try.func3, Try.ntmps3
  go_upto_region 1 with fail
  obtain ⟨W0, hW0⟩ : ∃ W0, w.alloc (.cells #[.slice a n c, .slice a2 n2 c2, .int .i64 s, .int .i64 z] 25) = W0 := ⟨_, rfl⟩
  have hbox : W0.heap[w.heap.size]? = some (.cells #[.slice a n c, .slice a2 n2 c2, .int .i64 s, .int .i64 z] 25) := by rw [← hW0]; exact nHeap _ _
  have d0 : W0.cell? ⟨w.heap.size, 0, none⟩ = some (.slice a n c) := by unfold World.cell?; rw [hbox]; rfl
  have d1 : W0.cell? ⟨w.heap.size, 1, none⟩ = some (.slice a2 n2 c2) := by unfold World.cell?; rw [hbox]; rfl
  have d2 : W0.cell? ⟨w.heap.size, 2, none⟩ = some (.int .i64 s) := by unfold World.cell?; rw [hbox]; rfl
  have d3 : W0.cell? ⟨w.heap.size, 3, none⟩ = some (.int .i64 z) := by unfold World.cell?; rw [hbox]; rfl
  have HN0 : Hid (Nw w W0) := by rw [← hW0]; exact (Fr.refl _ _).alloc _
  (try rw [hW0])
  clear hW0 hbox
  go_quiet (fail)
  go_upto_region 3 with (first
    | (go_at_call 6; with_reducible refine (HLent.out _ (HN0.out.drewN _)).mono ?_; rintro e w1 ⟨g1, c1, rfl, H1⟩))
  have HN1 : Hid (Nw w w1) := (HN0.out.drewN _).trans H1.out.2.2
  have HG1 : Hid (w.heap.size ≤ g1 ∧ g1 < w1.heap.size) := ⟨Nat.le_trans HN0.out.size H1.out.1, H1.out.2.1.lt⟩
  have HO1 := tHid H1.out.2.1
  clear HN0 H1 HLent d0 d1 d2 d3
  obtain ⟨gx, mx, cx, WX, gm, cm, W2, HA1, HA2, om, nm, hgm⟩ := copyG2 w1 (.slice a2 n2 c2) l ((HL.out.mono (fun _ h => h.elim)).nw HN1.out) (by have := HE.out; omega) (7, 7)
  have hrc : rgC (7, 7) = #[.int .i64 7, .int .i64 7] := rfl
  rw [hrc] at HA2
  rw [HE.out.2.1, HE.out.2.2.2] at HA2 om
  have hM1 := HE.out.2.2.2
  have hcm : M1 ≤ cm ∧ cm < 9223372036854775808 := by obtain ⟨c', e, q1, q2⟩ := om.form; injection e with _ e1 e2; omega
  obtain ⟨hcm1, hcm2⟩ := hcm
  have HN2 : Hid (Nw w1 W2) := nm
  have HGM : Hid (w1.heap.size ≤ gm ∧ gm < W2.heap.size) := ⟨hgm, om.lt⟩
  have HOM := tHid om
  clear om nm hgm hrc
  have hn2cm : (n2 : Int) ≤ (cm : Int) := by omega
  go_upto_region 5 with (first
    | (at_builtin; refine Lib.wpList_append_run _ rfl _ _ 23 23 rfl (.slice (some ⟨w1.heap.size, 0, none⟩) 0 0) (.slice a2 n2 c2) (by first | rfl | simp [Act.eval]) (by first | rfl | simp [Act.eval]) _ _ (HA1.out _) ?_)
    | (at_builtin; refine Lib.wpList_append_run _ rfl _ _ 23 23 rfl (.slice (some ⟨gx, 0, none⟩) mx cx) (.slice (some ⟨WX.heap.size, 0, none⟩) 1 1) (by first | rfl | simp [Act.eval]) (by first | rfl | simp [Act.eval]) _ _ (HA2.out _) ?_))
  clear HA1 HA2
  have HSC : Hid (∀ V, Nw W2 V → Old V (.slice (some ⟨g1, 0, none⟩) n c1) b) := fun V hV => by
    have ho := HO1.out.nw (HN2.out.trans hV)
    obtain ⟨c', e, q1, q2, q3⟩ := ho.cut n (by rw [List.length_append, HE.out.1]; omega)
    injection e with _ e1 e2
    rw [List.take_left' HE.out.1] at q3
    rw [e2]
    exact q3.old
  have HSB : Hid (∀ V, Nw W2 V → Sl (fun k => w.heap.size ≤ k) (.slice a n c) b V) := fun V hV => HB.out.nw (HN1.out.trans (HN2.out.trans hV))
  have HSLl : Hid (∀ V, Nw W2 V → SlR RG (fun k => w.heap.size ≤ k) (.slice a2 n2 c2) l V) := fun V hV => HL.out.nw (HN1.out.trans (HN2.out.trans hV))
  have HSP : Hid (∀ X : Nat → Prop, ¬ X gm → ∀ V, Fr X W2 V → SlR RG (fun k => k ≠ gm) (.slice (some ⟨gm, 0, none⟩) n2 cm) l V) := fun X hX V hV => by
    have := (HOM.out.cutR n2 (by rw [List.length_append, HE.out.2.1]; omega)).kept hV hX
    rw [List.take_left' HE.out.2.1] at this
    exact this.slr rgOk
  have HFd : Hid (∀ V, Nw W2 V → Calls Try.prog 7 #[.slice (some ⟨g1, 0, none⟩) n c1, .int .i64 z] V (FdA V b (max z 1).toNat)) := fun V hV => find_any V z hz _ _ _ b (HSC.out V hV) (by omega)
  have HRF : Hid (∀ V, Nw W2 V → Calls Try.prog 8 #[.slice a n c, .int .i64 z] V (FdA V b (max z 1).toNat)) := fun V hV => rfind_any V z hz _ _ _ b (HSB.out V hV) (by omega)
  unfold FdA at HFd HRF
  generalize (max z 1).toNat = N at *
  go_upto_region 6 with (first
    | (go_at_call 8; with_reducible refine (HRF.out _ (Nw.trans H3.out.1 H4.out.1)).mono ?_; rintro e w5 ⟨a5, m5, e5, l5, rfl, H5⟩)
    | (go_at_call 7; with_reducible refine (HFd.out _ H3.out.1).mono ?_; rintro e w4 ⟨a4, m4, e4, l4, rfl, H4⟩)
    | (go_at_call 7; with_reducible refine (HFd.out W2 (Fr.refl _ _)).mono ?_; rintro e w3 ⟨a3, m3, e3, l3, rfl, H3⟩))
  obtain ⟨n3, f3, hm3, p3⟩ := H3.out
  obtain ⟨n4, f4, hm4, p4⟩ := H4.out
  obtain ⟨n5, f5, hm5, p5⟩ := H5.out
  obtain rfl := fnd_uniq f3 f4
  obtain rfl := fnd_uniq f3 f5
  have hf3 := f3.len
  rw [HE.out.1] at hf3
  have HLF := tHid (show (rgL l3).length ≤ 100000000 by rw [rgL_len]; omega)
  have HS3 : Hid (W2.heap.size ≤ w3.heap.size ∧ w3.heap.size ≤ w4.heap.size ∧ w4.heap.size ≤ w5.heap.size) := ⟨n3.size, n4.size, n5.size⟩
  have HN5 : Hid (Nw W2 w5) := n3.trans (n4.trans n5)
  have HP3 : Hid (NewG W2 (.slice a3 m3 e3) (rgL l3) w3 ∧ NewG w3 (.slice a4 m4 e4) (rgL l3) w4 ∧ NewG w4 (.slice a5 m5 e5) (rgL l3) w5 ∧ Nw w3 w5 ∧ Nw w4 w5) := ⟨p3, p4, p5, n4.trans n5, n5⟩
  clear n3 f3 hm3 p3 n4 f4 hm4 p4 n5 f5 hm5 p5 H3 H4 H5 HFd HRF hf3
  generalize rgL l3 = lf at *
  -- Join and Spread, both ways
  obtain ⟨E1, hE1⟩ : ∃ E1 : Int, (if vld l b.length then (0 : Int) else 1) = E1 := ⟨_, rfl⟩
  obtain ⟨X1, hX1⟩ : ∃ X1 : List By, (if vld l b.length then jn b l else []) = X1 := ⟨_, rfl⟩
  obtain ⟨E2, hE2⟩ : ∃ E2 : Int, (if okS b l s then (0 : Int) else 1) = E2 := ⟨_, rfl⟩
  obtain ⟨X2, hX2⟩ : ∃ X2 : List By, (if okS b l s then sprd b l s else []) = X2 := ⟨_, rfl⟩
  have HX1L : Hid (X1.length ≤ 100000000000000) := by
    show _ ≤ _
    rw [← hX1]
    split
    · rename_i hv
      obtain ⟨h0, _, h1⟩ := vld_iff.1 hv
      have h2 := jn_len b l (fun x hx => by have := vlE_all h1 (Int.le_refl _) x hx; omega)
      have h3 := hld_le h1 h0
      have h4 := HE.out.1
      omega
    · simp
  have HX2L : Hid (X2.length ≤ 100000000000000) := by
    show _ ≤ _
    rw [← hX2]
    split
    · rename_i hv
      obtain ⟨h0, h1, _⟩ := okS_iff.1 hv
      obtain ⟨h2, _, h3⟩ := vld_iff.1 h1
      unfold sprd
      rw [spr_len _ _ _ (fun x hx => by rw [List.length_replicate]; have := vlE_all h3 (Int.le_refl _) x hx; omega), List.length_replicate]
      omega
    · simp
  have HJ : Hid (∀ V, Nw W2 V → Calls Try.prog 9 #[.slice (some ⟨g1, 0, none⟩) n c1, .slice (some ⟨gm, 0, none⟩) n2 cm] V fun e V' => ∃ a m c, e = .returned (.tuple #[.slice a m c, .int .i64 E1]) ∧ Hid (Nw V V' ∧ NewB V (.slice a m c) X1 V')) := fun V hV => by
    have := join_any V _ _ _ b (HSC.out V hV) (by omega) _ _ _ l (HSP.out _ (fun h => h) V hV)
    unfold JnA at this
    rw [hE1, hX1] at this
    exact this
  have HRJ : Hid (∀ V, Nw W2 V → Calls Try.prog 10 #[.slice a n c, .slice a2 n2 c2] V fun e V' => ∃ a m c, e = .returned (.tuple #[.slice a m c, .int .i64 E1]) ∧ Hid (Nw V V' ∧ NewB V (.slice a m c) X1 V')) := fun V hV => by
    have := rjoin_any V _ _ _ b (HSB.out V hV) (by omega) _ _ _ l (HSLl.out V hV)
    unfold JnA at this
    rw [hE1, hX1] at this
    exact this
  have HSpr : Hid (∀ V, Nw W2 V → Calls Try.prog 11 #[.slice (some ⟨g1, 0, none⟩) n c1, .slice (some ⟨gm, 0, none⟩) n2 cm, .int .i64 s] V fun e V' => ∃ a m c, e = .returned (.tuple #[.slice a m c, .int .i64 E2]) ∧ Hid (Nw V V' ∧ NewB V (.slice a m c) X2 V')) := fun V hV => by
    have := spread_any V _ _ _ b (HSC.out V hV) (by omega) _ _ _ l (HSP.out _ (fun h => h) V hV) s hs
    unfold SpA at this
    rw [hE2, hX2] at this
    exact this
  have HRS : Hid (∀ V, Nw W2 V → Calls Try.prog 12 #[.slice a n c, .slice a2 n2 c2, .int .i64 s] V fun e V' => ∃ a m c, e = .returned (.tuple #[.slice a m c, .int .i64 E2]) ∧ Hid (Nw V V' ∧ NewB V (.slice a m c) X2 V')) := fun V hV => by
    have := rspread_any V _ _ _ b (HSB.out V hV) (fun k hk => by have := (HN1.out.trans (HN2.out.trans hV)).size; omega) (by omega) _ _ _ l (HSLl.out V hV) s hs
    unfold SpA at this
    rw [hE2, hX2] at this
    exact this
  clear hE1 hX1 hE2 hX2
  go_upto_region 10 with (first
    | (go_at_call 9; with_reducible refine (HJ.out _ HN5.out).mono ?_; rintro e w6 ⟨a6, m6, e6, rfl, H6⟩; have HN6 := tHid (Nw.trans HN5.out H6.out.1))
    | (go_at_call 10; with_reducible refine (HRJ.out _ HN6.out).mono ?_; rintro e w7 ⟨a7, m7, e7, rfl, H7⟩; have HN7 := tHid (Nw.trans HN6.out H7.out.1))
    | (go_at_call 11; with_reducible refine (HSpr.out _ HN7.out).mono ?_; rintro e w8 ⟨a8, m8, e8, rfl, H8⟩; have HN8 := tHid (Nw.trans HN7.out H8.out.1))
    | (go_at_call 12; with_reducible refine (HRS.out _ HN8.out).mono ?_; rintro e w9 ⟨a9, m9, e9, rfl, H9⟩; have HN9 := tHid (Nw.trans HN8.out H9.out.1)))
  clear HJ HRJ HSpr HRS
  obtain ⟨Bv, hBv⟩ : ∃ Bv, vld l s = Bv := ⟨_, rfl⟩
  have HVa : Hid (∀ V, Nw w9 V → Calls Try.prog 13 #[.slice (some ⟨gm, 0, none⟩) n2 cm, .int .i64 s] V fun e w' => e = .returned (.bool Bv) ∧ Hid (Nw w9 w')) := fun V hV => by
    refine (valid_any V _ _ _ l (HSP.out _ (fun h => h) V (HN9.out.trans hV)) s).mono ?_
    rintro e w' ⟨e1, e2⟩
    rw [hBv] at e1
    exact ⟨e1, hV.trans e2⟩
  have HVb : Hid (∀ V, Nw w9 V → Calls Try.prog 14 #[.slice a2 n2 c2, .int .i64 s] V fun e w' => e = .returned (.bool Bv) ∧ Hid (Nw w9 w')) := fun V hV => by
    refine (rvalid_any V _ _ _ l (HSLl.out V (HN9.out.trans hV)) s).mono ?_
    rintro e w' ⟨e1, e2⟩
    rw [hBv] at e1
    exact ⟨e1, hV.trans e2⟩
  have hBB : (Bv != Bv) = false := by cases Bv <;> rfl
  clear hBv
  obtain ⟨p3, p4, p5, n35, n45⟩ := HP3.out
  obtain ⟨n6, x6⟩ := H6.out
  obtain ⟨n7, x7⟩ := H7.out
  obtain ⟨n8, x8⟩ := H8.out
  obtain ⟨n9, x9⟩ := H9.out
  have n59 : Nw w5 w9 := n6.trans (n7.trans (n8.trans n9))
  have HR1 : Hid (∀ V, Nw w9 V → Calls Try.prog 15 #[.slice a3 m3 e3, .slice a5 m5 e5] V fun e w' => e = .returned (.bool true) ∧ Hid (Nw w9 w')) := fun V hV => by
    refine (ranges_any V _ _ lf lf (p3.slr.nw (n35.trans (n59.trans hV))) (p5.slr.nw (n59.trans hV))).mono ?_
    rintro e w' ⟨e1, e2⟩
    rw [decide_eq_true rfl] at e1
    exact ⟨e1, hV.trans e2⟩
  have HR2 : Hid (∀ V, Nw w9 V → Calls Try.prog 15 #[.slice a4 m4 e4, .slice a5 m5 e5] V fun e w' => e = .returned (.bool true) ∧ Hid (Nw w9 w')) := fun V hV => by
    refine (ranges_any V _ _ lf lf (p4.slr.nw (n45.trans (n59.trans hV))) (p5.slr.nw (n59.trans hV))).mono ?_
    rintro e w' ⟨e1, e2⟩
    rw [decide_eq_true rfl] at e1
    exact ⟨e1, hV.trans e2⟩
  have HR3 : Hid (∀ V, Nw w9 V → Calls Try.prog 15 #[.slice (some ⟨gm, 0, none⟩) n2 cm, .slice a2 n2 c2] V fun e w' => e = .returned (.bool true) ∧ Hid (Nw w9 w')) := fun V hV => by
    refine (ranges_any V _ _ l l (HSP.out _ (fun h => h) V (HN9.out.trans hV)) (HSLl.out V (HN9.out.trans hV))).mono ?_
    rintro e w' ⟨e1, e2⟩
    rw [decide_eq_true rfl] at e1
    exact ⟨e1, hV.trans e2⟩
  have HSm1 : Hid (∀ V, Nw w9 V → Calls Try.prog 16 #[.slice a6 m6 e6, .slice a7 m7 e7] V fun e w' => e = .returned (.bool true) ∧ Hid (Nw w9 w')) := fun V hV => by
    refine (same_any V _ _ X1 X1 ((x6.old.mono (fun _ h => h.elim) : Sl (fun _ => False) _ _ _).nw ((n7.trans (n8.trans n9)).trans hV)) ((x7.old.mono (fun _ h => h.elim) : Sl (fun _ => False) _ _ _).nw ((n8.trans n9).trans hV)) (by have := HX1L.out; omega) (by have := HX1L.out; omega)).mono ?_
    rintro e w' ⟨e1, e2⟩
    rw [decide_eq_true rfl] at e1
    exact ⟨e1, hV.trans e2⟩
  have HSm2 : Hid (∀ V, Nw w9 V → Calls Try.prog 16 #[.slice a8 m8 e8, .slice a9 m9 e9] V fun e w' => e = .returned (.bool true) ∧ Hid (Nw w9 w')) := fun V hV => by
    refine (same_any V _ _ X2 X2 ((x8.old.mono (fun _ h => h.elim) : Sl (fun _ => False) _ _ _).nw (n9.trans hV)) ((x9.old.mono (fun _ h => h.elim) : Sl (fun _ => False) _ _ _).nw hV) (by have := HX2L.out; omega) (by have := HX2L.out; omega)).mono ?_
    rintro e w' ⟨e1, e2⟩
    rw [decide_eq_true rfl] at e1
    exact ⟨e1, hV.trans e2⟩
  have HKp : Hid (∀ (X : Nat → Prop) V, ¬ X g1 → (∀ k, X k → w.heap.size ≤ k) → Fr X w9 V → Calls Try.prog 17 #[.slice (some ⟨g1, 0, none⟩) N32 c1, .slice a n c] V fun e w' => e = .returned (.bool true) ∧ Nw V w') := fun X V hX1 hX2 hV => by
    have ho := (HO1.out.nw (HN2.out.trans HN9.out)).kept hV hX1
    have hbb : Sl (fun _ => False) (.slice a n c) b V := ((HSB.out w9 HN9.out).kept hV hX2).mono (fun _ h => h.elim)
    have := kept_any V g1 c1 (.slice a n c) b (by rw [HE.out.1, HE.out.2.2.1]; exact ho) hbb (by rw [HE.out.1]; omega)
    rw [HE.out.1, HE.out.2.2.1] at this
    exact this
  have HK1 : Hid (∀ V, Nw w9 V → Calls Try.prog 17 #[.slice (some ⟨g1, 0, none⟩) N32 c1, .slice a n c] V fun e w' => e = .returned (.bool true) ∧ Hid (Nw w9 w')) := fun V hV => (HKp.out _ V (fun h => h) (fun k h => h.elim) hV).mono (fun e w' ⟨h1, h2⟩ => ⟨h1, hV.trans h2⟩)
  have HX : Hid (Nw w9 w9) := Fr.refl _ _
  clear p3 p4 p5 n35 n45 n6 x6 n7 x7 n8 x8 n9 x9 n59
  go_upto_region 12 with (first
    | (go_at_call 13; with_reducible refine (HVa.out _ HX.out).mono ?_; rintro e wx ⟨rfl, HX⟩)
    | (go_at_call 14; with_reducible refine (HVb.out _ HX.out).mono ?_; rintro e wx ⟨rfl, HX⟩)
    | (go_at_call 15; with_reducible refine (HR1.out _ HX.out).mono ?_; rintro e wx ⟨rfl, HX⟩)
    | (go_at_call 15; with_reducible refine (HR2.out _ HX.out).mono ?_; rintro e wx ⟨rfl, HX⟩)
    | (go_at_call 15; with_reducible refine (HR3.out _ HX.out).mono ?_; rintro e wx ⟨rfl, HX⟩)
    | (go_at_call 16; with_reducible refine (HSm1.out _ HX.out).mono ?_; rintro e wx ⟨rfl, HX⟩)
    | (go_at_call 16; with_reducible refine (HSm2.out _ HX.out).mono ?_; rintro e wx ⟨rfl, HX⟩)
    | (go_at_call 17; with_reducible refine (HK1.out _ HX.out).mono ?_; rintro e wx ⟨rfl, HX⟩))
  clear HVa HVb HR1 HR2 HR3 HSm1 HSm2 HK1
  obtain ⟨p3, p4, p5, n35, n45⟩ := HP3.out
  obtain ⟨n6, x6⟩ := H6.out
  obtain ⟨n7, x7⟩ := H7.out
  obtain ⟨n8, x8⟩ := H8.out
  obtain ⟨n9, x9⟩ := H9.out
  obtain ⟨s23, s34, s45⟩ := HS3.out
  obtain ⟨og3, o3, r3⟩ := p3
  obtain ⟨og4, o4, r4⟩ := p4
  obtain ⟨og5, o5, r5⟩ := p5
  obtain ⟨og6, r6, y6⟩ := NewB.own x6
  obtain ⟨og8, r8, y8⟩ := NewB.own x8
  have n59 : Nw w5 w9 := n6.trans (n7.trans (n8.trans n9))
  have s56 := n6.size
  have s67 := n7.size
  have s78 := n8.size
  have s89 := n9.size
  have l3 := o3.lt
  have l4 := o4.lt
  have l5 := o5.lt
  have hXs := HX.out.size
  obtain ⟨hg11, hg12⟩ := HG1.out
  obtain ⟨hgm1, hgm2⟩ := HGM.out
  have hs12 := HN2.out.size
  have hsw := HN1.out.size
  -- written, full, full
  have HW3 := tHid (written_any wx og3 (.slice a3 m3 e3) lf (o3.nw (n35.trans (n59.trans HX.out))) HLF.out)
  have HFu1 : Hid (∀ V, Fr (fun k => og3 = some k) wx V → Calls Try.prog 19 #[.slice a6 m6 e6, .int .u8 3] V fun e w' => (∃ r, e = .returned r) ∧ Hid (Fr (fun k => og3 = some k ∨ og6 = some k) wx w')) := fun V hV => by
    have hm := y6 (fun k => og3 = some k) V (((n7.trans (n8.trans n9)).trans HX.out).any.trans hV) (fun g h1 h2 => by have := r6 g h1; have := l3 g h2; omega)
    refine (full_own hm (by have := HX1L.out; omega) 3#8 3 rfl).mono ?_
    rintro e w' ⟨e1, e2⟩
    exact ⟨e1, (hV.mono (fun i hi => .inl (.inl hi))).trans (e2.mono (fun i hi => .inl (.inr hi)))⟩
  have HFu2 : Hid (∀ V, Fr (fun k => og3 = some k ∨ og6 = some k) wx V → Calls Try.prog 19 #[.slice a8 m8 e8, .int .u8 4] V fun e w' => (∃ r, e = .returned r) ∧ Hid (Fr (fun k => og3 = some k ∨ og6 = some k ∨ og8 = some k) wx w')) := fun V hV => by
    have hm := y8 (fun k => og3 = some k ∨ og6 = some k) V ((n9.trans HX.out).any.trans hV) (fun g h1 h2 => by
      have := r8 g h1
      rcases h2 with h2 | h2
      · have := l3 g h2; omega
      · have := r6 g h2; omega)
    refine (full_own hm (by have := HX2L.out; omega) 4#8 4 rfl).mono ?_
    rintro e w' ⟨e1, e2⟩
    exact ⟨e1, (hV.mono (fun i hi => .inl (by rcases hi with h | h; exact .inl h; exact .inr (.inl h)))).trans (e2.mono (fun i hi => .inl (.inr (.inr hi))))⟩
  have hXn : ∀ k, (og3 = some k ∨ og6 = some k ∨ og8 = some k) → W2.heap.size ≤ k ∧ (k < w3.heap.size ∨ w5.heap.size ≤ k) := fun k hk => by
    rcases hk with h | h | h
    · exact ⟨r3 k h, .inl (l3 k h)⟩
    · have := r6 k h; exact ⟨by omega, .inr (by omega)⟩
    · have := r8 k h; exact ⟨by omega, .inr (by omega)⟩
  have HQ : Hid (∀ wd, Fr (fun k => og3 = some k ∨ og6 = some k ∨ og8 = some k) wx wd → (∀ V, Nw wd V → Calls Try.prog 15 #[.slice a4 m4 e4, .slice a5 m5 e5] V fun e w' => e = .returned (.bool true) ∧ Hid (Nw wd w')) ∧ (∀ V, Nw wd V → Calls Try.prog 17 #[.slice (some ⟨g1, 0, none⟩) N32 c1, .slice a n c] V fun e w' => e = .returned (.bool true) ∧ Hid (Nw wd w')) ∧ (∀ V, Nw wd V → Calls Try.prog 15 #[.slice (some ⟨gm, 0, none⟩) n2 cm, .slice a2 n2 c2] V fun e w' => e = .returned (.bool true) ∧ Hid (Nw wd w')) ∧ (∀ V, Nw wd V → V.cell? ⟨gm, n2 * 2, none⟩ = some (.int .i64 7)) ∧ (∀ V, Nw wd V → P (.returned (.bool true)) V)) := fun wd hd => by
    have h9d : Fr (fun k => og3 = some k ∨ og6 = some k ∨ og8 = some k) w9 wd := HX.out.any.trans hd
    have h2d : Fr (fun k => og3 = some k ∨ og6 = some k ∨ og8 = some k) W2 wd := HN9.out.any.trans h9d
    refine ⟨fun V hV => ?_, fun V hV => ?_, fun V hV => ?_, fun V hV => ?_, fun V hV => ?_⟩
    · refine (ranges_any V _ _ lf lf ((((o4.nw (n45.trans n59)).kept h9d (fun g hg hx => by have := r4 g hg; have := l4 g hg; have := hXn g hx; omega)).slr rgOk).nw hV) ((((o5.nw n59).kept h9d (fun g hg hx => by have := r5 g hg; have := l5 g hg; have := hXn g hx; omega)).slr rgOk).nw hV)).mono ?_
      rintro e w' ⟨e1, e2⟩
      rw [decide_eq_true rfl] at e1
      exact ⟨e1, hV.trans e2⟩
    · exact (HKp.out _ V (fun h => by have := hXn g1 h; omega) (fun k h => by have := hXn k h; omega) (h9d.trans hV.any)).mono (fun e w' ⟨h1, h2⟩ => ⟨h1, hV.trans h2⟩)
    · refine (ranges_any V _ _ l l (HSP.out _ (fun h => by have := hXn gm h; omega) V (h2d.trans hV.any)) (((HSLl.out w9 HN9.out).kept h9d (fun k h => by have := hXn k h; omega)).nw hV)).mono ?_
      rintro e w' ⟨e1, e2⟩
      rw [decide_eq_true rfl] at e1
      exact ⟨e1, hV.trans e2⟩
    · have ho := (HOM.out.kept h2d (fun h => by have := hXn gm h; omega)).nw hV
      have hlast : (l ++ [((7 : Int), (7 : Int))])[n2]? = some (7, 7) := by
        rw [List.getElem?_append_right (by rw [HE.out.2.1]; exact Nat.le_refl _), HE.out.2.1, Nat.sub_self]
        rfl
      have := (ho.cell rgOk n2 0 _ _ hlast rfl).1
      exact this
    · exact HF.out V (((HN1.out.trans (HN2.out.trans HN9.out)).then h9d (fun i hi => .inr (by have := hXn i hi; omega))).trans hV)
  have HV0 : Hid (∀ wd V, Nw wd V → Calls Try.prog 13 #[.slice none 0 0, .int .i64 0] V fun e w' => e = .returned (.bool true) ∧ Hid (Nw wd w')) := fun wd V hV => by
    refine (valid_any (X := fun _ => False) V none 0 0 [] (.inl ⟨none, rfl, rfl⟩) 0).mono ?_
    rintro e w' ⟨e1, e2⟩
    exact ⟨e1, hV.trans e2⟩
  have hM1' : (n2 : Int) < (M1 : Int) := by omega
  clear HX1L HX2L HKp HSP HSLl HSB HSC HP3 H6 H7 H8 H9 HOM HO1 HF HLF HN9 HN8 HN7 HN6 HN5 HS3 HG1 HGM HN2 HN1 HB HL HX
  clear o3 o4 o5 y6 y8 n6 x6 n7 x7 n8 x8 n9 x9 n59 n35 n45 r3 r4 r5 r6 r8 l3 l4 l5 s23 s34 s45 s56 s67 s78 s89 hXs hg11 hg12 hgm1 hgm2 hs12 hsw hXn
  go_upto_region 15 with (first
    | (go_at_call 18; with_reducible refine HW3.out.mono ?_; rintro e wa ⟨⟨r1, rfl⟩, Ha⟩)
    | (go_at_call 19; with_reducible refine (HFu1.out _ Ha).mono ?_; rintro e wb ⟨⟨r2, rfl⟩, Hb⟩)
    | (go_at_call 19; with_reducible refine (HFu2.out _ Hb.out).mono ?_; rintro e wd ⟨⟨r3, rfl⟩, Hd⟩))
  obtain ⟨q1, q2, q3, q4, q5⟩ := HQ.out wd Hd.out
  have HR4 := tHid q1
  have HK4 := tHid q2
  have HR5 := tHid q3
  have HC4 := tHid q4
  have HP4 := tHid q5
  have HY : Hid (Nw wd wd) := Fr.refl _ _
  clear q1 q2 q3 q4 q5 HQ HW3 HFu1 HFu2 Ha Hb Hd
  go_wp2_with (first
    | (go_at_call 15; with_reducible refine (HR4.out _ HY.out).mono ?_; rintro e wy ⟨rfl, HY⟩)
    | (go_at_call 15; with_reducible refine (HR5.out _ HY.out).mono ?_; rintro e wz ⟨rfl, HY⟩; have hcell := HC4.out wz HY.out)
    | (go_at_call 17; with_reducible refine (HK4.out _ HY.out).mono ?_; rintro e wy ⟨rfl, HY⟩)
    | (go_at_call 13; with_reducible refine (HV0.out wd _ HY.out).mono ?_; rintro e wv ⟨rfl, HY⟩))
  first | exact HP4.out _ HY.out | (go_ret; exact HP4.out _ HY.out)
end Go.Proofs.Ytffhpoilifgcdaa

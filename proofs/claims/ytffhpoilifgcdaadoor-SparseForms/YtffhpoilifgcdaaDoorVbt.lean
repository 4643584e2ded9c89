import Derived.Test.YtffhpoilifgcdaaDoorVbs
namespace Go.Proofs.YtffhpoilifgcdaaDoor
open Go.RowKit
set_option linter.unusedVariables false
/-! ### SparseTexts -/
theorem copyG1 (V : World) (va : Value) (l : List Rg) (hl : SlR RG (fun _ => False) va l V) (hn : l.length ≤ 8796093022208) : ∃ g1 c1 W1, Hid (∀ ty, (Builtin.append_ #[22, 22] ty #[.slice (some ⟨V.heap.size, 0, none⟩) 0 0, va]).run Tryd.prog (V.alloc (.cells #[] 51)) = .ok (.slice (some ⟨g1, 0, none⟩) l.length c1) W1) ∧
    OwR RG g1 (.slice (some ⟨g1, 0, none⟩) l.length c1) l W1 ∧ Nw V W1 ∧ V.heap.size ≤ g1 := by
  have hN : Nw V (V.alloc (.cells #[] 51)) := (Fr.refl _ _).alloc _
  obtain ⟨v1, g1, W1, k1, k2, k3, k4⟩ := owR_app rgOk _ _ _ [] (OwR.empty (R := RG) V) va l (hl.nw hN) (by simp only [RG, List.length_nil]; omega) (by simp only [List.length_nil]; omega)
  rw [List.nil_append] at k2
  obtain ⟨xs, rfl, _⟩ := id k2
  have hs0 : ∀ o, (V.alloc o).heap.size = V.heap.size + 1 := fun o => by simp
  rw [hs0] at k4
  have h1 : V.heap.size ≤ g1 := by rcases k4 with e | e <;> omega
  exact ⟨g1, _, W1, k1, k2, hN.then k3 (fun i hi => .inr (by omega)), h1⟩
theorem ptX_len (l : List Rg) : (ptX l).length ≤ 10000000 := by
  unfold ptX
  split
  · rename_i hv
    obtain ⟨m, rfl, hch, hml⟩ := vld_m hv
    rw [natL_rgL, ptT, List.length_append, List.length_replicate]
    have h1 := bdT_len m hml (chn_all hch)
    have h2 := padN_lt (bdT m).length
    omega
  · simp
theorem ptX_nil : ptX [] = ptT [] ∧ (ptT []).length = 512 := by
  refine ⟨rfl, ?_⟩
  have h0 : (bdT []).length = 2 := by
    rw [bdT, List.length_append, lnT_len, show ([] : List (Nat × Nat)).length = 0 from rfl, dgt_small (by omega)]
    rfl
  rw [ptT, List.length_append, List.length_replicate, h0]
  rfl
theorem rdA_len (b : List By) (k e p : Nat) (acc : List (Nat × Nat)) (h : acc.length + k ≤ 65536) : (rdA b k e p acc).1.length ≤ 65536 := by
  induction k generalizing e p acc with
  | zero => rw [rdA]; exact h
  | succ k ih =>
    rw [rdA]
    split
    · simp
    · exact ih _ _ _ (by rw [List.length_append, List.length_singleton]; omega)
theorem rdT_len (b : List By) : (rdT b).1.length ≤ 65536 := by
  rw [rdT_rs]
  split
  · simp
  · split
    · simp
    · show (rsT b).1.length ≤ _
      unfold rsT
      simp only
      split
      · simp
      · split
        · simp
        · exact rdA_len b _ 0 _ [] (by simp; omega)
set_option maxHeartbeats 16000000 in
set_option maxRecDepth 100000 in
theorem texts_walk (w : World) (hEv : Ev15 w) (a2 : Option Addr) (n2 c2 : Nat) (l : List Rg) (hl : SlR RG (fun k => w.heap.size ≤ k) (.slice a2 n2 c2) l w) (hn2 : n2 ≤ 8796093022208) (a : Option Addr) (n c : Nat) (b : List By) (hb : Old w (.slice a n c) b) (hn : n ≤ 140737488351232) :
    Calls Tryd.prog 3 #[.slice a2 n2 c2, .slice a n c] w fun e w' => e = .returned (.bool true) ∧ Nw w w' := by
  obtain ⟨P, hP⟩ : ∃ P : Ending → World → Prop, P = fun e w' => e = .returned (.bool true) ∧ Nw w w' := ⟨_, rfl⟩
  rw [← hP]
  have HF : Hid (∀ V, Nw w V → P (.returned (.bool true)) V) := fun V hV => by rw [hP]; exact ⟨rfl, hV⟩
  clear hP
  obtain ⟨hbn, k1, k2⟩ := slx_len hb
  obtain ⟨hln, k3, k4⟩ := slg_len hl
  obtain ⟨N32, hN32⟩ : ∃ N32, n + 32 = N32 := ⟨_, rfl⟩
  obtain ⟨gm, cm, W1, HA1, om, nm, hgm⟩ := copyG1 w (.slice a2 n2 c2) l (hl.mono (fun _ h => h.elim)) (by omega)
  rw [hln] at HA1 om
  have HB := tHid hb
  have HL := tHid hl
  have HE : Hid (b.length = n ∧ l.length = n2 ∧ n + 32 = N32) := ⟨hbn, hln, hN32⟩
  have HOM := tHid om
  have HN1 := tHid nm
  have HGM : Hid (w.heap.size ≤ gm ∧ gm < W1.heap.size) := ⟨hgm, om.lt⟩
  have HSLl : Hid (∀ V, Nw W1 V → SlR RG (fun k => w.heap.size ≤ k) (.slice a2 n2 c2) l V) := fun V hV => hl.nw (nm.trans hV)
  have HSB : Hid (∀ V, Nw W1 V → Sl (fun k => w.heap.size ≤ k) (.slice a n c) b V) := fun V hV => hb.nw (nm.trans hV)
  have HSP : Hid (∀ X : Nat → Prop, ¬ X gm → ∀ V, Fr X W1 V → SlR RG (fun k => k ≠ gm) (.slice (some ⟨gm, 0, none⟩) n2 cm) l V) := fun X hX V hV => (om.kept hV hX).slr rgOk
  obtain ⟨E1, hE1⟩ : ∃ E1 : Int, (if vld l 9223372036854775807 then (0 : Int) else 1) = E1 := ⟨_, rfl⟩
  have HPu : Hid (∀ V, Nw W1 V → Calls Tryd.prog 6 #[.slice (some ⟨gm, 0, none⟩) n2 cm] V fun e V' => ∃ a k c, e = .returned (.tuple #[.slice a k c, .int .i64 E1]) ∧ Hid (Nw V V' ∧ NewB V (.slice a k c) (ptX l) V')) := fun V hV => by
    have := put_any V (hEv.nw (nm.trans hV)) _ _ _ l (HSP.out _ (fun h => h) V hV)
    unfold PtA at this
    rw [hE1] at this
    exact this
  have HRP : Hid (∀ V, Nw W1 V → Calls Tryd.prog 7 #[.slice a2 n2 c2] V fun e V' => ∃ a k c, e = .returned (.tuple #[.slice a k c, .int .i64 E1]) ∧ Hid (Nw V V' ∧ NewB V (.slice a k c) (ptX l) V')) := fun V hV => by
    have := rput_any V _ _ _ l (HSLl.out V hV)
    unfold PtA at this
    rw [hE1] at this
    exact this
  have HLent : Hid (∀ V, Nw W1 V → Calls Tryd.prog 8 #[.slice a n c] V fun e w' => ∃ g c1, e = .returned (.tuple #[.slice (some ⟨g, 0, none⟩) n c1, .slice (some ⟨g, 0, none⟩) N32 c1]) ∧ Hid (V.heap.size ≤ g ∧ Ow g (.slice (some ⟨g, 0, none⟩) N32 c1) (b ++ marks 32) w' ∧ Nw V w')) := fun V hV => by
    refine (lent_any V (.slice a n c) b (hb.later (nm.trans hV)) (by omega)).mono ?_
    rintro e w' ⟨g, c1, e1, e2, e3, e4⟩
    rw [hbn, hN32] at e1 e3
    exact ⟨g, c1, e1, e2, e3, e4⟩
  have HPn : Hid (∀ V, Nw w V → Calls Tryd.prog 6 #[.slice none 0 0] V fun e V' => ∃ a c, e = .returned (.tuple #[.slice a 512 c, .int .i64 0]) ∧ Hid (Nw V V')) := fun V hV => by
    have h := put_any (X := fun _ => False) V (hEv.nw hV) none 0 0 [] (.inl ⟨none, rfl, rfl⟩)
    unfold PtA at h
    refine h.mono ?_
    rintro e V' ⟨a', k', c', e1, h1⟩
    obtain ⟨q1, _, _⟩ := Mine.len h1.out.2
    rw [ptX_nil.1, ptX_nil.2] at q1
    subst q1
    exact ⟨a', c', e1, h1.out.1⟩
  have HXL := tHid (ptX_len l)
  have HRL := tHid (rdT_len b)
  clear hb hl hbn hln hN32 om nm hgm hE1 hEv
  generalize ptX l = X1 at *
  go_enter Tryd.func3, Tryd.ntmps3
  go_upto_region 5 with (first
    | (at_builtin; refine Lib.wpList_append_run _ rfl _ _ 22 22 rfl (.slice (some ⟨w.heap.size, 0, none⟩) 0 0) (.slice a2 n2 c2) (by first | rfl | simp [Act.eval]) (by first | rfl | simp [Act.eval]) _ _ (HA1.out _) ?_)
    | (go_at_call 6; with_reducible refine (HPu.out W1 (Fr.refl _ _)).mono ?_; rintro e w2 ⟨ax, kx, cx, rfl, H2⟩; have HN2 := tHid (And.left H2.out))
    | (go_at_call 7; with_reducible refine (HRP.out _ HN2.out).mono ?_; rintro e w3 ⟨ay, ky, cy, rfl, H3⟩; have HN3 := tHid (Nw.trans HN2.out H3.out.1))
    | (go_at_call 8; with_reducible refine (HLent.out _ HN3.out).mono ?_; rintro e w4 ⟨g1, c1, rfl, H4⟩; have HN4 := tHid (Nw.trans HN3.out H4.out.2.2)))
  clear HA1 HPu HRP HLent
  obtain ⟨h41, h42, h43⟩ := H4.out
  have HO1 := tHid h42
  have HG1 : Hid (w3.heap.size ≤ g1 ∧ g1 < w4.heap.size) := ⟨h41, h42.lt⟩
  have HSC : Hid (∀ V, Nw w4 V → Old V (.slice (some ⟨g1, 0, none⟩) n c1) b) := fun V hV => by
    have ho := HO1.out.nw hV
    obtain ⟨c', e, q1, q2, q3⟩ := ho.cut n (by rw [List.length_append, HE.out.1]; omega)
    injection e with _ e1 e2
    rw [List.take_left' HE.out.1] at q3
    rw [e2]
    exact q3.old
  have HRd := tHid (read_any15 w4 _ _ _ b (HSC.out w4 (Fr.refl _ _)) (by omega))
  have HRR : Hid (∀ V, Nw W1 V → Calls Tryd.prog 10 #[.slice a n c] V (RdA V b)) := fun V hV => rread_any15 V _ _ _ b (HSB.out V hV) (by omega)
  unfold RdA at HRd HRR
  clear HSC h41 h42 h43
  generalize rdT b = R at *
  obtain ⟨R1, R2, R3⟩ := R
  simp only at HRd HRR HRL
  go_upto_region 7 with (first
    | (go_at_call 9; with_reducible refine HRd.out.mono ?_; rintro e w5 ⟨ar, mr, cr, rfl, H5⟩; have HN5 := tHid (Nw.trans HN4.out H5.out.1))
    | (go_at_call 10; with_reducible refine (HRR.out _ HN5.out).mono ?_; rintro e w6 ⟨as', ms, cs, rfl, H6⟩; have HN6 := tHid (Nw.trans HN5.out H6.out.1)))
  clear HRd HRR
  obtain ⟨n2', x2⟩ := H2.out
  obtain ⟨n3, x3⟩ := H3.out
  have n4 := H4.out.2.2
  obtain ⟨n5, p5⟩ := H5.out
  obtain ⟨n6, p6⟩ := H6.out
  have HS1 : Hid (∀ V, Nw w6 V → Calls Tryd.prog 11 #[.slice ax kx cx, .slice ay ky cy] V fun e w' => e = .returned (.bool true) ∧ Hid (Nw w6 w')) := fun V hV => by
    refine (same_any V _ _ X1 X1 ((x2.old.mono (fun _ h => h.elim) : Sl (fun _ => False) _ _ _).nw ((n3.trans (n4.trans (n5.trans n6))).trans hV)) ((x3.old.mono (fun _ h => h.elim) : Sl (fun _ => False) _ _ _).nw ((n4.trans (n5.trans n6)).trans hV)) (by have := HXL.out; omega) (by have := HXL.out; omega)).mono ?_
    rintro e w' ⟨e1, e2⟩
    rw [decide_eq_true rfl] at e1
    exact ⟨e1, hV.trans e2⟩
  have HR1 : Hid (∀ V, Nw w6 V → Calls Tryd.prog 12 #[.slice (some ⟨gm, 0, none⟩) n2 cm, .slice a2 n2 c2] V fun e w' => e = .returned (.bool true) ∧ Hid (Nw w6 w')) := fun V hV => by
    refine (ranges_any V _ _ l l (HSP.out _ (fun h => h) V (HN6.out.trans hV)) (HSLl.out V (HN6.out.trans hV))).mono ?_
    rintro e w' ⟨e1, e2⟩
    rw [decide_eq_true rfl] at e1
    exact ⟨e1, hV.trans e2⟩
  have HR2 : Hid (∀ V, Nw w6 V → Calls Tryd.prog 12 #[.slice ar mr cr, .slice as' ms cs] V fun e w' => e = .returned (.bool true) ∧ Hid (Nw w6 w')) := fun V hV => by
    refine (ranges_any V _ _ (rgL R1) (rgL R1) (p5.slr.nw (n6.trans hV)) (p6.slr.nw hV)).mono ?_
    rintro e w' ⟨e1, e2⟩
    rw [decide_eq_true rfl] at e1
    exact ⟨e1, hV.trans e2⟩
  have HKp : Hid (∀ (X : Nat → Prop) V, ¬ X g1 → (∀ k, X k → w.heap.size ≤ k) → Fr X w6 V → Calls Tryd.prog 13 #[.slice (some ⟨g1, 0, none⟩) N32 c1, .slice a n c] V fun e w' => e = .returned (.bool true) ∧ Nw V w') := fun X V hX1 hX2 hV => by
    have ho := (HO1.out.nw (n5.trans n6)).kept hV hX1
    have hbb : Sl (fun _ => False) (.slice a n c) b V := ((HSB.out w6 HN6.out).kept hV hX2).mono (fun _ h => h.elim)
    have := kept_any V g1 c1 (.slice a n c) b (by rw [HE.out.1, HE.out.2.2]; exact ho) hbb (by rw [HE.out.1]; omega)
    rw [HE.out.1, HE.out.2.2] at this
    exact this
  have HK1 : Hid (∀ V, Nw w6 V → Calls Tryd.prog 13 #[.slice (some ⟨g1, 0, none⟩) N32 c1, .slice a n c] V fun e w' => e = .returned (.bool true) ∧ Hid (Nw w6 w')) := fun V hV => (HKp.out _ V (fun h => h) (fun k h => h.elim) hV).mono (fun e w' ⟨h1, h2⟩ => ⟨h1, hV.trans h2⟩)
  have HX : Hid (Nw w6 w6) := Fr.refl _ _
  clear n2' x2 n3 x3 n4 n5 p5 n6 p6
  go_upto_region 9 with (first
    | (go_at_call 11; with_reducible refine (HS1.out _ HX.out).mono ?_; rintro e wx ⟨rfl, HX⟩)
    | (go_at_call 12; with_reducible refine (HR1.out _ HX.out).mono ?_; rintro e wx ⟨rfl, HX⟩)
    | (go_at_call 12; with_reducible refine (HR2.out _ HX.out).mono ?_; rintro e wx ⟨rfl, HX⟩)
    | (go_at_call 13; with_reducible refine (HK1.out _ HX.out).mono ?_; rintro e wx ⟨rfl, HX⟩))
  clear HS1 HR1 HR2 HK1
  obtain ⟨n2', x2⟩ := H2.out
  obtain ⟨n3, x3⟩ := H3.out
  have n4 := H4.out.2.2
  obtain ⟨n5, p5⟩ := H5.out
  obtain ⟨n6, p6⟩ := H6.out
  obtain ⟨og2, r2, y2⟩ := NewB.own x2
  obtain ⟨og5, o5, r5⟩ := p5
  have l5 := o5.lt
  have s12 := HN1.out.size
  have s23 := n3.size
  have s34 := n4.size
  have s2 := n2'.size
  have s45 := n5.size
  obtain ⟨hg11, hg12⟩ := HG1.out
  obtain ⟨hgm1, hgm2⟩ := HGM.out
  have hm := y2 (fun _ => False) wx (((n3.trans (n4.trans (n5.trans n6))).trans HX.out)) (fun g h1 h2 => h2)
  have HFu := tHid (full_own hm (by have := HXL.out; omega) 3#8 3 rfl)
  have HWr : Hid (∀ V, Fr (fun k => og2 = some k) wx V → Calls Tryd.prog 15 #[.slice ar mr cr] V fun e w' => (∃ r, e = .returned r) ∧ Hid (Fr (fun k => og2 = some k ∨ og5 = some k) wx w')) := fun V hV => by
    have ho := (o5.nw (n6.trans HX.out)).kept hV (fun g hg e => by have := r2 g e; have := r5 g hg; omega)
    refine (written_any V og5 (.slice ar mr cr) (rgL R1) ho (by rw [rgL_len]; have := HRL.out; omega)).mono ?_
    rintro e w' ⟨e1, e2⟩
    exact ⟨e1, (hV.mono (fun i hi => .inl (.inl hi))).trans (e2.mono (fun i hi => .inl (.inr hi)))⟩
  have hXn : ∀ k, (og2 = some k ∨ og5 = some k) → (W1.heap.size ≤ k ∧ k < w2.heap.size) ∨ w4.heap.size ≤ k := fun k hk => by
    rcases hk with h | h
    · exact .inl (r2 k h)
    · exact .inr (r5 k h)
  have HQ : Hid (∀ wd, Fr (fun k => og2 = some k ∨ og5 = some k) wx wd → Nw w wd ∧ (∀ V, Nw wd V → Calls Tryd.prog 12 #[.slice (some ⟨gm, 0, none⟩) n2 cm, .slice a2 n2 c2] V fun e w' => e = .returned (.bool true) ∧ Hid (Nw wd w')) ∧ (∀ V, Nw wd V → Calls Tryd.prog 13 #[.slice (some ⟨g1, 0, none⟩) N32 c1, .slice a n c] V fun e w' => e = .returned (.bool true) ∧ Hid (Nw wd w'))) := fun wd hd => by
    have h6d : Fr (fun k => og2 = some k ∨ og5 = some k) w6 wd := HX.out.any.trans hd
    have h1d : Fr (fun k => og2 = some k ∨ og5 = some k) W1 wd := HN6.out.any.trans h6d
    refine ⟨HN1.out.then h1d (fun i hi => .inr (by have := hXn i hi; omega)), fun V hV => ?_, fun V hV => ?_⟩
    · refine (ranges_any V _ _ l l (HSP.out _ (fun h => by have := hXn gm h; omega) V (h1d.trans hV.any)) (((HSLl.out w6 HN6.out).kept h6d (fun k h => by have := hXn k h; omega)).nw hV)).mono ?_
      rintro e w' ⟨e1, e2⟩
      rw [decide_eq_true rfl] at e1
      exact ⟨e1, hV.trans e2⟩
    · exact (HKp.out _ V (fun h => by have := hXn g1 h; omega) (fun k h => by have := hXn k h; omega) (h6d.trans hV.any)).mono (fun e w' ⟨h1, h2⟩ => ⟨h1, hV.trans h2⟩)
  clear HXL HRL HKp HSP HSLl HSB H2 H3 H4 H5 H6 HOM HO1 HN6 HN5 HN4 HN3 HN2 HG1 HGM HN1 HB HL HX
  clear n2' x2 n3 x3 n4 n5 n6 p6 r2 y2 o5 r5 l5 s12 s23 s34 s2 s45 hg11 hg12 hgm1 hgm2 hm hXn
  go_upto_region 11 with (first
    | (go_at_call 14; with_reducible refine HFu.out.mono ?_; rintro e wa ⟨⟨r1, rfl⟩, Ha⟩)
    | (go_at_call 15; with_reducible refine (HWr.out _ Ha).mono ?_; rintro e wd ⟨⟨r2, rfl⟩, Hd⟩))
  obtain ⟨q0, q1, q2⟩ := HQ.out wd Hd.out
  have HC1 := tHid (HPn.out wd q0)
  have HR4 := tHid q1
  have HK4 := tHid q2
  have HNd := tHid q0
  clear q0 q1 q2 HQ HFu HWr Ha Hd HPn
  go_wp2_with (first
    | (go_at_call 6; with_reducible refine HC1.out.mono ?_; rintro e wy ⟨ao, co, rfl, HY⟩)
    | (go_at_call 12; with_reducible refine (HR4.out _ HY.out).mono ?_; rintro e wy ⟨rfl, HY⟩)
    | (go_at_call 13; with_reducible refine (HK4.out _ HY.out).mono ?_; rintro e wy ⟨rfl, HY⟩))
  first | exact HF.out _ (HNd.out.trans HY.out) | (go_ret; exact HF.out _ (HNd.out.trans HY.out))
end Go.Proofs.YtffhpoilifgcdaaDoor

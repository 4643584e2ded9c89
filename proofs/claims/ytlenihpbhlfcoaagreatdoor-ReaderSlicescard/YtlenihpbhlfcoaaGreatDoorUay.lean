import Derived.Test.YtlenihpbhlfcoaaGreatDoorUax
set_option maxHeartbeats 8000000
set_option maxRecDepth 100000
set_option linter.unusedSimpArgs false
set_option linter.unusedVariables false
namespace Go.Proofs.YtlenihpbhlfcoaaGreatDoor
open Go.RowKit
theorem decode_any (b : List By) (hbl : b.length = 512) (w : World) : Calls Tryz.prog 51 #[.agg (rc b)] w fun e w' => e = .returned (.tuple #[.agg (decH b).C, .int .i64 (decP b : Nat), .int .i64 (decE b : Nat)]) ∧ Nw w w' := by
 refine asP fun P hP => ?_
 have HF : Hid (∀ W m p E, Nw w W → decH b = m → decP b = p → decE b = E → P (.returned (.tuple #[.agg m.C, .int .i64 (p : Nat), .int .i64 (E : Nat)])) W) := fun W m p E hW h1 h2 h3 => by rw [hP, ← h1, ← h2, ← h3]; exact ⟨rfl, hW⟩
 clear hP;obtain ⟨rb, hrb⟩ : ∃ rb, w.heap.size = rb := ⟨_, rfl⟩;obtain ⟨qb, hqb⟩ : ∃ qb, rb + 1 = qb := ⟨_, rfl⟩;obtain ⟨W1, hW1⟩ : ∃ W1, (w.alloc (.cells (rc b) 58)).alloc (.cells #[.int .i64 0, .string ⟨#[]⟩, .string ⟨#[]⟩, .int .i64 0, .int .i64 0, .int .i64 0, .int .i64 0, .int .i64 0, .int .u8 0, .string ⟨#[]⟩, .string ⟨#[]⟩, .string ⟨#[]⟩, .int .i64 0, .int .i64 0] 62) = W1 := ⟨_, rfl⟩;have s1 : (w.alloc (.cells (rc b) 58)).heap.size = w.heap.size + 1 := by simp
 have hN1 : Nw w W1 := by rw [← hW1]; exact ((Fr.refl _ _).alloc _).alloc _
 have hR1 : RcH rb b W1 := by rw [← hW1, ← hrb]; exact Nw.heap ((Fr.refl _ _).alloc _) (newHeap _ _)
 have hQ1 : HcH qb hZ W1 := by rw [← hW1, ← hqb, ← hrb, ← s1]; exact newHeap _ _
 have HEN0 : Hid (∀ (W : World) (m : Hr) (p E : Nat), Nw w W → HcH qb m W → decH b = m → decP b = p → decE b = E → ∀ tmps : Array Value, tmps.getD 2 undef = .pointer (some ⟨qb, 0, none⟩) → tmps.getD 3 undef = .int .i64 (p : Nat) → tmps.getD 4 undef = .int .i64 (E : Nat) → bodyPost Tryz.prog Tryz.f51 P .ret ⟨tmps, []⟩ W) := fun W m p E hW hq h1 h2 h3 tmps g2 g3 g4 => by
  refine bodyPost_ret (v := .tuple #[.agg m.C, .int .i64 (p : Nat), .int .i64 (E : Nat)]) ?_ rfl (HF.out _ m p E hW h1 h2 h3);rw [results_c3 rfl];show ((asAddr (tmps.getD 2 undef)).run Tryz.prog _).andThen _ = _;rw [g2];simp only [asAddr, Sem.run_pure, Result.andThen_ok, run_loadVar_row _ qb 62 62 m.C (0, 0) _ hq Tryz.underlying62 rfl (hcSize m), g3, g4]
 have HEND : Hid (∀ (W : World) (m : Hr) (p E : Nat), Nw w W → HcH qb hZ W → decH b = m → decP b = p → decE b = E → ∃ W5, W.setRow qb m.C = W5 ∧ W.heap[qb]? = some (.cells hZ.C 62) ∧ Hid (∀ tmps : Array Value, tmps.getD 2 undef = .pointer (some ⟨qb, 0, none⟩) → tmps.getD 3 undef = .int .i64 (p : Nat) → tmps.getD 4 undef = .int .i64 (E : Nat) → bodyPost Tryz.prog Tryz.f51 P .ret ⟨tmps, []⟩ W5)) := fun W m p E hW hq h1 h2 h3 => by
  refine ⟨_, rfl, hq, HEN0.out _ m p E ?_ (setRow_heap _ _ _ _ 62 _ hq) h1 h2 h3⟩;exact Fr.then hW ((Fr.refl _ _).setRow qb _ (.inl rfl) : Fr (fun k => k = qb) W _) (fun i hi => .inr (by omega))
 have HSZ := tHid hcSize;have HON := tHid hc_one;have HCK : Hid (Calls Tryz.prog 81 #[.agg (rc b)] W1 fun e w2 => e = .returned (.bool (chk b)) ∧ Hid (Nw W1 w2)) := check_any b hbl W1;obtain ⟨kx, hkx⟩ : ∃ kx, str (fd b 257 8) = kx := ⟨_, rfl⟩;obtain ⟨kb, hkb⟩ : ∃ kb, (mF ((fd b 257 8).map u8)).isSome = kb := ⟨_, rfl⟩;have hlk : ((fd b 257 8).map u8).length ≤ 140737488351232 := by
  rw [List.length_map];unfold fd;rw [List.length_take]; omega
 have hmv : ∃ C, (mF ((fd b 257 8).map u8)).elim fZ fV = .agg C ∧ (kb = true → isF (mgOf b) ∧ C = #[.int .i64 (mgOf b : Nat), .int .i64 (fE (mgOf b) : Nat), fP (mgOf b)]) ∧ (kb = false → mgOf b = 0) ∧ ∃ (a c : Int) (G : Value), C = #[.int .i64 a, .int .i64 c, G] ∧ G.oneCell' = true := by
  rcases mF_of b with ⟨h0, hm⟩ | ⟨hf, hm⟩
  ·rw [hm] at hkb;refine ⟨zF, by rw [hm]; rfl, (fun q => by rw [q] at hkb; cases hkb), fun _ => h0, _, _, _, rfl, rfl⟩
  ·rw [hm] at hkb;refine ⟨#[.int .i64 (mgOf b : Nat), .int .i64 (fE (mgOf b) : Nat), fP (mgOf b)], by rw [hm]; rfl, fun _ => ⟨hf, rfl⟩, (fun q => by rw [q] at hkb; cases hkb), _, _, _, rfl, fP_one _⟩
 obtain ⟨C, hC, hC1, hC0, c0, c1, G, rfl, hone⟩ := hmv;have hG : ∀ a w m, (store a G m).run Tryz.prog w = stored Tryz.prog w a G m := fun a w m => run_store Tryz.prog w a G m hone
 have HFM : Hid (∀ V, Nw W1 V → Calls Tryz.prog 27 #[] V fun e w3 => e = .returned (.map (some V.heap.size)) ∧ Hid (Calls Tryz.prog 46 #[] w3 fun e w4 => e = .returned (.agg #[.int .i64 257, .int .i64 8]) ∧ Hid (Calls Tryz.prog 47 #[.agg #[.int .i64 257, .int .i64 8], .pointer (some ⟨rb, 0, none⟩)] w4 fun e w5 => e = .returned (.slice (some ⟨rb, 257, none⟩) 8 255) ∧ (convert 22 9 (.slice (some ⟨rb, 257, none⟩) 8 255)).run Tryz.prog w5 = .ok (.string kx) w5 ∧ (Instr.lookup 74 (.map (some V.heap.size)) (.string kx) true).run Tryz.prog w5 = .ok (.tuple #[.agg #[.int .i64 c0, .int .i64 c1, G], .bool kb]) w5 ∧ Hid (Nw W1 w5)))) := fun V hV => by
  refine (forms_any V).mono ?_;rintro e w3 ⟨rfl, k1, k2⟩;refine ⟨rfl, ?_⟩;refine (magic_any w3).mono ?_;rintro e w4 ⟨rfl, rfl⟩;refine ⟨rfl, ?_⟩;have k4 : Nw w3 (w3.alloc (.cells #[.int .i64 257, .int .i64 8] 98)) := (Fr.refl _ _).alloc _;have hr4 := hR1.kept ((hV.trans k1).trans k4) (fun h => h);refine (of_any 257 8 rb b _ hbl (by decide) (by decide) hr4).mono ?_;rintro e w5 ⟨rfl, k5⟩;have hl := (k2.nw (k4.trans k5)).look mfOk ((fd b 257 8).map u8) hlk;have hsl := fd_sl w5 rb 257 8 b hbl (by decide) (hr4.kept k5 (fun h => h))
  refine ⟨rfl, by rw [← hkx]; exact conv_any hsl, ?_, ((hV.trans k1).trans k4).trans k5⟩;rw [← hkx, ← hC, ← hkb];exact hl
 have HW1 := tHid hW1;have HN1 := tHid hN1;have HR1 := tHid hR1;have HQ1 := tHid hQ1;have HC1 := tHid hC1;have HC0 := tHid hC0;have HIR := tHid (rc_info b hbl);clear hW1 hN1 hR1 hQ1 s1 hC1 hC0 hC hkx hkb hlk;generalize hD : rc b = D at *;have HD := tHid hD;clear hD;by_cases hck : chk b = true
 case neg =>
  rw [Bool.eq_false_iff.2 hck] at HCK;go_enter Tryz.func51, Tryz.ntmps51;go_upto_region 1 with fail;rw [HW1.out];have HR1D : Hid (W1.heap[rb]? = some (.cells D 58)) := by rw [← HD.out]; exact HR1.out
  go_upto_region 2 with (first
   | (refine wpList_load_row rfl 58 _ rfl rb (by first | rfl | simp [Act.eval]) 58 _ (0, 0) _ HR1D.out Tryz.underlying58 rfl HIR.out ?_)
   | (go_at_call 81; with_reducible refine HCK.out.mono ?_; rintro e w2 ⟨rfl, K2⟩))
  clear HR1D HCK;have hE : decE b = 131 := by unfold decE; rw [if_neg hck]
  obtain ⟨W5, e5, y3, HE⟩ := HEND.out w2 hZ 148 131 (HN1.out.trans K2.out) (Nw.heap K2.out HQ1.out) (by unfold decH; rw [if_neg (by rw [hE]; decide)]) (by unfold decP; rw [if_neg hck]) hE;have Y3 := tHid y3;clear HEND HEN0 HFM y3 HF
  go_wp2_with (first
   | (refine wpList_store_row rfl 62 _ _ rfl qb hZ.C (by first | rfl | simp [Act.eval]) (by first | rfl | simp [Act.eval]) 62 _ Y3.out (HSZ.out hZ) rfl (HON.out hZ) ?_; rw [e5]))
  (try simp only [Exit.inBlock, Exit.then])
  exact HE.out _ rfl rfl rfl
 case pos =>
 rw [hck] at HCK;go_enter Tryz.func51, Tryz.ntmps51;go_upto_region 1 with fail;rw [HW1.out];have HR1D : Hid (W1.heap[rb]? = some (.cells D 58)) := by rw [← HD.out]; exact HR1.out
 go_upto_region 3 with (first
  | (refine wpList_load_row rfl 58 _ rfl rb (by first | rfl | simp [Act.eval]) 58 _ (0, 0) _ HR1D.out Tryz.underlying58 rfl HIR.out ?_)
  | (go_at_call 81; with_reducible refine HCK.out.mono ?_; rintro e w2 ⟨rfl, K2⟩))
 clear HR1D HCK;go_upto_region 4 with (first
  | (go_at_call 27; with_reducible refine (HFM.out _ K2.out).mono ?_; rintro e w3 ⟨rfl, K3⟩)
  | (go_at_call 46; with_reducible refine K3.out.mono ?_; rintro e w4 ⟨rfl, K4⟩)
  | (go_at_call 47; with_reducible refine K4.out.mono ?_; rintro e w5 ⟨rfl, hcv, hlk, K5⟩))
 obtain ⟨V5, hV5⟩ : ∃ V5, w5.alloc (.cells #[.int .i64 c0, .int .i64 c1, G] 72) = V5 := ⟨_, rfl⟩;rw [hV5];have hN5 : Nw W1 V5 := by rw [← hV5]; exact K5.out.alloc _
 have hB5 : V5.heap[w5.heap.size]? = some (.cells #[.int .i64 c0, .int .i64 c1, G] 72) := by rw [← hV5]; exact newHeap _ _
 generalize w5.heap.size = fb at *;have HN5 := tHid hN5;have HB5 := tHid hB5;clear hV5 hN5 hB5 hcv hlk K5 K4 K3 HFM;cases kb with
 | false =>
  have hm := HC0.out rfl;have hE : decE b = 130 := by unfold decE; rw [if_pos hck, if_pos hm]
  obtain ⟨W5, e5, y3, HE⟩ := HEND.out V5 hZ 257 130 (HN1.out.trans HN5.out) (Nw.heap HN5.out HQ1.out) (by unfold decH; rw [if_neg (by rw [hE]; decide)]) (by unfold decP; rw [if_pos hck, if_pos hm]) hE;have Y3 := tHid y3;clear HEND HEN0 y3 HF
  go_wp2_with (first
   | (refine wpList_store_row rfl 62 _ _ rfl qb hZ.C (by first | rfl | simp [Act.eval]) (by first | rfl | simp [Act.eval]) 62 _ Y3.out (HSZ.out hZ) rfl (HON.out hZ) ?_; rw [e5]))
  (try simp only [Exit.inBlock, Exit.then])
  exact HE.out _ rfl rfl rfl
 | true =>
 obtain ⟨hF, hCC⟩ := HC1.out rfl;obtain ⟨f, hf⟩ : ∃ f, mgOf b = f := ⟨_, rfl⟩;rw [hf] at hF hCC;have hc0 : c0 = (f : Nat) := by have := congrArg (·[0]?) hCC; simpa using this
 have hc1 : c1 = (fE f : Nat) := by have := congrArg (·[1]?) hCC; simpa using this
 subst hc0 hc1;have HMG := tHid hf;have HCKT := tHid hck;have hfz : f ≠ 0 := by rcases hF with e | e | e <;> rw [e] <;> decide
 have HFZ := tHid hfz;have z0 : V5.drew.cell? ⟨fb, 0, none⟩ = some (.int .i64 (f : Nat)) := cell_of HB5.out 0 _ rfl;have hR5 : RcH rb b V5 := HR1.out.kept HN5.out (fun h => h);have HTO1 : Hid (Calls Tryz.prog 82 #[.pointer (some ⟨rb, 0, none⟩)] V5.drew fun e w6 => e = .returned (.int .u8 ((tyOf b).toNat : Nat)) ∧ w6 = V5.drew) := typeOf_any rb b hbl V5.drew hR5
 have HTO2 : Hid (Calls Tryz.prog 82 #[.pointer (some ⟨rb, 0, none⟩)] (V5.alloc (.cells #[.int .i64 0, .string ⟨#[]⟩, .string ⟨#[]⟩, .int .i64 0, .int .i64 0, .int .i64 0, .int .i64 0, .int .i64 0, .int .u8 0, .string ⟨#[]⟩, .string ⟨#[]⟩, .string ⟨#[]⟩, .int .i64 0, .int .i64 0] 62)).drew fun e w6 => e = .returned (.int .u8 ((tyOf b).toNat : Nat)) ∧ w6 = (V5.alloc (.cells #[.int .i64 0, .string ⟨#[]⟩, .string ⟨#[]⟩, .int .i64 0, .int .i64 0, .int .i64 0, .int .i64 0, .int .i64 0, .int .u8 0, .string ⟨#[]⟩, .string ⟨#[]⟩, .string ⟨#[]⟩, .int .i64 0, .int .i64 0] 62)).drew) := typeOf_any rb b hbl _ (Nw.heap (((Fr.refl _ _).alloc _).drew) hR5)
 have z2 : (V5.alloc (.cells #[.int .i64 0, .string ⟨#[]⟩, .string ⟨#[]⟩, .int .i64 0, .int .i64 0, .int .i64 0, .int .i64 0, .int .i64 0, .int .u8 0, .string ⟨#[]⟩, .string ⟨#[]⟩, .string ⟨#[]⟩, .int .i64 0, .int .i64 0] 62)).drew.cell? ⟨fb, 0, none⟩ = some (.int .i64 (f : Nat)) := cell_of (Nw.heap ((Fr.refl _ _).alloc _) HB5.out) 0 _ rfl;have HCT : Hid (HcH V5.heap.size (dH b f 0 0) ((V5.alloc (.cells (dH b f 0 0).C 62)).drew) ∧ Nw V5 ((V5.alloc (.cells (dH b f 0 0).C 62)).drew)) := ⟨newHeap V5 _, ((Fr.refl _ _).alloc _).drew⟩
 have HCT0 : HcH V5.heap.size (dH b f 0 0) ((V5.alloc (.cells (dH b f 0 0).C 62)).drew) := HCT.out.1;rw [dH_zero] at HCT HCT0;clear hCC hR5 hf hck;go_upto_region 6 with fail;go_cut [7] (fun v7 wy => ∃ hb wx, v7 = .pointer (some ⟨hb, 0, none⟩) ∧ wy = wx ∧ Hid (HcH hb (dH b f 0 0) wx ∧ Nw V5 wx ∧ V5.heap.size ≤ hb))
 case first =>
  go_region_held3 (fun w' => w'.cell? ⟨fb, 0, none⟩ = some (.int .i64 (f : Nat)))
   (first | assumption | exact cell_alloc _ (by assumption))
   (first
    | (go_at_call 82; with_reducible refine HTO1.out.mono ?_; rintro e w6 ⟨rfl, rfl⟩)
    | (go_at_call 82; with_reducible refine HTO2.out.mono ?_; rintro e w6 ⟨rfl, rfl⟩))
  all_goals
   go_wp2_with fail
   go_meet
   first
    | exact ⟨_, _, rfl, rfl, HCT0, HCT.out.2, Nat.le_refl _⟩
    | (refine ⟨_, _, rfl, rfl, ?_⟩; exact ⟨HCT0, HCT.out.2, Nat.le_refl _⟩)
 case rest =>
 obtain ⟨hb, wx, rfl, hwy, HL⟩ := hcut;have hwy' := hwy.symm;subst hwy';obtain ⟨hH0, hN0, hhb⟩ := HL.out;have lfb := (Array.getElem?_eq_some_iff.1 HB5.out).1;have lrb := (Array.getElem?_eq_some_iff.1 (Nw.heap HN5.out HR1.out)).1;have lqb := (Array.getElem?_eq_some_iff.1 (Nw.heap HN5.out HQ1.out)).1;have Hfb : Hid (fb ≠ hb) := by show fb ≠ hb; omega
 have Hrb : Hid (rb ≠ hb) := by show rb ≠ hb; omega
 have Hqb : Hid (qb ≠ hb) := by show qb ≠ hb; omega
 have Hhw : Hid (w.heap.size ≤ hb) := by
  show w.heap.size ≤ hb;have := HN1.out.size;have := HN5.out.size;omega
 have HTX : Hid (Calls Tryz.prog 42 #[] wx fun e w7 => e = .returned (.slice (some ⟨wx.heap.size, 0, none⟩) 5 5) ∧ Hid (DI b f 0 0 hb w7 w7 ∧ w7.heap[wx.heap.size]? = some (.cells tX 101) ∧ wx.heap.size ≠ hb ∧ w7.heap[fb]? = some (.cells #[.int .i64 (f : Nat), .int .i64 (fE f : Nat), G] 72) ∧ RcH rb b w7 ∧ HcH qb hZ w7 ∧ Nw w w7)) := by
  refine (texts_any wx).mono ?_;rintro e w7 ⟨rfl, rfl⟩;have k : Nw wx (wx.alloc (.cells tX 101)) := (Fr.refl _ _).alloc _;have lhb := (Array.getElem?_eq_some_iff.1 hH0).1;exact ⟨rfl, ⟨Nw.heap k hH0, Fr.refl _ _⟩, newHeap _ _, by omega, Nw.heap (hN0.trans k) HB5.out, Nw.heap ((HN5.out.trans hN0).trans k) HR1.out, Nw.heap ((HN5.out.trans hN0).trans k) HQ1.out, ((HN1.out.trans HN5.out).trans hN0).trans k⟩
 have HNX : Hid (∀ V, Calls Tryz.prog 45 #[] V fun e w1 => e = .returned (.slice (some ⟨V.heap.size, 0, none⟩) 7 7) ∧ Hid (Nw V w1 ∧ w1.heap[V.heap.size]? = some (.cells nX 109))) := fun V => by
  refine (numbers_any V).mono ?_;rintro e w1 ⟨rfl, rfl⟩;exact ⟨rfl, (Fr.refl _ _).alloc _, newHeap _ _⟩
 clear HTO1 HTO2 HCT z0 z2 hwy hH0 hN0 hhb lfb lrb lqb HL HB5 HN5 HC1 HC0 HN1;go_upto_region 8 with (first | (go_at_call 42; with_reducible refine HTX.out.mono ?_; rintro e U0 ⟨rfl, K7⟩));generalize wx.heap.size = tb at *;obtain ⟨t0, t1, t2, t3, t4, t5, t6⟩ := K7.out;have HD0 := tHid t0;have HT := tHid t1;have Htb := tHid t2;have HFB := tHid t3;have HRB := tHid t4;have HQB := tHid t5;have HNU := tHid t6;clear t0 t1 t2 t3 t4 t5 t6 K7 HTX HQ1 HR1;go_loopg [35] 5 (fun kx v wr => ∃ I : Nat, I ≤ 5 ∧ 5 ≤ I + kx ∧ v = .int .i64 (I : Int) ∧ Hid (DI b f I 0 hb U0 wr))
 case atStart => exact ⟨0, by omega, by omega, rfl, HD0.out⟩
 case round =>
  obtain ⟨I, hI, hkx, rfl, HI⟩ := hrel;by_cases hlt : I < 5
  ·obtain ⟨o, n, sl, k, φ, s, R⟩ := trow hZ I hlt;have htb := cell_kept HI.out.fr HT.out Htb.out;have c0 := cell_of htb (I * 3) _ R.x0;have c1 := cell_of htb (I * 3 + 1) _ R.x1;have c2 := cell_of htb (I * 3 + 2) _ R.x2;have hI5 : (I : Int) < 5 := by omega
   obtain ⟨xb, hxb0⟩ : ∃ xb, wr.heap.size = xb := ⟨_, rfl⟩;obtain ⟨V, hV⟩ : ∃ V, wr.alloc (.cells #[.int .i64 (o : Nat), .int .i64 (n : Nat), .func (.func φ) #[] #[]] 101) = V := ⟨_, rfl⟩;have HIV : DI b f I 0 hb U0 V := by rw [← hV]; exact HI.out.nw ((Fr.refl _ _).alloc _)
   have hxb : V.heap[xb]? = some (.cells #[.int .i64 (o : Nat), .int .i64 (n : Nat), .func (.func φ) #[] #[]] 101) := by rw [← hV, ← hxb0]; exact newHeap _ _
   have hxh : xb ≠ hb := by have := (Array.getElem?_eq_some_iff.1 HI.out.hd).1; omega
   have hfV := cell_kept HIV.fr HFB.out Hfb.out;have f0 := cell_of hfV 0 _ rfl;have f1 := cell_of hfV 1 _ rfl;have f2 := cell_of hfV 2 _ rfl;have v0 := cell_of hxb 0 _ rfl;have v1 := cell_of hxb 1 _ rfl;have v2 := cell_of hxb 2 _ rfl;have HS : Hid (∀ U, Fr (fun k => k = hb) V U → U.cell? ⟨xb, 0, none⟩ = some (.int .i64 (o : Nat)) ∧ U.cell? ⟨xb, 1, none⟩ = some (.int .i64 (n : Nat)) ∧ U.cell? ⟨xb, 2, none⟩ = some (.func (.func φ) #[] #[])) := fun U hU => by
    have a2 := cell_kept hU hxb hxh;exact ⟨cell_of a2 0 _ rfl, cell_of a2 1 _ rfl, cell_of a2 2 _ rfl⟩
   have hent : ∀ args w, (callFunc φ args).run Tryz.prog w = .ok (.enter φ args) w := R.ent;have hof : decide ((o : Int) < (fE f : Int)) = decide (o < fE f) := by apply decide_eq_decide.2; omega
   have HHS := tHid (has_any (f : Nat) (fE f : Nat) (o : Nat) (n : Nat) G V);by_cases hoE : o < fE f
   ·rw [decide_eq_true hoE] at hof;rw [hof] at HHS
    have HSY : Hid (∀ w1, Nw V w1 → (w1.drew.cell? ⟨xb, 0, none⟩ = some (.int .i64 (o : Nat)) ∧ w1.drew.cell? ⟨xb, 1, none⟩ = some (.int .i64 (n : Nat)) ∧ w1.drew.cell? ⟨xb, 2, none⟩ = some (.func (.func φ) #[] #[])) ∧ Hid (Calls Tryz.prog φ #[.pointer (some ⟨hb, 0, none⟩)] w1.drew fun e w2 => e = .returned (.pointer (some ⟨hb, sl, none⟩)) ∧ (w2.cell? ⟨xb, 0, none⟩ = some (.int .i64 (o : Nat)) ∧ w2.cell? ⟨xb, 1, none⟩ = some (.int .i64 (n : Nat)) ∧ w2.cell? ⟨xb, 2, none⟩ = some (.func (.func φ) #[] #[])) ∧ Hid (Calls Tryz.prog 47 #[.agg #[.int .i64 (o : Nat), .int .i64 (n : Nat)], .pointer (some ⟨rb, 0, none⟩)] w2 fun e w3 => e = .returned (.slice (some ⟨rb, o, none⟩) n (512 - o)) ∧ (w3.cell? ⟨xb, 0, none⟩ = some (.int .i64 (o : Nat)) ∧ w3.cell? ⟨xb, 1, none⟩ = some (.int .i64 (n : Nat)) ∧ w3.cell? ⟨xb, 2, none⟩ = some (.func (.func φ) #[] #[])) ∧ Hid (Calls Tryz.prog 62 #[.slice (some ⟨rb, o, none⟩) n (512 - o)] w3 fun e w4 => e = .returned (.string (str (txt (fd b o n)))) ∧ (w4.cell? ⟨xb, 0, none⟩ = some (.int .i64 (o : Nat)) ∧ w4.cell? ⟨xb, 1, none⟩ = some (.int .i64 (n : Nat)) ∧ w4.cell? ⟨xb, 2, none⟩ = some (.func (.func φ) #[] #[])) ∧ (∃ v, w4.cell? ⟨hb, sl, none⟩ = some v) ∧ w4.frozen? ⟨hb, sl, none⟩ = false ∧ ((w4.setCell ⟨hb, sl, none⟩ (.string (str (txt (fd b o n))))).cell? ⟨xb, 0, none⟩ = some (.int .i64 (o : Nat)) ∧ (w4.setCell ⟨hb, sl, none⟩ (.string (str (txt (fd b o n))))).cell? ⟨xb, 1, none⟩ = some (.int .i64 (n : Nat)) ∧ (w4.setCell ⟨hb, sl, none⟩ (.string (str (txt (fd b o n))))).cell? ⟨xb, 2, none⟩ = some (.func (.func φ) #[] #[])) ∧ Hid (DI b f (I + 1) 0 hb U0 (w4.setCell ⟨hb, sl, none⟩ (.string (str (txt (fd b o n)))))))))) := fun w1 k1 => by
     refine ⟨HS.out w1.drew (Fr.mono k1.drew (fun i hi => hi.elim)), ?_⟩;refine (R.says hb w1.drew).mono ?_;rintro e w2 ⟨rfl, rfl⟩;have k2 : Nw V w1.drew := k1.drew;refine ⟨rfl, HS.out _ (Fr.mono k2 (fun i hi => hi.elim)), ?_⟩;have hr2 : RcH rb b w1.drew := cell_kept (Fr.then HIV.fr k2 (fun i hi => hi.elim)) HRB.out Hrb.out;refine (of_any o n rb b w1.drew hbl R.n0 R.on hr2).mono ?_;rintro e w3 ⟨rfl, k3⟩;refine ⟨rfl, HS.out _ (Fr.mono (k2.trans k3) (fun i hi => hi.elim)), ?_⟩;refine (text_any w3 _ n (512 - o) (fd b o n) (fd_sl w3 rb o n b hbl R.on (hr2.kept k3 (fun h => h)))).mono ?_
     rintro e w4 ⟨rfl, k4⟩;have k5 := (k2.trans k3).trans k4;have HI4 := HIV.nw k5;obtain ⟨v, q1, q2⟩ := HI4.tcell sl (sT_lt R.hsl);exact ⟨rfl, HS.out _ (Fr.mono k5 (fun i hi => hi.elim)), ⟨v, q1⟩, q2, HS.out _ ((Fr.mono k5 (fun i hi => hi.elim)).setCell ⟨hb, sl, none⟩ _ (.inl rfl)), HI4.tset R.t R.hsl hoE⟩
    have HV := tHid hV;rw [← hxb0] at *;clear htb hxb hfV R hV HI HIV hof HS hxh;generalize fE f = E at *;generalize str (txt (fd b o n)) = tx at *;go_upto_region 10 with fail;rw [HV.out];go_upto_region 11 with (first | (go_at_call 44; with_reducible refine HHS.out.mono ?_; rintro e w1 ⟨rfl, K1⟩));obtain ⟨kS, K2⟩ := HSY.out w1 K1;clear HSY v0 v1 v2 f0 f1 f2
    go_region_held3 (fun w' => w'.cell? ⟨wr.heap.size, 0, none⟩ = some (.int .i64 (o : Nat)) ∧ w'.cell? ⟨wr.heap.size, 1, none⟩ = some (.int .i64 (n : Nat)) ∧ w'.cell? ⟨wr.heap.size, 2, none⟩ = some (.func (.func φ) #[] #[]))
     (first | assumption)
     (first
      | (go_at_fn φ; with_reducible refine K2.out.mono ?_; rintro e w2 ⟨rfl, k2, K3⟩)
      | (go_at_call 47; with_reducible refine K3.out.mono ?_; rintro e w3 ⟨rfl, k3, K4⟩)
      | (go_at_call 62; with_reducible refine K4.out.mono ?_; rintro e w4 ⟨rfl, k4, ⟨v4, q1⟩, q2, k5, K5⟩))
    go_wp2_with fail
    go_roundg (5 - (I + 1))
    case measure => omega
    case rel => exact ⟨I + 1, by omega, by omega, by first | rfl | (congr 1), K5⟩
   ·rw [decide_eq_false hoE] at hof;rw [hof] at HHS;have HNX2 : Hid (∀ w1, Nw V w1 → DI b f (I + 1) 0 hb U0 w1) := fun w1 k1 => (HIV.tskip R.t hoE).nw k1
    have HV := tHid hV;rw [← hxb0] at *;clear htb hxb hfV R hV HI HIV hof HS hxh;generalize fE f = E at *;go_upto_region 10 with fail;rw [HV.out]
    go_wp2_with (first | (go_at_call 44; with_reducible refine HHS.out.mono ?_; rintro e w1 ⟨rfl, K1⟩))
    go_roundg (5 - (I + 1))
    case measure => omega
    case rel => exact ⟨I + 1, by omega, by omega, by first | rfl | (congr 1), HNX2.out _ K1⟩
  ·have hI5 : ¬ (I : Int) < 5 := by omega
   obtain rfl : I = 5 := by omega
   go_upto_region 14 with (first | (go_at_call 45; with_reducible refine (HNX.out _).mono ?_; rintro e w8 ⟨rfl, K8⟩))
   have Hnb : Hid (wr.heap.size ≠ hb) := by have := (Array.getElem?_eq_some_iff.1 HI.out.hd).1; show wr.heap.size ≠ hb; omega
   generalize wr.heap.size = nb at *;have HD5 : Hid (DI b f 5 0 hb U0 w8) := HI.out.nw K8.out.1;have HX := tHid K8.out.2;clear HI HT Htb HD0 K8 HNX;go_loopg [54] 7 (fun kx v wr => ∃ I : Nat, I ≤ 7 ∧ 7 ≤ I + kx ∧ v = .int .i64 (I : Int) ∧ Hid (DI b f 5 I hb U0 wr ∧ wr.heap[nb]? = some (.cells nX 109) ∧ scN b f nF = scN b f (nF.drop I)))
   case atStart => exact ⟨0, by omega, by omega, rfl, HD5.out, HX.out, rfl⟩
   case round =>
    obtain ⟨I, hI, hkx, rfl, HI⟩ := hrel;by_cases hlt : I < 7
    ·obtain ⟨o, n, sl, k, φ, x, bl, R⟩ := nrow hZ I hlt;have htb := HI.out.2.1;have c0 := cell_of htb (I * 4) _ R.x0;have c1 := cell_of htb (I * 4 + 1) _ R.x1;have c2 := cell_of htb (I * 4 + 2) _ R.x2;have c3 := cell_of htb (I * 4 + 3) _ R.x3;have hI5 : (I : Int) < 7 := by omega
     obtain ⟨xb, hxb0⟩ : ∃ xb, wr.heap.size = xb := ⟨_, rfl⟩;obtain ⟨V, hV⟩ : ∃ V, wr.alloc (.cells #[.int .i64 (o : Nat), .int .i64 (n : Nat), .func (.func φ) #[] #[], .bool bl] 109) = V := ⟨_, rfl⟩;have HIV : DI b f 5 I hb U0 V := by rw [← hV]; exact HI.out.1.nw ((Fr.refl _ _).alloc _)
     have htV : V.heap[nb]? = some (.cells nX 109) := by rw [← hV]; exact Nw.heap ((Fr.refl _ _).alloc _) htb
     have hxb : V.heap[xb]? = some (.cells #[.int .i64 (o : Nat), .int .i64 (n : Nat), .func (.func φ) #[] #[], .bool bl] 109) := by rw [← hV, ← hxb0]; exact newHeap _ _
     have hxh : xb ≠ hb := by have := (Array.getElem?_eq_some_iff.1 HI.out.1.hd).1; omega
     have hfV := cell_kept HIV.fr HFB.out Hfb.out;have f0 := cell_of hfV 0 _ rfl;have f1 := cell_of hfV 1 _ rfl;have f2 := cell_of hfV 2 _ rfl;have v0 := cell_of hxb 0 _ rfl;have v1 := cell_of hxb 1 _ rfl;have v2 := cell_of hxb 2 _ rfl;have v3 := cell_of hxb 3 _ rfl;have hent : ∀ args w, (callFunc φ args).run Tryz.prog w = .ok (.enter φ args) w := R.ent;have hof : decide ((o : Int) < (fE f : Int)) = decide (o < fE f) := by apply decide_eq_decide.2; omega
     have HHS := tHid (has_any (f : Nat) (fE f : Nat) (o : Nat) (n : Nat) G V);have hst := scN_step b f I o n bl R.t;have hsc := HI.out.2.2;by_cases hoE : o < fE f
     ·rw [decide_eq_true hoE] at hof;rw [hof] at HHS;have HX1 : Hid (∀ U, Nw V U → U.cell? ⟨xb, 0, none⟩ = some (.int .i64 (o : Nat)) ∧ U.cell? ⟨xb, 1, none⟩ = some (.int .i64 (n : Nat)) ∧ U.cell? ⟨xb, 2, none⟩ = some (.func (.func φ) #[] #[]) ∧ U.cell? ⟨xb, 3, none⟩ = some (.bool bl)) := fun U hU => by
       have a2 := Nw.heap hU hxb;exact ⟨cell_of a2 0 _ rfl, cell_of a2 1 _ rfl, cell_of a2 2 _ rfl, cell_of a2 3 _ rfl⟩
      have HRD : Hid (∀ w1, Nw V w1 → Calls Tryz.prog 83 #[.agg #[.int .i64 (o : Nat), .int .i64 (n : Nat), .func (.func φ) #[] #[], .bool bl], .pointer (some ⟨rb, 0, none⟩)] w1 fun e w2 => ∃ z : Int, e = .returned (.tuple #[.int .i64 z, .int .i64 (nbE b o n bl : Nat)]) ∧ Hid ((nbE b o n bl = 0 → z = nmN (fd b o n)) ∧ Nw V w2)) := fun w1 k1 => by
       have hr1 : RcH rb b w1 := cell_kept (Fr.then HIV.fr k1 (fun i hi => hi.elim)) HRB.out Hrb.out;refine (nread_any o n rb _ bl b w1 hbl R.n0 R.on hr1).mono ?_;rintro e w2 ⟨z, rfl, K⟩;exact ⟨z, rfl, K.out.1, k1.trans K.out.2⟩
      have HSY := tHid (fun W => R.says hb W);by_cases hE : nbE b o n bl = 0
      ·have hst2 : scN b f nF = scN b f (nF.drop (I + 1)) := by rw [hsc, hst, if_neg (fun q => q.2 hE)]
       have HNXT : Hid (∀ w2, Nw V w2 → (∃ v, w2.cell? ⟨hb, sl, none⟩ = some v) ∧ w2.frozen? ⟨hb, sl, none⟩ = false ∧ Hid (DI b f 5 (I + 1) hb U0 (w2.setCell ⟨hb, sl, none⟩ (.int .i64 (nmN (fd b o n)))) ∧ (w2.setCell ⟨hb, sl, none⟩ (.int .i64 (nmN (fd b o n)))).heap[nb]? = some (.cells nX 109) ∧ scN b f nF = scN b f (nF.drop (I + 1)))) := fun w2 k2 => by
        have HI4 := HIV.nw k2;obtain ⟨v, q1, q2⟩ := HI4.tcell sl (sN_lt R.hsl);exact ⟨⟨v, q1⟩, q2, HI4.nset R.t R.hsl hoE, cell_kept ((Fr.refl _ _).setCell ⟨hb, sl, none⟩ _ (.inl rfl) : Fr (fun k => k = hb) w2 _) (Nw.heap k2 htV) Hnb.out, hst2⟩
       rw [hE] at HRD;have HV := tHid hV;rw [← hxb0] at *;clear htb htV hxb hfV R hV HI HIV hof hxh hst hsc hst2 hE;generalize fE f = E at *;generalize nmN (fd b o n) = N at *;go_upto_region 16 with fail;rw [HV.out];go_upto_region 17 with (first | (go_at_call 44; with_reducible refine HHS.out.mono ?_; rintro e w1 ⟨rfl, K1⟩));obtain ⟨a0, a1, a2, a3⟩ := HX1.out w1 K1;have HRD1 := tHid (HRD.out w1 K1);clear f0 f1 f2 v0 v1 v2 v3 HRD;go_upto_region 18 with (first | (go_at_call 83; with_reducible refine HRD1.out.mono ?_; rintro e w2 ⟨z, rfl, K2⟩));have hz := K2.out.1 (by first | exact rfl | trivial)
       subst hz;obtain ⟨⟨v9, q1⟩, q2, K3⟩ := HNXT.out w2 K2.out.2;obtain ⟨a0', a1', a2', a3'⟩ := HX1.out w2 K2.out.2;have HSY2 := tHid (HSY.out w2);clear a0 a1 a2 a3 HNXT HX1 HRD1 HSY
       go_wp2_with (first | (go_at_fn φ; with_reducible refine HSY2.out.mono ?_; rintro e w3 ⟨rfl, rfl⟩))
       go_roundg (7 - (I + 1))
       case measure => omega
       case rel => exact ⟨I + 1, by omega, by omega, by first | rfl | (congr 1), K3⟩
      ·have hsE : scN b f nF = (o, nbE b o n bl) := by rw [hsc, hst, if_pos ⟨hoE, hE⟩]
       have hdE : decE b = nbE b o n bl := by unfold decE; rw [if_pos HCKT.out, HMG.out, if_neg HFZ.out, hsE]
       have hdP : decP b = o := by unfold decP; rw [if_pos HCKT.out, HMG.out, if_neg HFZ.out, hsE]
       have hdH : decH b = hZ := by unfold decH; rw [if_neg (by rw [hdE]; exact hE)]
       have HQ2 : Hid (∀ w2, Nw V w2 → HcH qb hZ w2.drew ∧ Nw w w2.drew) := fun w2 k2 => ⟨cell_kept (Fr.then HIV.fr k2.drew (fun i hi => hi.elim)) HQB.out Hqb.out, Fr.then (Fr.then HNU.out HIV.fr (fun i hi => .inr (by have := Hhw.out; omega))) k2.drew (fun i hi => hi.elim)⟩
       have HEE := tHid (fun W hW hq => HEN0.out W hZ o (nbE b o n bl) hW hq hdH hdP hdE);have hq0 : ((nbE b o n bl : Int) == 0) = false := by rw [beq_eq_false_iff_ne]; omega
       have HV := tHid hV;rw [← hxb0] at *;clear htb htV hxb hfV R hV HI HIV hof hxh hst hsc hsE hdE hdP hdH HEN0 HEND HF;generalize fE f = E at *;generalize nbE b o n bl = EE at *;go_upto_region 16 with fail;rw [HV.out];go_upto_region 17 with (first | (go_at_call 44; with_reducible refine HHS.out.mono ?_; rintro e w1 ⟨rfl, K1⟩));obtain ⟨a0, a1, a2, a3⟩ := HX1.out w1 K1;have HRD1 := tHid (HRD.out w1 K1);clear f0 f1 f2 v0 v1 v2 v3 HRD;go_upto_region 19 with (first | (go_at_call 83; with_reducible refine HRD1.out.mono ?_; rintro e w2 ⟨z, rfl, K2⟩));obtain ⟨hq2, hn2⟩ := HQ2.out w2 K2.out.2
       have a0' : w2.drew.cell? ⟨wr.heap.size, 0, none⟩ = some (.int .i64 (o : Nat)) := (HX1.out w2 K2.out.2).1;have qc0 : w2.drew.cell? ⟨qb, 0, none⟩ = some (.int .i64 0) := cell_of hq2 0 _ rfl;have qf0 : w2.drew.frozen? ⟨qb, 0, none⟩ = false := frz_of hq2 0;have qs0 : w2.drew.setCell ⟨qb, 0, none⟩ (.int .i64 0) = w2.drew := set_idH hq2 rfl;have qc1 : w2.drew.cell? ⟨qb, 1, none⟩ = some (.string ⟨#[]⟩) := cell_of hq2 1 _ rfl;have qf1 : w2.drew.frozen? ⟨qb, 1, none⟩ = false := frz_of hq2 1;have qs1 : w2.drew.setCell ⟨qb, 1, none⟩ (.string ⟨#[]⟩) = w2.drew := set_idH hq2 rfl
       have qc2 : w2.drew.cell? ⟨qb, 2, none⟩ = some (.string ⟨#[]⟩) := cell_of hq2 2 _ rfl;have qf2 : w2.drew.frozen? ⟨qb, 2, none⟩ = false := frz_of hq2 2;have qs2 : w2.drew.setCell ⟨qb, 2, none⟩ (.string ⟨#[]⟩) = w2.drew := set_idH hq2 rfl;have qc3 : w2.drew.cell? ⟨qb, 3, none⟩ = some (.int .i64 0) := cell_of hq2 3 _ rfl;have qf3 : w2.drew.frozen? ⟨qb, 3, none⟩ = false := frz_of hq2 3;have qs3 : w2.drew.setCell ⟨qb, 3, none⟩ (.int .i64 0) = w2.drew := set_idH hq2 rfl;have qc4 : w2.drew.cell? ⟨qb, 4, none⟩ = some (.int .i64 0) := cell_of hq2 4 _ rfl
       have qf4 : w2.drew.frozen? ⟨qb, 4, none⟩ = false := frz_of hq2 4;have qs4 : w2.drew.setCell ⟨qb, 4, none⟩ (.int .i64 0) = w2.drew := set_idH hq2 rfl;have qc5 : w2.drew.cell? ⟨qb, 5, none⟩ = some (.int .i64 0) := cell_of hq2 5 _ rfl;have qf5 : w2.drew.frozen? ⟨qb, 5, none⟩ = false := frz_of hq2 5;have qs5 : w2.drew.setCell ⟨qb, 5, none⟩ (.int .i64 0) = w2.drew := set_idH hq2 rfl;have qc6 : w2.drew.cell? ⟨qb, 6, none⟩ = some (.int .i64 0) := cell_of hq2 6 _ rfl;have qf6 : w2.drew.frozen? ⟨qb, 6, none⟩ = false := frz_of hq2 6
       have qs6 : w2.drew.setCell ⟨qb, 6, none⟩ (.int .i64 0) = w2.drew := set_idH hq2 rfl;have qc7 : w2.drew.cell? ⟨qb, 7, none⟩ = some (.int .i64 0) := cell_of hq2 7 _ rfl;have qf7 : w2.drew.frozen? ⟨qb, 7, none⟩ = false := frz_of hq2 7;have qs7 : w2.drew.setCell ⟨qb, 7, none⟩ (.int .i64 0) = w2.drew := set_idH hq2 rfl;have qc8 : w2.drew.cell? ⟨qb, 8, none⟩ = some (.int .u8 0) := cell_of hq2 8 _ rfl;have qf8 : w2.drew.frozen? ⟨qb, 8, none⟩ = false := frz_of hq2 8;have qs8 : w2.drew.setCell ⟨qb, 8, none⟩ (.int .u8 0) = w2.drew := set_idH hq2 rfl
       have qc9 : w2.drew.cell? ⟨qb, 9, none⟩ = some (.string ⟨#[]⟩) := cell_of hq2 9 _ rfl;have qf9 : w2.drew.frozen? ⟨qb, 9, none⟩ = false := frz_of hq2 9;have qs9 : w2.drew.setCell ⟨qb, 9, none⟩ (.string ⟨#[]⟩) = w2.drew := set_idH hq2 rfl;have qc10 : w2.drew.cell? ⟨qb, 10, none⟩ = some (.string ⟨#[]⟩) := cell_of hq2 10 _ rfl;have qf10 : w2.drew.frozen? ⟨qb, 10, none⟩ = false := frz_of hq2 10;have qs10 : w2.drew.setCell ⟨qb, 10, none⟩ (.string ⟨#[]⟩) = w2.drew := set_idH hq2 rfl;have qc11 : w2.drew.cell? ⟨qb, 11, none⟩ = some (.string ⟨#[]⟩) := cell_of hq2 11 _ rfl
       have qf11 : w2.drew.frozen? ⟨qb, 11, none⟩ = false := frz_of hq2 11;have qs11 : w2.drew.setCell ⟨qb, 11, none⟩ (.string ⟨#[]⟩) = w2.drew := set_idH hq2 rfl;have qc12 : w2.drew.cell? ⟨qb, 12, none⟩ = some (.int .i64 0) := cell_of hq2 12 _ rfl;have qf12 : w2.drew.frozen? ⟨qb, 12, none⟩ = false := frz_of hq2 12;have qs12 : w2.drew.setCell ⟨qb, 12, none⟩ (.int .i64 0) = w2.drew := set_idH hq2 rfl;have qc13 : w2.drew.cell? ⟨qb, 13, none⟩ = some (.int .i64 0) := cell_of hq2 13 _ rfl;have qf13 : w2.drew.frozen? ⟨qb, 13, none⟩ = false := frz_of hq2 13
       have qs13 : w2.drew.setCell ⟨qb, 13, none⟩ (.int .i64 0) = w2.drew := set_idH hq2 rfl;have HE3 := tHid (HEE.out w2.drew hn2 hq2);clear a0 a1 a2 a3 HX1 HRD1 HQ2 HEE hq2 hn2
       go_region_held3 (fun w' => w'.cell? ⟨wr.heap.size, 0, none⟩ = some (.int .i64 (o : Nat)))
        (first | assumption)
        (fail)
       all_goals
        go_wp2_with fail
        (try simp only [Exit.inBlock, Exit.then])
        exact HE3.out _ rfl rfl rfl
     ·rw [decide_eq_false hoE] at hof;rw [hof] at HHS;have HNX2 : Hid (∀ w1, Nw V w1 → DI b f 5 (I + 1) hb U0 w1 ∧ w1.heap[nb]? = some (.cells nX 109) ∧ scN b f nF = scN b f (nF.drop (I + 1))) := fun w1 k1 => ⟨(HIV.nskip R.t hoE).nw k1, Nw.heap k1 htV, by rw [hsc, hst, if_neg (fun q => hoE q.1)]⟩
      have HV := tHid hV;rw [← hxb0] at *;clear htb htV hxb hfV R hV HI HIV hof hxh hst hsc;generalize fE f = E at *;go_upto_region 16 with fail;rw [HV.out]
      go_wp2_with (first | (go_at_call 44; with_reducible refine HHS.out.mono ?_; rintro e w1 ⟨rfl, K1⟩))
      go_roundg (7 - (I + 1))
      case measure => omega
      case rel => exact ⟨I + 1, by omega, by omega, by first | rfl | (congr 1), HNX2.out _ K1⟩
    ·have hI5 : ¬ (I : Int) < 7 := by omega
     obtain rfl : I = 7 := by omega
     have hsE : scN b f nF = (0, 0) := by rw [HI.out.2.2]; rfl
     have hdE : decE b = 0 := by unfold decE; rw [if_pos HCKT.out, HMG.out, if_neg HFZ.out, hsE]
     have hdP : decP b = 0 := by unfold decP; rw [if_pos HCKT.out, HMG.out, if_neg HFZ.out, hsE]
     have hdH : decH b = dH b f 5 7 := by unfold decH; rw [if_pos hdE, HMG.out]
     have hq7 : HcH qb hZ wr := cell_kept HI.out.1.fr HQB.out Hqb.out;have hn7 : Nw w wr := Fr.then HNU.out HI.out.1.fr (fun i hi => .inr (by have := Hhw.out; omega));obtain ⟨W5, e5, y3, HE⟩ := HEND.out wr (dH b f 5 7) 0 0 hn7 hq7 hdH hdP hdE;have Y3 := tHid y3;have Y1 := tHid HI.out.1.hd;have HS7 := tHid (hcSize (dH b f 5 7));have HO7 := tHid (hc_one (dH b f 5 7));clear HI HEND HEN0 y3 hsE hdE hdP hdH hq7 hn7 HF;generalize hM : dH b f 5 7 = M at *;have HSM : Hid (hZ.C.size = M.C.size) := rfl
     go_wp2_with (first
      | (refine wpList_load_row rfl 62 _ rfl hb (by first | rfl | simp [Act.eval]) 62 _ (0, 0) _ Y1.out Tryz.underlying62 rfl HS7.out ?_)
      | (refine wpList_store_row rfl 62 _ _ rfl qb M.C (by first | rfl | simp [Act.eval]) (by first | rfl | simp [Act.eval]) 62 _ Y3.out HS7.out HSM.out HO7.out ?_; rw [e5]))
     (try simp only [Exit.inBlock, Exit.then])
     exact HE.out _ rfl rfl rfl
end Go.Proofs.YtlenihpbhlfcoaaGreatDoor

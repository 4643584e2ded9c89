import Derived.Test.YtlenihpbhlfcoaaGreatDoorUav
set_option maxHeartbeats 8000000
set_option maxRecDepth 100000
set_option linter.unusedSimpArgs false
set_option linter.unusedVariables false
namespace Go.Proofs.YtlenihpbhlfcoaaGreatDoor
open Go.RowKit
section
attribute [local go_sem ↓] cpyT_fold
theorem record_any (f : Nat) (hb : Nat) (h : Hr) (w : World) (ok : h.Ok) (hF : isF f) (hform : h.form = f) (hh : HcH hb h w) :
  Calls Tryz.prog 30 #[.agg #[.int .i64 f, .int .i64 (fE f : Nat), fP f], .pointer (some ⟨hb, 0, none⟩)] w fun e w' => ∃ R : List By, e = .returned (.tuple #[.agg (rc R), .bool (h.fit f)]) ∧ Hid (R.length = 512 ∧ Nw w w' ∧ (h.fit f = true → R = (eL h f 5 7 [h.typ] (mg f)).flatten)) := by
 refine asP fun P hP => ?_
 have HF : Hid (∀ W R r, Nw w W → R.length = 512 → h.fit f = r → (r = true → R = (eL h f 5 7 [h.typ] (mg f)).flatten) → P (.returned (.tuple #[.agg (rc R), .bool r])) W) := fun W R r hW hl hr hR => by rw [hP, ← hr]; exact ⟨R, rfl, hl, hW, fun q => hR (by rw [← hr]; exact q)⟩
 clear hP;obtain ⟨F, hFP⟩ : ∃ F, fP f = F := ⟨_, rfl⟩;rw [hFP];obtain ⟨fb, hfb⟩ : ∃ fb, w.heap.size = fb := ⟨_, rfl⟩;obtain ⟨qb, hqb⟩ : ∃ qb, w.heap.size + 1 = qb := ⟨_, rfl⟩;obtain ⟨rb, hrb⟩ : ∃ rb, w.heap.size + 1 + 1 = rb := ⟨_, rfl⟩;obtain ⟨W2, hW2⟩ : ∃ W2, ((w.alloc (.cells #[.int .i64 f, .int .i64 (fE f : Nat), F] 72)).alloc (.cells Tryz.zeroCells58 58)).alloc (.cells Tryz.zeroCells58 58) = W2 := ⟨_, rfl⟩;have n1 : Nw w (w.alloc (.cells #[.int .i64 f, .int .i64 (fE f : Nat), F] 72)) := (Fr.refl _ _).alloc _;have hN2 : Nw w W2 := by rw [← hW2]; exact (n1.alloc _).alloc _
 have hF2 : W2.heap[fb]? = some (.cells #[.int .i64 f, .int .i64 (fE f : Nat), F] 72) := by
  rw [← hW2, ← hfb];exact Nw.heap (((Fr.refl _ _).alloc _).alloc _) (newHeap _ _)
 have s1 : (w.alloc (.cells #[.int .i64 f, .int .i64 (fE f : Nat), F] 72)).heap.size = w.heap.size + 1 := by simp
 have s2 : ((w.alloc (.cells #[.int .i64 f, .int .i64 (fE f : Nat), F] 72)).alloc (.cells Tryz.zeroCells58 58)).heap.size = w.heap.size + 1 + 1 := by simp
 have hQ2 : RcH qb zrec W2 := by
  rw [← hW2, ← hqb, ← s1];unfold RcH;rw [← zrec_rc];exact Nw.heap ((Fr.refl _ _).alloc _) (newHeap _ _)
 have hR2 : RcH rb zrec W2 := by
  rw [← hW2, ← hrb, ← s2];unfold RcH;rw [← zrec_rc];exact newHeap _ _
 have hH2 : HcH hb h W2 := Nw.heap hN2 hh;have hhl : hb < w.heap.size := (Array.getElem?_eq_some_iff.1 hh).1;have y8 : W2.cell? ⟨hb, 8, none⟩ = some (.int .u8 h.typ.toNat) := cell_of hH2 8 _ rfl;obtain ⟨r156, f156⟩ := hR2.cell 156 (by rw [zrec_length]; decide);obtain ⟨W3, hW3⟩ : ∃ W3, W2.setCell ⟨rb, 156, none⟩ (.int .u8 h.typ.toNat) = W3 := ⟨_, rfl⟩;have hR3 : RcH rb (zrec.set 156 h.typ) W3 := by rw [← hW3]; exact hR2.set 156 h.typ _ rfl
 have f3 : Fr (fun k => k = rb) W2 W3 := by rw [← hW3]; exact (Fr.refl _ _).setCell _ _ (.inl rfl)
 have hl3 : (zrec.set 156 h.typ).length = 512 := by rw [List.length_set]; exact zrec_length
 have hH3 : HcH hb h W3 := cell_kept f3 hH2 (by omega);have hF3 := cell_kept f3 hF2 (by omega);have hQ3 : RcH qb zrec W3 := hQ2.kept f3 (by omega);have hN3 : Nw w W3 := Fr.then hN2 f3 (fun i hi => .inr (by omega));have z0 : W3.drew.cell? ⟨hb, 0, none⟩ = some (.int .i64 (f : Nat)) := by rw [← hform]; exact cell_of hH3 0 _ rfl
 have hsm : str (mg f) = (if (f : Int) = 1 then str (mg 1) else if (f : Int) = 2 then str (mg 2) else if (f : Int) = 3 then str (mg 3) else eS) := by
  rcases hF with rfl | rfl | rfl <;> rfl
 have HMG : Hid (Calls Tryz.prog 46 #[] W3.drew fun e w1 => e = .returned (.agg #[.int .i64 257, .int .i64 8]) ∧ w1.cell? ⟨hb, 0, none⟩ = some (.int .i64 (f : Nat)) ∧ Hid (Calls Tryz.prog 47 #[.agg #[.int .i64 257, .int .i64 8], .pointer (some ⟨rb, 0, none⟩)] w1 fun e w2 => e = .returned (.slice (some ⟨rb, 257, none⟩) 8 255) ∧ w2.cell? ⟨hb, 0, none⟩ = some (.int .i64 (f : Nat)) ∧ Hid (Calls Tryz.prog 28 #[.int .i64 (f : Nat)] w2 fun e w3 => e = .returned (.string (str (mg f))) ∧ w3.cell? ⟨hb, 0, none⟩ = some (.int .i64 (f : Nat)) ∧ ∃ W4, (∀ ty, (cpyT #[22, 9] ty #[.slice (some ⟨rb, 257, none⟩) 8 255, .string (str (mg f))]).run Tryz.prog w3 = .ok (.int .i64 8) W4) ∧ W4.cell? ⟨hb, 0, none⟩ = some (.int .i64 (f : Nat)) ∧ Hid (RcH rb (pt (zrec.set 156 h.typ) 257 (mg f)) W4 ∧ Fr (fun k => k = rb) W3 W4)))) := by
  refine (magic_any W3.drew).mono ?_;rintro e w1 ⟨rfl, rfl⟩;have k1 : Nw W3 (W3.drew.alloc (.cells #[.int .i64 257, .int .i64 8] 98)) := ((Fr.refl _ _).drew).alloc _;refine ⟨rfl, by rw [← hform]; exact cell_of (Nw.heap k1 hH3) 0 _ rfl, ?_⟩;refine (of_any 257 8 rb (zrec.set 156 h.typ) _ hl3 (by decide) (by decide) (hR3.kept k1 (fun h => h))).mono ?_;rintro e w2 ⟨rfl, k2⟩;have k3 := k1.trans k2;refine ⟨rfl, by rw [← hform]; exact cell_of (Nw.heap k3 hH3) 0 _ rfl, ?_⟩;have t := magicOf_any (f : Nat) w2;rw [← hsm] at t;refine t.mono ?_;rintro e w3 ⟨rfl, rfl⟩
  have hsz : (str (mg f)).size = 8 := by rw [← bys_len, bys_str]; exact mg_length f
  have hr := hR3.kept k3 (fun h => h);have c1 := copy_rec w2 rb 257 8 255 (zrec.set 156 h.typ) (str (mg f)) hr (by omega) (by omega);rw [bys_str, hsz] at c1;have e1 : (zrec.set 156 h.typ).take 257 ++ (mg f ++ (zrec.set 156 h.typ).drop (257 + 8)) = pt (zrec.set 156 h.typ) 257 (mg f) := by
   unfold pt; rw [mg_length]
  rw [e1] at c1;have f4 : Fr (fun k => k = rb) w2 (w2.setRow rb (rc (pt (zrec.set 156 h.typ) 257 (mg f)))) := (Fr.refl _ _).setRow _ _ (.inl rfl);refine ⟨rfl, by rw [← hform]; exact cell_of (Nw.heap k3 hH3) 0 _ rfl, _, c1, by rw [← hform]; exact cell_of (cell_kept f4 (Nw.heap k3 hH3) (by omega)) 0 _ rfl, hr.setRow _, Fr.then (Fr.mono k3 (fun i hi => hi.elim)) f4 (fun i hi => .inl hi)⟩
 have HNXT : Hid (∀ W4, RcH rb (pt (zrec.set 156 h.typ) 257 (mg f)) W4 → Fr (fun k => k = rb) W3 W4 → Calls Tryz.prog 42 #[] W4 fun e w5 => e = .returned (.slice (some ⟨W4.heap.size, 0, none⟩) 5 5) ∧ Hid (RI h f 0 0 rb w5 w5 ∧ w5.heap[W4.heap.size]? = some (.cells tX 101) ∧ W4.heap.size ≠ rb ∧ w5.heap[fb]? = some (.cells #[.int .i64 f, .int .i64 (fE f : Nat), F] 72) ∧ HcH hb h w5 ∧ RcH qb zrec w5 ∧ Nw w w5)) := fun W4 hr hf => by
  refine (texts_any W4).mono ?_;rintro e w5 ⟨rfl, rfl⟩;have k : Nw W4 (W4.alloc (.cells tX 101)) := (Fr.refl _ _).alloc _;refine ⟨rfl, ⟨by rw [eL_start]; exact hr.kept k (fun h => h), Fr.refl _ _, tOkI_zero h f, nOkI_zero h f⟩, newHeap _ _, by have := hr.lt; omega, Nw.heap k (cell_kept hf hF3 (by omega)), Nw.heap k (cell_kept hf hH3 (by omega)), (hQ3.kept hf (by omega)).kept k (fun h => h), Nw.trans (Fr.then hN3 hf (fun i hi => .inr (by omega))) k⟩
 have HNX : Hid (∀ V, Calls Tryz.prog 45 #[] V fun e w1 => e = .returned (.slice (some ⟨V.heap.size, 0, none⟩) 7 7) ∧ Hid (Nw V w1 ∧ w1.heap[V.heap.size]? = some (.cells nX 109))) := fun V => by
  refine (numbers_any V).mono ?_;rintro e w1 ⟨rfl, rfl⟩;exact ⟨rfl, (Fr.refl _ _).alloc _, newHeap _ _⟩
 have HFP := tHid hFP;have HW2 := tHid hW2;have HW3 := tHid hW3;have Hqr : Hid (qb ≠ rb) := by show qb ≠ rb; omega
 have Hfb : Hid (fb ≠ rb) := by show fb ≠ rb; omega
 have Hhb : Hid (hb ≠ rb) := by show hb ≠ rb; omega
 have Hrl : Hid (w.heap.size ≤ rb ∧ w.heap.size ≤ qb) := ⟨by omega, by omega⟩;clear hW2 hW3 hh n1 hN2 hF2 s1 s2 hQ2 hR2 hH2 hhl hR3 f3 hl3 hH3 hF3 hQ3 hN3 hsm hform hFP;have hq2 : fb + 1 = qb := by omega
 have hr2 : qb + 1 = rb := by omega
 clear hqb hrb
 skip
 go_enter Tryz.func30, Tryz.ntmps30
 go_upto_region 2 with fail
 rw [HW2.out];go_upto_region 3 with fail;rw [HW3.out]
 go_region_held3 (fun w' => w'.cell? ⟨hb, 0, none⟩ = some (.int .i64 (f : Nat)))
  (first | assumption)
  (first
   | (go_at_call 46; with_reducible refine HMG.out.mono ?_; rintro e w1 ⟨rfl, k1, K1⟩)
   | (go_at_call 47; with_reducible refine K1.out.mono ?_; rintro e w2 ⟨rfl, k2, K2⟩)
   | (go_at_call 28; with_reducible refine K2.out.mono ?_; rintro e w3 ⟨rfl, k3, W4, c4, k4, K4⟩))
 have HTX := tHid (HNXT.out W4 K4.out.1 K4.out.2);clear HMG HNXT K1 K2 k1 k2 k3 k4 K4 c4 z0 y8 r156 f156;go_upto_region 5 with (first | (go_at_call 42; with_reducible refine HTX.out.mono ?_; rintro e U0 ⟨rfl, K5⟩));generalize W4.heap.size = tb at *;obtain ⟨R0, t0, t1, t2, t3, t4, t5⟩ := K5.out;have HR0 := tHid R0;have HT := tHid t0;have Htb := tHid t1;have HFB := tHid t2;have HHB := tHid t3;have HQ := tHid t4;have HNU := tHid t5
 have HEND : Hid (∀ (W : World) (b : List By) (r : Bool), b.length = 512 → RcH rb b W → Fr (fun k => k = rb) U0 W → h.fit f = r → (r = true → b = (eL h f 5 7 [h.typ] (mg f)).flatten) → ∃ W5, W.setRow qb (rc b) = W5 ∧ W.heap[rb]? = some (.cells (rc b) 58) ∧ (Tryz.prog.info? 58).map (·.size) = some (rc b).size ∧ W.heap[qb]? = some (.cells (rc zrec) 58) ∧ (rc zrec).size = (rc b).size ∧ (rc b).all (·.oneCell') = true ∧ Hid (∀ tmps : Array Value, tmps.getD 4 undef = .pointer (some ⟨qb, 0, none⟩) → tmps.getD 5 undef = .bool r → bodyPost Tryz.prog Tryz.f30 P .ret ⟨tmps, []⟩ W5)) := fun W b r hbl hr hf hfit hR => by
  refine ⟨_, rfl, hr, rc_info b hbl, t4.kept hf Hqr.out, by rw [rc_size, rc_size, zrec_length, hbl], rc_one b, fun tmps h4 h5 => ?_⟩;have hq5 : (W.setRow qb (rc b)).heap[qb]? = some (.cells (rc b) 58) := setRow_heap _ _ _ _ 58 _ (t4.kept hf Hqr.out);refine bodyPost_ret (v := .tuple #[.agg (rc b), .bool r]) ?_ rfl (HF.out _ b r ?_ hbl hfit hR)
  ·rw [results_cell_tmp rfl];show ((asAddr (tmps.getD 4 undef)).run Tryz.prog _).andThen _ = _;rw [h4];simp only [asAddr, Sem.run_pure, Result.andThen_ok, run_loadVar_row _ qb 58 58 (rc b) (0, 0) _ hq5 Tryz.underlying58 rfl (rc_info b hbl), h5]
  ·exact Fr.then (Fr.then t5 hf (fun i hi => .inr (by have := Hrl.out.1; omega))) ((Fr.refl _ _).setRow qb _ (.inl rfl) : Fr (fun k => k = qb) W _) (fun i hi => .inr (by have := Hrl.out.2; omega))
 clear R0 t0 t1 t2 t3 t4 t5 K5 HTX HQ HF;go_loopg [26] 5 (fun kx v wr => ∃ I : Nat, I ≤ 5 ∧ 5 ≤ I + kx ∧ v = .int .i64 (I : Int) ∧ Hid (RI h f I 0 rb U0 wr ∧ wr.heap[tb]? = some (.cells tX 101)))
 case atStart => exact ⟨0, by omega, by omega, rfl, HR0.out, HT.out⟩
 case round =>
  obtain ⟨I, hI, hkx, rfl, HI⟩ := hrel;by_cases hlt : I < 5
  ·obtain ⟨o, n, sl, k, φ, s, R⟩ := trow h I hlt;have htb := HI.out.2;have c0 := cell_of htb (I * 3) _ R.x0;have c1 := cell_of htb (I * 3 + 1) _ R.x1;have c2 := cell_of htb (I * 3 + 2) _ R.x2;have hI5 : (I : Int) < 5 := by omega
   have hxl : rb < wr.heap.size := HI.out.1.rc0.lt;obtain ⟨xb, hxb0⟩ : ∃ xb, wr.heap.size = xb := ⟨_, rfl⟩;obtain ⟨V, hV⟩ : ∃ V, wr.alloc (.cells #[.int .i64 (o : Nat), .int .i64 (n : Nat), .func (.func φ) #[] #[]] 101) = V := ⟨_, rfl⟩;have HIV : RI h f I 0 rb U0 V := by rw [← hV]; exact HI.out.1.nw ((Fr.refl _ _).alloc _)
   have htV : V.heap[tb]? = some (.cells tX 101) := by rw [← hV]; exact Nw.heap ((Fr.refl _ _).alloc _) htb
   have hxb : V.heap[xb]? = some (.cells #[.int .i64 (o : Nat), .int .i64 (n : Nat), .func (.func φ) #[] #[]] 101) := by rw [← hV, ← hxb0]; exact newHeap _ _
   have HS : Hid (∀ U, Fr (fun k => k = rb) V U → U.cell? ⟨fb, 0, none⟩ = some (.int .i64 (f : Nat)) ∧ U.cell? ⟨fb, 1, none⟩ = some (.int .i64 (fE f : Nat)) ∧ U.cell? ⟨fb, 2, none⟩ = some F ∧ U.cell? ⟨xb, 0, none⟩ = some (.int .i64 (o : Nat)) ∧ U.cell? ⟨xb, 1, none⟩ = some (.int .i64 (n : Nat)) ∧ U.cell? ⟨xb, 2, none⟩ = some (.func (.func φ) #[] #[]) ∧ U.cell? ⟨hb, sl, none⟩ = some (.string s)) := fun U hU => by
    have a1 := cell_kept (Fr.then HIV.fr hU (fun i hi => .inl hi)) HFB.out Hfb.out;have a2 := cell_kept hU hxb (by omega);have a3 := cell_kept (Fr.then HIV.fr hU (fun i hi => .inl hi)) HHB.out Hhb.out;exact ⟨cell_of a1 0 _ rfl, cell_of a1 1 _ rfl, cell_of a1 2 _ rfl, cell_of a2 0 _ rfl, cell_of a2 1 _ rfl, cell_of a2 2 _ rfl, cell_of a3 sl _ R.cell⟩
   have kS : V.drew.cell? ⟨fb, 0, none⟩ = some (.int .i64 (f : Nat)) ∧ V.drew.cell? ⟨fb, 1, none⟩ = some (.int .i64 (fE f : Nat)) ∧ V.drew.cell? ⟨fb, 2, none⟩ = some F ∧ V.drew.cell? ⟨xb, 0, none⟩ = some (.int .i64 (o : Nat)) ∧ V.drew.cell? ⟨xb, 1, none⟩ = some (.int .i64 (n : Nat)) ∧ V.drew.cell? ⟨xb, 2, none⟩ = some (.func (.func φ) #[] #[]) ∧ V.drew.cell? ⟨hb, sl, none⟩ = some (.string s) := HS.out V.drew ((Fr.refl _ _).drew);have hent : ∀ args w, (callFunc φ args).run Tryz.prog w = .ok (.enter φ args) w := R.ent
   have hof : decide ((o : Int) < (fE f : Int)) = decide (o < fE f) := by apply decide_eq_decide.2; omega
   by_cases hoE : o < fE f
   ·rw [decide_eq_true hoE] at hof
    have HHS : Hid (Calls Tryz.prog 44 #[.agg #[.int .i64 (f : Nat), .int .i64 (fE f : Nat), F], .agg #[.int .i64 (o : Nat), .int .i64 (n : Nat)]] V.drew fun e w1 => e = .returned (.bool true) ∧ (w1.cell? ⟨fb, 0, none⟩ = some (.int .i64 (f : Nat)) ∧ w1.cell? ⟨fb, 1, none⟩ = some (.int .i64 (fE f : Nat)) ∧ w1.cell? ⟨fb, 2, none⟩ = some F ∧ w1.cell? ⟨xb, 0, none⟩ = some (.int .i64 (o : Nat)) ∧ w1.cell? ⟨xb, 1, none⟩ = some (.int .i64 (n : Nat)) ∧ w1.cell? ⟨xb, 2, none⟩ = some (.func (.func φ) #[] #[]) ∧ w1.cell? ⟨hb, sl, none⟩ = some (.string s)) ∧ Hid (Calls Tryz.prog φ #[.pointer (some ⟨hb, 0, none⟩)] w1 fun e w2 => e = .returned (.pointer (some ⟨hb, sl, none⟩)) ∧ (w2.cell? ⟨fb, 0, none⟩ = some (.int .i64 (f : Nat)) ∧ w2.cell? ⟨fb, 1, none⟩ = some (.int .i64 (fE f : Nat)) ∧ w2.cell? ⟨fb, 2, none⟩ = some F ∧ w2.cell? ⟨xb, 0, none⟩ = some (.int .i64 (o : Nat)) ∧ w2.cell? ⟨xb, 1, none⟩ = some (.int .i64 (n : Nat)) ∧ w2.cell? ⟨xb, 2, none⟩ = some (.func (.func φ) #[] #[]) ∧ w2.cell? ⟨hb, sl, none⟩ = some (.string s)) ∧ Hid (Calls Tryz.prog 48 #[.agg #[.int .i64 (o : Nat), .int .i64 (n : Nat), .func (.func φ) #[] #[]], .pointer (some ⟨rb, 0, none⟩), .string s] w2 fun e w3 => e = .returned (.bool (decide (pxE s n = 0))) ∧ (w3.cell? ⟨fb, 0, none⟩ = some (.int .i64 (f : Nat)) ∧ w3.cell? ⟨fb, 1, none⟩ = some (.int .i64 (fE f : Nat)) ∧ w3.cell? ⟨fb, 2, none⟩ = some F ∧ w3.cell? ⟨xb, 0, none⟩ = some (.int .i64 (o : Nat)) ∧ w3.cell? ⟨xb, 1, none⟩ = some (.int .i64 (n : Nat)) ∧ w3.cell? ⟨xb, 2, none⟩ = some (.func (.func φ) #[] #[]) ∧ w3.cell? ⟨hb, sl, none⟩ = some (.string s)) ∧ Hid (((decide (pxE s n = 0)) = true → RI h f (I + 1) 0 rb U0 w3 ∧ w3.heap[tb]? = some (.cells tX 101)) ∧ ((decide (pxE s n = 0)) = false → h.fit f = false) ∧ ∃ b3, b3.length = 512 ∧ RcH rb b3 w3 ∧ Fr (fun k => k = rb) U0 w3)))) := by
     have t0 := has_any (f : Nat) (fE f : Nat) (o : Nat) (n : Nat) F V.drew;rw [hof] at t0;refine t0.mono ?_;rintro e w1 ⟨rfl, k1'⟩;have k1 : Nw V w1 := ((Fr.refl _ _).drew).trans k1';refine ⟨rfl, HS.out w1 (Fr.mono k1 (fun i hi => hi.elim)), ?_⟩;refine (R.says hb w1).mono ?_;rintro e w2 ⟨rfl, rfl⟩;have k2' : Nw w2 w2 := Fr.refl _ _;refine ⟨rfl, HS.out w2 (Fr.mono k1 (fun i hi => hi.elim)), ?_⟩;refine (tput_any o n rb _ s _ w2 (HIV.len ok) R.n0 R.on (HIV.rc0.kept (k1.trans k2') (fun h => h)) (ts_size h ok I o n s R.ts)).mono ?_;rintro e w3 ⟨rfl, K3⟩;obtain ⟨b3, c1, c2, c3, c4⟩ := K3.out
     have f3 : Fr (fun k => k = rb) V w3 := Fr.then (Fr.mono k1 (fun i hi => hi.elim)) c4 (fun i hi => .inl hi);refine ⟨rfl, HS.out w3 f3, ⟨fun hk => ⟨(HIV.nw (k1.trans k2')).tput ok R hoE (of_decide_eq_true hk) (by have := c3; rw [c2 hk] at this; exact this) c4, cell_kept f3 htV Htb.out⟩, fun hk => fit_not_t h f I _ R.ts (by unfold tFit; rw [decide_eq_false (show ¬ fE f ≤ o by omega), Bool.false_or]; exact hk), b3, c1, c3, Fr.then HIV.fr f3 (fun i hi => .inl hi)⟩⟩
    have HV := tHid hV;rw [← hxb0] at *;clear htb htV hxb R hV HI HIV hof;by_cases hok : (decide (pxE s n = 0)) = true
    ·rw [hok] at HHS;clear hok;go_upto_region 7 with fail;rw [HV.out]
     go_region_held3 (fun w' => w'.cell? ⟨fb, 0, none⟩ = some (.int .i64 (f : Nat)) ∧ w'.cell? ⟨fb, 1, none⟩ = some (.int .i64 (fE f : Nat)) ∧ w'.cell? ⟨fb, 2, none⟩ = some F ∧ w'.cell? ⟨wr.heap.size, 0, none⟩ = some (.int .i64 (o : Nat)) ∧ w'.cell? ⟨wr.heap.size, 1, none⟩ = some (.int .i64 (n : Nat)) ∧ w'.cell? ⟨wr.heap.size, 2, none⟩ = some (.func (.func φ) #[] #[]) ∧ w'.cell? ⟨hb, sl, none⟩ = some (.string s))
      (first | assumption)
      (first
       | (go_at_call 44; with_reducible refine HHS.out.mono ?_; rintro e w1 ⟨rfl, k1, K1⟩)
       | (go_at_fn φ; with_reducible refine K1.out.mono ?_; rintro e w2 ⟨rfl, k2, K2⟩)
       | (go_at_call 48; with_reducible refine K2.out.mono ?_; rintro e w3 ⟨rfl, k3, K3⟩))
     have HNX := tHid (K3.out.1 (by first | exact rfl | trivial));clear K1 K2 K3 k1 k2 k3 HHS HS kS
     go_wp2_with fail
     go_roundg (5 - (I + 1))
     case measure => omega
     case rel => exact ⟨I + 1, by omega, by omega, by first | rfl | (congr 1), HNX⟩
    ·have hok' : (decide (pxE s n = 0)) = false := Bool.eq_false_iff.2 hok;rw [hok'] at HHS;clear hok hok';go_upto_region 7 with fail;rw [HV.out]
     go_region_held3 (fun w' => w'.cell? ⟨fb, 0, none⟩ = some (.int .i64 (f : Nat)) ∧ w'.cell? ⟨fb, 1, none⟩ = some (.int .i64 (fE f : Nat)) ∧ w'.cell? ⟨fb, 2, none⟩ = some F ∧ w'.cell? ⟨wr.heap.size, 0, none⟩ = some (.int .i64 (o : Nat)) ∧ w'.cell? ⟨wr.heap.size, 1, none⟩ = some (.int .i64 (n : Nat)) ∧ w'.cell? ⟨wr.heap.size, 2, none⟩ = some (.func (.func φ) #[] #[]) ∧ w'.cell? ⟨hb, sl, none⟩ = some (.string s))
      (first | assumption)
      (first
       | (go_at_call 44; with_reducible refine HHS.out.mono ?_; rintro e w1 ⟨rfl, k1, K1⟩)
       | (go_at_fn φ; with_reducible refine K1.out.mono ?_; rintro e w2 ⟨rfl, k2, K2⟩)
       | (go_at_call 48; with_reducible refine K2.out.mono ?_; rintro e w3 ⟨rfl, k3, K3⟩))
     obtain ⟨_, hbad, b3, hb3, hr3, hf3⟩ := K3.out;obtain ⟨W5, e5, y1, y2, y3, y4, y5, HE⟩ := HEND.out w3 b3 false hb3 hr3 hf3 (hbad (by first | exact rfl | trivial)) (fun q => by cases q);have Y1 := tHid y1;have Y2 := tHid y2;have Y3 := tHid y3;have Y4 := tHid y4;have Y5 := tHid y5;clear K1 K2 K3 k1 k2 k3 HHS HS kS hbad hr3 hf3 y1 y2 y3 y4 y5
     go_wp2_with (first
      | (refine wpList_load_row rfl 58 _ rfl rb (by first | rfl | simp [Act.eval]) 58 _ (0, 0) _ Y1.out Tryz.underlying58 rfl Y2.out ?_)
      | (refine wpList_store_row rfl 58 _ _ rfl qb (rc b3) (by first | rfl | simp [Act.eval]) (by first | rfl | simp [Act.eval]) 58 _ Y3.out Y2.out Y4.out Y5.out ?_; rw [e5]))
     (try simp only [Exit.inBlock, Exit.then])
     exact HE.out _ rfl rfl
   ·rw [decide_eq_false hoE] at hof
    have HHS : Hid (Calls Tryz.prog 44 #[.agg #[.int .i64 (f : Nat), .int .i64 (fE f : Nat), F], .agg #[.int .i64 (o : Nat), .int .i64 (n : Nat)]] V.drew fun e w1 => e = .returned (.bool false) ∧ (w1.cell? ⟨fb, 0, none⟩ = some (.int .i64 (f : Nat)) ∧ w1.cell? ⟨fb, 1, none⟩ = some (.int .i64 (fE f : Nat)) ∧ w1.cell? ⟨fb, 2, none⟩ = some F ∧ w1.cell? ⟨xb, 0, none⟩ = some (.int .i64 (o : Nat)) ∧ w1.cell? ⟨xb, 1, none⟩ = some (.int .i64 (n : Nat)) ∧ w1.cell? ⟨xb, 2, none⟩ = some (.func (.func φ) #[] #[]) ∧ w1.cell? ⟨hb, sl, none⟩ = some (.string s)) ∧ Hid (RI h f (I + 1) 0 rb U0 w1 ∧ w1.heap[tb]? = some (.cells tX 101))) := by
     have t0 := has_any (f : Nat) (fE f : Nat) (o : Nat) (n : Nat) F V.drew;rw [hof] at t0;refine t0.mono ?_;rintro e w1 ⟨rfl, k1'⟩;have k1 : Nw V w1 := ((Fr.refl _ _).drew).trans k1';exact ⟨rfl, HS.out w1 (Fr.mono k1 (fun i hi => hi.elim)), (HIV.tskip R.ts hoE).nw k1, Nw.heap k1 htV⟩
    have HV := tHid hV;rw [← hxb0] at *;clear htb htV hxb R hV HI HIV hof;go_upto_region 7 with fail;rw [HV.out];refine wp_region_held_drew (S := (fun w' => w'.cell? ⟨fb, 0, none⟩ = some (.int .i64 (f : Nat)) ∧ w'.cell? ⟨fb, 1, none⟩ = some (.int .i64 (fE f : Nat)) ∧ w'.cell? ⟨fb, 2, none⟩ = some F ∧ w'.cell? ⟨wr.heap.size, 0, none⟩ = some (.int .i64 (o : Nat)) ∧ w'.cell? ⟨wr.heap.size, 1, none⟩ = some (.int .i64 (n : Nat)) ∧ w'.cell? ⟨wr.heap.size, 2, none⟩ = some (.func (.func φ) #[] #[]) ∧ w'.cell? ⟨hb, sl, none⟩ = some (.string s))) (by kernel_rfl) kS (fun hHeld => ?_)
    refine tkH (i := 0) (oi := ⟨some 30, .load 72 (.tmp 2), 72, "header.go:67", #[], none⟩) (v := ?_) rfl ?_ ?_;rotate_left
    ·intro U hSw; (try dsimp only at hSw); (go_simp <;> with_reducible rfl)
    try simp only [Act.put, nz1, nz2, nz3]
    refine tkH (i := 1) (oi := ⟨some 31, .fieldAddr 101 (.tmp 8) 0, 0, "header.go:67", #[], none⟩) (v := ?_) rfl ?_ ?_;rotate_left
    ·intro U hSw; (try dsimp only at hSw); (go_simp <;> with_reducible rfl)
    try simp only [Act.put, nz1, nz2, nz3]
    refine tkH (i := 2) (oi := ⟨some 32, .load 98 (.tmp 31), 98, "header.go:67", #[⟨1, .data⟩], none⟩) (v := ?_) rfl ?_ ?_;rotate_left
    ·intro U hSw; (try dsimp only at hSw); (go_simp <;> with_reducible rfl)
    try simp only [Act.put, nz1, nz2, nz3]
    refine wpAnyH_ready (rs := [3]) (by kernel_rfl) (by simp) ?_;refine AllReadyH.cons (o := ⟨some 33, .call ⟨.value (.func 44), #[.tmp 30, .tmp 32], #[72, 98]⟩, 4, "header.go:67", #[⟨0, .data⟩, ⟨2, .data⟩], none⟩) rfl (fun K hK => ?_) AllReadyH.nil;go_simp;go_at_call 44; with_reducible refine HHS.out.mono ?_; rintro e w1 ⟨rfl, k1, K1⟩
    (try go_wp2_with fail)
    refine hK.out _ _ ?_ (fun hHeld2 => ?_)
    ·exact k1
    clear hK K hHeld;try simp only [Act.put, nz1, nz2, nz3]
    refine tkH (i := 4) (oi := ⟨some 34, .move (.tmp 33), 4, "header.go:67", #[⟨3, .data⟩, ⟨3, .chain⟩], none⟩) (v := ?_) rfl ?_ ?_;rotate_left
    ·intro U hSw; (try dsimp only at hSw); (go_simp <;> with_reducible rfl)
    try simp only [Act.put, nz1, nz2, nz3]
    refine wpAnyH_take (i := 5) (oi := ⟨some 35, .load 101 (.tmp 8), 101, "header.go:67", #[⟨4, .guard⟩], some (4, true)⟩) (v := undef) rfl (by kernel_rfl) (by kernel_rfl) (by kernel_rfl) (fun _ _ _ h => h) (Or.inr ⟨by rfl, rfl⟩) (by assumption) ?_;try simp only [Act.put, nz1, nz2, nz3]
    refine wpAnyH_take (i := 6) (oi := ⟨some 36, .fieldAddr 101 (.tmp 8) 1, 0, "header.go:67", #[⟨4, .guard⟩], some (4, true)⟩) (v := undef) rfl (by kernel_rfl) (by kernel_rfl) (by kernel_rfl) (fun _ _ _ h => h) (Or.inr ⟨by rfl, rfl⟩) (by assumption) ?_;try simp only [Act.put, nz1, nz2, nz3]
    refine wpAnyH_take (i := 7) (oi := ⟨some 37, .load 99 (.tmp 36), 99, "header.go:67", #[⟨6, .data⟩, ⟨4, .guard⟩], some (4, true)⟩) (v := undef) rfl (by kernel_rfl) (by kernel_rfl) (by kernel_rfl) (fun _ _ _ h => h) (Or.inr ⟨by rfl, rfl⟩) (by assumption) ?_;try simp only [Act.put, nz1, nz2, nz3]
    refine wpAnyH_take (i := 8) (oi := ⟨some 38, .move (.tmp 1), 78, "header.go:67", #[⟨4, .guard⟩], some (4, true)⟩) (v := undef) rfl (by kernel_rfl) (by kernel_rfl) (by kernel_rfl) (fun _ _ _ h => h) (Or.inr ⟨by rfl, rfl⟩) (by assumption) ?_;try simp only [Act.put, nz1, nz2, nz3]
    refine wpAnyH_ready (rs := [9]) (by kernel_rfl) (by simp) ?_;refine AllReadyH.cons (o := ⟨some 39, .call ⟨.value (.tmp 37), #[.tmp 38], #[78]⟩, 102, "header.go:67", #[⟨7, .data⟩, ⟨8, .data⟩, ⟨4, .chain⟩, ⟨4, .guard⟩], some (4, true)⟩) rfl (fun K hK => ?_) AllReadyH.nil;rw [if_neg (by intro hw; exact Bool.false_ne_true hw)];refine hK.out _ _ ?_ (fun hHeld19 => ?_)
    ·exact k1
    clear hK K;try simp only [Act.put, nz1, nz2, nz3]
    refine wpAnyH_take (i := 10) (oi := ⟨some 40, .nilCheck (.tmp 39), 0, "header.go:67", #[⟨9, .data⟩, ⟨4, .guard⟩], some (4, true)⟩) (v := undef) rfl (by kernel_rfl) (by kernel_rfl) (by kernel_rfl) (fun _ _ _ h => h) (Or.inr ⟨by rfl, rfl⟩) (by assumption) ?_;try simp only [Act.put, nz1, nz2, nz3]
    refine wpAnyH_take (i := 11) (oi := ⟨some 41, .load 9 (.tmp 40), 9, "header.go:67", #[⟨10, .data⟩, ⟨4, .guard⟩], some (4, true)⟩) (v := undef) rfl (by kernel_rfl) (by kernel_rfl) (by kernel_rfl) (fun _ _ _ h => h) (Or.inr ⟨by rfl, rfl⟩) (by assumption) ?_;try simp only [Act.put, nz1, nz2, nz3]
    refine wpAnyH_ready (rs := [12]) (by kernel_rfl) (by simp) ?_;refine AllReadyH.cons (o := ⟨some 42, .call ⟨.value (.func 48), #[.tmp 35, .tmp 6, .tmp 41], #[101, 113, 9]⟩, 4, "header.go:67", #[⟨5, .data⟩, ⟨11, .data⟩, ⟨9, .chain⟩, ⟨4, .guard⟩], some (4, true)⟩) rfl (fun K hK => ?_) AllReadyH.nil;rw [if_neg (by intro hw; exact Bool.false_ne_true hw)];refine hK.out _ _ ?_ (fun hHeld22 => ?_)
    ·exact k1
    clear hK K;try simp only [Act.put, nz1, nz2, nz3]
    refine wpAnyH_take (i := 13) (oi := ⟨some 43, .unOp UnOp.not 4 (.tmp 42), 4, "header.go:67", #[⟨12, .data⟩, ⟨4, .guard⟩], some (4, true)⟩) (v := undef) rfl (by kernel_rfl) (by kernel_rfl) (by kernel_rfl) (fun _ _ _ h => h) (Or.inr ⟨by rfl, rfl⟩) (by assumption) ?_;try simp only [Act.put, nz1, nz2, nz3]
    refine tkH (i := 14) (oi := ⟨some 44, .pick (.tmp 34) (.tmp 43) (.const (Value.bool false)), 4, "header.go:67", #[⟨4, .data⟩, ⟨13, .data⟩], none⟩) (v := ?_) rfl ?_ ?_;rotate_left
    ·intro U hSw; (try dsimp only at hSw); (go_simp <;> with_reducible rfl)
    try simp only [Act.put, nz1, nz2, nz3]
    refine wpAnyH_done (by kernel_rfl) ?_ _;clear k1 HHS HS kS
    go_wp2_with fail
    go_roundg (5 - (I + 1))
    case measure => omega
    case rel => exact ⟨I + 1, by omega, by omega, by first | rfl | (congr 1), K1⟩
  ·have hI5 : ¬ (I : Int) < 5 := by omega
   obtain rfl : I = 5 := by omega
   go_upto_region 11 with (first | (go_at_call 45; with_reducible refine (HNX.out _).mono ?_; rintro e w7 ⟨rfl, K7⟩))
   have Hnb : Hid (wr.heap.size ≠ rb) := by have := HI.out.1.rc0.lt; show wr.heap.size ≠ rb; omega
   generalize wr.heap.size = nb at *;have HR5 : Hid (RI h f 5 0 rb U0 w7) := HI.out.1.nw K7.out.1;have HX := tHid K7.out.2;clear HI HT Htb HR0 K7 HNX;go_loopg [49] 7 (fun kx v wr => ∃ I : Nat, I ≤ 7 ∧ 7 ≤ I + kx ∧ v = .int .i64 (I : Int) ∧ Hid (RI h f 5 I rb U0 wr ∧ wr.heap[nb]? = some (.cells nX 109)))
   case atStart => exact ⟨0, by omega, by omega, rfl, HR5.out, HX.out⟩
   case round =>
    obtain ⟨I, hI, hkx, rfl, HI⟩ := hrel;by_cases hlt : I < 7
    ·obtain ⟨o, n, sl, k, φ, x, bl, R⟩ := nrow h I hlt;have htb := HI.out.2;have c0 := cell_of htb (I * 4) _ R.x0;have c1 := cell_of htb (I * 4 + 1) _ R.x1;have c2 := cell_of htb (I * 4 + 2) _ R.x2;have c3 := cell_of htb (I * 4 + 3) _ R.x3;have hI5 : (I : Int) < 7 := by omega
     have hxl : rb < wr.heap.size := HI.out.1.rc0.lt;obtain ⟨xb, hxb0⟩ : ∃ xb, wr.heap.size = xb := ⟨_, rfl⟩;obtain ⟨V, hV⟩ : ∃ V, wr.alloc (.cells #[.int .i64 (o : Nat), .int .i64 (n : Nat), .func (.func φ) #[] #[], .bool bl] 109) = V := ⟨_, rfl⟩;have HIV : RI h f 5 I rb U0 V := by rw [← hV]; exact HI.out.1.nw ((Fr.refl _ _).alloc _)
     have htV : V.heap[nb]? = some (.cells nX 109) := by rw [← hV]; exact Nw.heap ((Fr.refl _ _).alloc _) htb
     have hxb : V.heap[xb]? = some (.cells #[.int .i64 (o : Nat), .int .i64 (n : Nat), .func (.func φ) #[] #[], .bool bl] 109) := by rw [← hV, ← hxb0]; exact newHeap _ _
     have HS : Hid (∀ U, Fr (fun k => k = rb) V U → U.cell? ⟨fb, 0, none⟩ = some (.int .i64 (f : Nat)) ∧ U.cell? ⟨fb, 1, none⟩ = some (.int .i64 (fE f : Nat)) ∧ U.cell? ⟨fb, 2, none⟩ = some F ∧ U.cell? ⟨xb, 0, none⟩ = some (.int .i64 (o : Nat)) ∧ U.cell? ⟨xb, 1, none⟩ = some (.int .i64 (n : Nat)) ∧ U.cell? ⟨xb, 2, none⟩ = some (.func (.func φ) #[] #[]) ∧ U.cell? ⟨xb, 3, none⟩ = some (.bool bl) ∧ U.cell? ⟨hb, sl, none⟩ = some (.int .i64 x)) := fun U hU => by
      have a1 := cell_kept (Fr.then HIV.fr hU (fun i hi => .inl hi)) HFB.out Hfb.out;have a2 := cell_kept hU hxb (by omega);have a3 := cell_kept (Fr.then HIV.fr hU (fun i hi => .inl hi)) HHB.out Hhb.out;exact ⟨cell_of a1 0 _ rfl, cell_of a1 1 _ rfl, cell_of a1 2 _ rfl, cell_of a2 0 _ rfl, cell_of a2 1 _ rfl, cell_of a2 2 _ rfl, cell_of a2 3 _ rfl, cell_of a3 sl _ R.cell⟩
     have kS : V.drew.cell? ⟨fb, 0, none⟩ = some (.int .i64 (f : Nat)) ∧ V.drew.cell? ⟨fb, 1, none⟩ = some (.int .i64 (fE f : Nat)) ∧ V.drew.cell? ⟨fb, 2, none⟩ = some F ∧ V.drew.cell? ⟨xb, 0, none⟩ = some (.int .i64 (o : Nat)) ∧ V.drew.cell? ⟨xb, 1, none⟩ = some (.int .i64 (n : Nat)) ∧ V.drew.cell? ⟨xb, 2, none⟩ = some (.func (.func φ) #[] #[]) ∧ V.drew.cell? ⟨xb, 3, none⟩ = some (.bool bl) ∧ V.drew.cell? ⟨hb, sl, none⟩ = some (.int .i64 x) := HS.out V.drew ((Fr.refl _ _).drew);have hent : ∀ args w, (callFunc φ args).run Tryz.prog w = .ok (.enter φ args) w := R.ent
     have hof : decide ((o : Int) < (fE f : Int)) = decide (o < fE f) := by apply decide_eq_decide.2; omega
     by_cases hoE : o < fE f
     ·rw [decide_eq_true hoE] at hof
      have HHS : Hid (Calls Tryz.prog 44 #[.agg #[.int .i64 (f : Nat), .int .i64 (fE f : Nat), F], .agg #[.int .i64 (o : Nat), .int .i64 (n : Nat)]] V.drew fun e w1 => e = .returned (.bool true) ∧ (w1.cell? ⟨fb, 0, none⟩ = some (.int .i64 (f : Nat)) ∧ w1.cell? ⟨fb, 1, none⟩ = some (.int .i64 (fE f : Nat)) ∧ w1.cell? ⟨fb, 2, none⟩ = some F ∧ w1.cell? ⟨xb, 0, none⟩ = some (.int .i64 (o : Nat)) ∧ w1.cell? ⟨xb, 1, none⟩ = some (.int .i64 (n : Nat)) ∧ w1.cell? ⟨xb, 2, none⟩ = some (.func (.func φ) #[] #[]) ∧ w1.cell? ⟨xb, 3, none⟩ = some (.bool bl) ∧ w1.cell? ⟨hb, sl, none⟩ = some (.int .i64 x)) ∧ Hid (Calls Tryz.prog φ #[.pointer (some ⟨hb, 0, none⟩)] w1 fun e w2 => e = .returned (.pointer (some ⟨hb, sl, none⟩)) ∧ (w2.cell? ⟨fb, 0, none⟩ = some (.int .i64 (f : Nat)) ∧ w2.cell? ⟨fb, 1, none⟩ = some (.int .i64 (fE f : Nat)) ∧ w2.cell? ⟨fb, 2, none⟩ = some F ∧ w2.cell? ⟨xb, 0, none⟩ = some (.int .i64 (o : Nat)) ∧ w2.cell? ⟨xb, 1, none⟩ = some (.int .i64 (n : Nat)) ∧ w2.cell? ⟨xb, 2, none⟩ = some (.func (.func φ) #[] #[]) ∧ w2.cell? ⟨xb, 3, none⟩ = some (.bool bl) ∧ w2.cell? ⟨hb, sl, none⟩ = some (.int .i64 x)) ∧ Hid (Calls Tryz.prog 49 #[.agg #[.int .i64 (o : Nat), .int .i64 (n : Nat), .func (.func φ) #[] #[], .bool bl], .pointer (some ⟨rb, 0, none⟩), .int .i64 x, F] w2 fun e w3 => e = .returned (.bool ((decide (nE f x n = 0) && (decide (0 ≤ x) || bl)))) ∧ (w3.cell? ⟨fb, 0, none⟩ = some (.int .i64 (f : Nat)) ∧ w3.cell? ⟨fb, 1, none⟩ = some (.int .i64 (fE f : Nat)) ∧ w3.cell? ⟨fb, 2, none⟩ = some F ∧ w3.cell? ⟨xb, 0, none⟩ = some (.int .i64 (o : Nat)) ∧ w3.cell? ⟨xb, 1, none⟩ = some (.int .i64 (n : Nat)) ∧ w3.cell? ⟨xb, 2, none⟩ = some (.func (.func φ) #[] #[]) ∧ w3.cell? ⟨xb, 3, none⟩ = some (.bool bl) ∧ w3.cell? ⟨hb, sl, none⟩ = some (.int .i64 x)) ∧ Hid ((((decide (nE f x n = 0) && (decide (0 ≤ x) || bl))) = true → RI h f 5 (I + 1) rb U0 w3 ∧ w3.heap[nb]? = some (.cells nX 109)) ∧ (((decide (nE f x n = 0) && (decide (0 ≤ x) || bl))) = false → h.fit f = false) ∧ ∃ b3, b3.length = 512 ∧ RcH rb b3 w3 ∧ Fr (fun k => k = rb) U0 w3)))) := by
       have t0 := has_any (f : Nat) (fE f : Nat) (o : Nat) (n : Nat) F V.drew;rw [hof] at t0;refine t0.mono ?_;rintro e w1 ⟨rfl, k1'⟩;have k1 : Nw V w1 := ((Fr.refl _ _).drew).trans k1';refine ⟨rfl, HS.out w1 (Fr.mono k1 (fun i hi => hi.elim)), ?_⟩;refine (R.says hb w1).mono ?_;rintro e w2 ⟨rfl, rfl⟩;have k2' : Nw w2 w2 := Fr.refl _ _;refine ⟨rfl, HS.out w2 (Fr.mono k1 (fun i hi => hi.elim)), ?_⟩;have t1 := nput_any f o n rb (.func (.func φ) #[] #[]) bl x _ w2 (HIV.len ok) R.n0 R.on (HIV.rc0.kept (k1.trans k2') (fun h => h)) (ns_i64 h ok I o n x bl R.ns);rw [HFP.out] at t1;refine t1.mono ?_
       rintro e w3 ⟨rfl, K3⟩;obtain ⟨b3, c1, c2, c3, c4⟩ := K3.out;have f3 : Fr (fun k => k = rb) V w3 := Fr.then (Fr.mono k1 (fun i hi => hi.elim)) c4 (fun i hi => .inl hi)
       refine ⟨rfl, HS.out w3 f3, ⟨fun hk => ⟨(HIV.nw (k1.trans k2')).nput ok R hoE (of_decide_eq_true (Bool.and_eq_true_iff.1 hk).1) (by have := (Bool.and_eq_true_iff.1 hk).2; simpa only [Bool.or_eq_true, decide_eq_true_eq] using this) (by have := c3; rw [c2 hk] at this; exact this) c4, cell_kept f3 htV Hnb.out⟩, fun hk => fit_not_n h f I _ R.ns (by unfold nFit; rw [decide_eq_false (show ¬ fE f ≤ o by omega), Bool.false_or]; exact hk), b3, c1, c3, Fr.then HIV.fr f3 (fun i hi => .inl hi)⟩⟩
      have HV := tHid hV;rw [← hxb0] at *;clear htb htV hxb R hV HI HIV hof;by_cases hok : ((decide (nE f x n = 0) && (decide (0 ≤ x) || bl))) = true
      ·rw [hok] at HHS;clear hok;go_upto_region 13 with fail;rw [HV.out]
       go_region_held3 (fun w' => w'.cell? ⟨fb, 0, none⟩ = some (.int .i64 (f : Nat)) ∧ w'.cell? ⟨fb, 1, none⟩ = some (.int .i64 (fE f : Nat)) ∧ w'.cell? ⟨fb, 2, none⟩ = some F ∧ w'.cell? ⟨wr.heap.size, 0, none⟩ = some (.int .i64 (o : Nat)) ∧ w'.cell? ⟨wr.heap.size, 1, none⟩ = some (.int .i64 (n : Nat)) ∧ w'.cell? ⟨wr.heap.size, 2, none⟩ = some (.func (.func φ) #[] #[]) ∧ w'.cell? ⟨wr.heap.size, 3, none⟩ = some (.bool bl) ∧ w'.cell? ⟨hb, sl, none⟩ = some (.int .i64 x))
        (first | assumption)
        (first
         | (go_at_call 44; with_reducible refine HHS.out.mono ?_; rintro e w1 ⟨rfl, k1, K1⟩)
         | (go_at_fn φ; with_reducible refine K1.out.mono ?_; rintro e w2 ⟨rfl, k2, K2⟩)
         | (go_at_call 49; with_reducible refine K2.out.mono ?_; rintro e w3 ⟨rfl, k3, K3⟩))
       have HNX := tHid (K3.out.1 (by first | exact rfl | trivial));clear K1 K2 K3 k1 k2 k3 HHS HS kS
       go_wp2_with fail
       go_roundg (7 - (I + 1))
       case measure => omega
       case rel => exact ⟨I + 1, by omega, by omega, by first | rfl | (congr 1), HNX⟩
      ·have hok' : ((decide (nE f x n = 0) && (decide (0 ≤ x) || bl))) = false := Bool.eq_false_iff.2 hok;rw [hok'] at HHS;clear hok hok';go_upto_region 13 with fail;rw [HV.out]
       go_region_held3 (fun w' => w'.cell? ⟨fb, 0, none⟩ = some (.int .i64 (f : Nat)) ∧ w'.cell? ⟨fb, 1, none⟩ = some (.int .i64 (fE f : Nat)) ∧ w'.cell? ⟨fb, 2, none⟩ = some F ∧ w'.cell? ⟨wr.heap.size, 0, none⟩ = some (.int .i64 (o : Nat)) ∧ w'.cell? ⟨wr.heap.size, 1, none⟩ = some (.int .i64 (n : Nat)) ∧ w'.cell? ⟨wr.heap.size, 2, none⟩ = some (.func (.func φ) #[] #[]) ∧ w'.cell? ⟨wr.heap.size, 3, none⟩ = some (.bool bl) ∧ w'.cell? ⟨hb, sl, none⟩ = some (.int .i64 x))
        (first | assumption)
        (first
         | (go_at_call 44; with_reducible refine HHS.out.mono ?_; rintro e w1 ⟨rfl, k1, K1⟩)
         | (go_at_fn φ; with_reducible refine K1.out.mono ?_; rintro e w2 ⟨rfl, k2, K2⟩)
         | (go_at_call 49; with_reducible refine K2.out.mono ?_; rintro e w3 ⟨rfl, k3, K3⟩))
       obtain ⟨_, hbad, b3, hb3, hr3, hf3⟩ := K3.out;obtain ⟨W5, e5, y1, y2, y3, y4, y5, HE⟩ := HEND.out w3 b3 false hb3 hr3 hf3 (hbad (by first | exact rfl | trivial)) (fun q => by cases q);have Y1 := tHid y1;have Y2 := tHid y2;have Y3 := tHid y3;have Y4 := tHid y4;have Y5 := tHid y5;clear K1 K2 K3 k1 k2 k3 HHS HS kS hbad hr3 hf3 y1 y2 y3 y4 y5
       go_wp2_with (first
        | (refine wpList_load_row rfl 58 _ rfl rb (by first | rfl | simp [Act.eval]) 58 _ (0, 0) _ Y1.out Tryz.underlying58 rfl Y2.out ?_)
        | (refine wpList_store_row rfl 58 _ _ rfl qb (rc b3) (by first | rfl | simp [Act.eval]) (by first | rfl | simp [Act.eval]) 58 _ Y3.out Y2.out Y4.out Y5.out ?_; rw [e5]))
       (try simp only [Exit.inBlock, Exit.then])
       exact HE.out _ rfl rfl
     ·rw [decide_eq_false hoE] at hof
      have HHS : Hid (Calls Tryz.prog 44 #[.agg #[.int .i64 (f : Nat), .int .i64 (fE f : Nat), F], .agg #[.int .i64 (o : Nat), .int .i64 (n : Nat)]] V.drew fun e w1 => e = .returned (.bool false) ∧ (w1.cell? ⟨fb, 0, none⟩ = some (.int .i64 (f : Nat)) ∧ w1.cell? ⟨fb, 1, none⟩ = some (.int .i64 (fE f : Nat)) ∧ w1.cell? ⟨fb, 2, none⟩ = some F ∧ w1.cell? ⟨xb, 0, none⟩ = some (.int .i64 (o : Nat)) ∧ w1.cell? ⟨xb, 1, none⟩ = some (.int .i64 (n : Nat)) ∧ w1.cell? ⟨xb, 2, none⟩ = some (.func (.func φ) #[] #[]) ∧ w1.cell? ⟨xb, 3, none⟩ = some (.bool bl) ∧ w1.cell? ⟨hb, sl, none⟩ = some (.int .i64 x)) ∧ Hid (RI h f 5 (I + 1) rb U0 w1 ∧ w1.heap[nb]? = some (.cells nX 109))) := by
       have t0 := has_any (f : Nat) (fE f : Nat) (o : Nat) (n : Nat) F V.drew;rw [hof] at t0;refine t0.mono ?_;rintro e w1 ⟨rfl, k1'⟩;have k1 : Nw V w1 := ((Fr.refl _ _).drew).trans k1';exact ⟨rfl, HS.out w1 (Fr.mono k1 (fun i hi => hi.elim)), (HIV.nskip R.ns hoE).nw k1, Nw.heap k1 htV⟩
      have HV := tHid hV;rw [← hxb0] at *;clear htb htV hxb R hV HI HIV hof;go_upto_region 13 with fail;rw [HV.out]
      refine wp_region_held_drew (S := (fun w' => w'.cell? ⟨fb, 0, none⟩ = some (.int .i64 (f : Nat)) ∧ w'.cell? ⟨fb, 1, none⟩ = some (.int .i64 (fE f : Nat)) ∧ w'.cell? ⟨fb, 2, none⟩ = some F ∧ w'.cell? ⟨wr.heap.size, 0, none⟩ = some (.int .i64 (o : Nat)) ∧ w'.cell? ⟨wr.heap.size, 1, none⟩ = some (.int .i64 (n : Nat)) ∧ w'.cell? ⟨wr.heap.size, 2, none⟩ = some (.func (.func φ) #[] #[]) ∧ w'.cell? ⟨wr.heap.size, 3, none⟩ = some (.bool bl) ∧ w'.cell? ⟨hb, sl, none⟩ = some (.int .i64 x))) (by kernel_rfl) kS (fun hHeld => ?_)
      refine tkH (i := 0) (oi := ⟨some 53, .load 72 (.tmp 2), 72, "header.go:72", #[], none⟩) (v := ?_) rfl ?_ ?_;rotate_left
      ·intro U hSw; (try dsimp only at hSw); (go_simp <;> with_reducible rfl)
      try simp only [Act.put, nz1, nz2, nz3]
      refine tkH (i := 1) (oi := ⟨some 54, .fieldAddr 109 (.tmp 10) 0, 0, "header.go:72", #[], none⟩) (v := ?_) rfl ?_ ?_;rotate_left
      ·intro U hSw; (try dsimp only at hSw); (go_simp <;> with_reducible rfl)
      try simp only [Act.put, nz1, nz2, nz3]
      refine tkH (i := 2) (oi := ⟨some 55, .load 98 (.tmp 54), 98, "header.go:72", #[⟨1, .data⟩], none⟩) (v := ?_) rfl ?_ ?_;rotate_left
      ·intro U hSw; (try dsimp only at hSw); (go_simp <;> with_reducible rfl)
      try simp only [Act.put, nz1, nz2, nz3]
      refine wpAnyH_ready (rs := [3]) (by kernel_rfl) (by simp) ?_;refine AllReadyH.cons (o := ⟨some 56, .call ⟨.value (.func 44), #[.tmp 53, .tmp 55], #[72, 98]⟩, 4, "header.go:72", #[⟨0, .data⟩, ⟨2, .data⟩], none⟩) rfl (fun K hK => ?_) AllReadyH.nil;go_simp;go_at_call 44; with_reducible refine HHS.out.mono ?_; rintro e w1 ⟨rfl, k1, K1⟩
      (try go_wp2_with fail)
      refine hK.out _ _ ?_ (fun hHeld2 => ?_)
      ·exact k1
      clear hK K hHeld;try simp only [Act.put, nz1, nz2, nz3]
      refine tkH (i := 4) (oi := ⟨some 57, .move (.tmp 56), 4, "header.go:72", #[⟨3, .data⟩, ⟨3, .chain⟩], none⟩) (v := ?_) rfl ?_ ?_;rotate_left
      ·intro U hSw; (try dsimp only at hSw); (go_simp <;> with_reducible rfl)
      try simp only [Act.put, nz1, nz2, nz3]
      refine wpAnyH_take (i := 5) (oi := ⟨some 58, .load 109 (.tmp 10), 109, "header.go:72", #[⟨4, .guard⟩], some (4, true)⟩) (v := undef) rfl (by kernel_rfl) (by kernel_rfl) (by kernel_rfl) (fun _ _ _ h => h) (Or.inr ⟨by rfl, rfl⟩) (by assumption) ?_;try simp only [Act.put, nz1, nz2, nz3]
      refine wpAnyH_take (i := 6) (oi := ⟨some 59, .fieldAddr 109 (.tmp 10) 1, 0, "header.go:72", #[⟨4, .guard⟩], some (4, true)⟩) (v := undef) rfl (by kernel_rfl) (by kernel_rfl) (by kernel_rfl) (fun _ _ _ h => h) (Or.inr ⟨by rfl, rfl⟩) (by assumption) ?_;try simp only [Act.put, nz1, nz2, nz3]
      refine wpAnyH_take (i := 7) (oi := ⟨some 60, .load 107 (.tmp 59), 107, "header.go:72", #[⟨6, .data⟩, ⟨4, .guard⟩], some (4, true)⟩) (v := undef) rfl (by kernel_rfl) (by kernel_rfl) (by kernel_rfl) (fun _ _ _ h => h) (Or.inr ⟨by rfl, rfl⟩) (by assumption) ?_;try simp only [Act.put, nz1, nz2, nz3]
      refine wpAnyH_take (i := 8) (oi := ⟨some 61, .move (.tmp 1), 78, "header.go:72", #[⟨4, .guard⟩], some (4, true)⟩) (v := undef) rfl (by kernel_rfl) (by kernel_rfl) (by kernel_rfl) (fun _ _ _ h => h) (Or.inr ⟨by rfl, rfl⟩) (by assumption) ?_;try simp only [Act.put, nz1, nz2, nz3]
      refine wpAnyH_take (i := 12) (oi := ⟨some 65, .fieldAddr 72 (.tmp 2) 2, 0, "header.go:72", #[⟨4, .guard⟩], some (4, true)⟩) (v := undef) rfl (by kernel_rfl) (by kernel_rfl) (by kernel_rfl) (fun _ _ _ h => h) (Or.inr ⟨by rfl, rfl⟩) (by assumption) ?_;try simp only [Act.put, nz1, nz2, nz3]
      refine wpAnyH_take (i := 13) (oi := ⟨some 66, .load 70 (.tmp 65), 70, "header.go:72", #[⟨12, .data⟩, ⟨4, .guard⟩], some (4, true)⟩) (v := undef) rfl (by kernel_rfl) (by kernel_rfl) (by kernel_rfl) (fun _ _ _ h => h) (Or.inr ⟨by rfl, rfl⟩) (by assumption) ?_;try simp only [Act.put, nz1, nz2, nz3]
      refine wpAnyH_ready (rs := [9]) (by kernel_rfl) (by simp) ?_;refine AllReadyH.cons (o := ⟨some 62, .call ⟨.value (.tmp 60), #[.tmp 61], #[78]⟩, 110, "header.go:72", #[⟨7, .data⟩, ⟨8, .data⟩, ⟨4, .chain⟩, ⟨4, .guard⟩], some (4, true)⟩) rfl (fun K hK => ?_) AllReadyH.nil;rw [if_neg (by intro hw; exact Bool.false_ne_true hw)];refine hK.out _ _ ?_ (fun hHeld19 => ?_)
      ·exact k1
      clear hK K;try simp only [Act.put, nz1, nz2, nz3]
      refine wpAnyH_take (i := 10) (oi := ⟨some 63, .nilCheck (.tmp 62), 0, "header.go:72", #[⟨9, .data⟩, ⟨4, .guard⟩], some (4, true)⟩) (v := undef) rfl (by kernel_rfl) (by kernel_rfl) (by kernel_rfl) (fun _ _ _ h => h) (Or.inr ⟨by rfl, rfl⟩) (by assumption) ?_;try simp only [Act.put, nz1, nz2, nz3]
      refine wpAnyH_take (i := 11) (oi := ⟨some 64, .load 2 (.tmp 63), 2, "header.go:72", #[⟨10, .data⟩, ⟨4, .guard⟩], some (4, true)⟩) (v := undef) rfl (by kernel_rfl) (by kernel_rfl) (by kernel_rfl) (fun _ _ _ h => h) (Or.inr ⟨by rfl, rfl⟩) (by assumption) ?_;try simp only [Act.put, nz1, nz2, nz3]
      refine wpAnyH_ready (rs := [14]) (by kernel_rfl) (by simp) ?_;refine AllReadyH.cons (o := ⟨some 67, .call ⟨.value (.func 49), #[.tmp 58, .tmp 6, .tmp 64, .tmp 66], #[109, 113, 2, 70]⟩, 4, "header.go:72", #[⟨5, .data⟩, ⟨11, .data⟩, ⟨13, .data⟩, ⟨9, .chain⟩, ⟨4, .guard⟩], some (4, true)⟩) rfl (fun K hK => ?_) AllReadyH.nil;rw [if_neg (by intro hw; exact Bool.false_ne_true hw)];refine hK.out _ _ ?_ (fun hHeld24 => ?_)
      ·exact k1
      clear hK K;try simp only [Act.put, nz1, nz2, nz3]
      refine wpAnyH_take (i := 15) (oi := ⟨some 68, .unOp UnOp.not 4 (.tmp 67), 4, "header.go:72", #[⟨14, .data⟩, ⟨4, .guard⟩], some (4, true)⟩) (v := undef) rfl (by kernel_rfl) (by kernel_rfl) (by kernel_rfl) (fun _ _ _ h => h) (Or.inr ⟨by rfl, rfl⟩) (by assumption) ?_;try simp only [Act.put, nz1, nz2, nz3]
      refine tkH (i := 16) (oi := ⟨some 69, .pick (.tmp 57) (.tmp 68) (.const (Value.bool false)), 4, "header.go:72", #[⟨4, .data⟩, ⟨15, .data⟩], none⟩) (v := ?_) rfl ?_ ?_;rotate_left
      ·intro U hSw; (try dsimp only at hSw); (go_simp <;> with_reducible rfl)
      try simp only [Act.put, nz1, nz2, nz3]
      refine wpAnyH_done (by kernel_rfl) ?_ _;clear k1 HHS HS kS
      go_wp2_with fail
      go_roundg (7 - (I + 1))
      case measure => omega
      case rel => exact ⟨I + 1, by omega, by omega, by first | rfl | (congr 1), K1⟩
    ·have hI5 : ¬ (I : Int) < 7 := by omega
     obtain rfl : I = 7 := by omega
     obtain ⟨W5, e5, y1, y2, y3, y4, y5, HE⟩ := HEND.out wr _ true (HI.out.1.len ok) HI.out.1.rc0 HI.out.1.fr (fit_of h f HI.out.1.t HI.out.1.n) (fun _ => rfl);obtain ⟨b3, hb3⟩ : ∃ b3, (eL h f 5 7 [h.typ] (mg f)).flatten = b3 := ⟨_, rfl⟩;rw [hb3] at e5 y1 y2 y4 y5;have Y1 := tHid y1;have Y2 := tHid y2;have Y3 := tHid y3;have Y4 := tHid y4;have Y5 := tHid y5;clear y1 y2 y3 y4 y5 hb3
     go_wp2_with (first
      | (refine wpList_load_row rfl 58 _ rfl rb (by first | rfl | simp [Act.eval]) 58 _ (0, 0) _ Y1.out Tryz.underlying58 rfl Y2.out ?_)
      | (refine wpList_store_row rfl 58 _ _ rfl qb (rc b3) (by first | rfl | simp [Act.eval]) (by first | rfl | simp [Act.eval]) 58 _ Y3.out Y2.out Y4.out Y5.out ?_; rw [e5]))
     (try simp only [Exit.inBlock, Exit.then])
     exact HE.out _ rfl rfl
end
end Go.Proofs.YtlenihpbhlfcoaaGreatDoor

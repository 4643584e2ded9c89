import Derived.Test.YtlenihpbhlfcoaaGreatDoorUbm
set_option maxHeartbeats 8000000
set_option maxRecDepth 100000
set_option linter.unusedSimpArgs false
set_option linter.unusedVariables false
namespace Go.Proofs.YtlenihpbhlfcoaaGreatDoor
open Go.RowKit Go.Deep
variable {Y : Nat → Prop} {rb : Nat} {va : Option Addr} {vc : Nat} {b : List By} {vG : Value} {G : List Pr}
theorem boR_old {q : Nat} {h : Hr} {P : List Pr} {x : It} {z : Nat} (ho : isOl h = true) : boR (b.drop q) h P x z = if roE (fd b q 512) ≠ 0 then .bad 0 (roE (fd b q 512)) else
  match omR (b.drop q) 512 (decide ((fd b q 512).getD 482 0 ≠ 0#8)) (rgL (rdO (fd b q 512) 4 386 []).1) with
  | .bad p e => .bad p e
  | .ok l o => bdR (b.drop q) h P x l ((szN (((fd b q 512).drop 483).take 12)).1 : Int) o := by
 unfold boR;rw [if_pos ho];have e : fd (b.drop q) 0 512 = fd b q 512 := by rw [fd_drop, Nat.add_zero]
 rw [e];by_cases h0 : roE (fd b q 512) ≠ 0
 ·rw [if_pos h0, if_pos h0]
 ·rw [if_neg h0, if_neg h0];cases omR (b.drop q) 512 (decide ((fd b q 512).getD 482 0 ≠ 0#8)) (rgL (rdO (fd b q 512) 4 386 []).1) <;> rfl
theorem bdR_old {q o : Nat} {h : Hr} {P : List Pr} {x : It} {l : List Rg} {w : Int} (ho : isOl h = true) (hq : q ≤ b.length) : bdR (b.drop q) h P x l w o = if q + o + x.held + padN x.held ≤ b.length then
   (if vld l w = true ∧ hld l = ((fd b (q + o) x.held).length : Int) then .got { x with data := o, next := o + x.held + padN x.held, sparse := true, map := l, size := if x.kind = 2 then w else 0 } (o + x.held + padN x.held) else .bad 0 161)
   else .bad (b.length - q) 4 := by
 unfold bdR;rw [tk_place hq];by_cases hk : q + o + x.held + padN x.held ≤ b.length
 ·rw [if_pos hk, if_pos hk];simp only;rw [if_pos ho]
 ·rw [if_neg hk, if_neg hk];simp only [List.length_drop]
theorem qbody_old {X : Nat → Prop} (w : World) (q : Nat) (hq : q + 512 ≤ b.length) (h : Hr) (hr : Rm Y rb va vc b (q + 512) vG G w) (vP : Value) (P : List Pr) (hP : SlR RP X vP P w) (hlen : P.length ≤ 1000000000) (xb fr z : Nat) (hX : ∀ k, k = rb ∨ k = xb → X k) (x : It) (hhe : x.held ≤ 9223372036854775807)
  (hi : w.heap[xb]? = some (.cells (icC x 0 fr q 0 0 (.slice none 0 0) vP) 36)) (hne : rb ≠ xb) (hy : Y xb) (ho : isOl h = true) :
  Calls Tryz.prog 57 #[.pointer (some ⟨rb, 0, none⟩), .pointer (some ⟨xb, 0, none⟩), .agg (hdC h (fd b q 512) q), .agg #[vP, .int .i64 (q : Nat)], .int .i64 (z : Nat)] w (BoA Y rb va vc b vG G xb q fr vP (boR (b.drop q) h P x z) w) := by
 have hOut := boR_old (b := b) (q := q) (P := P) (x := x) (z := z) ho;refine asP fun Q hQ => ?_
 rw [hOut] at hQ;obtain ⟨CHh, hCHh⟩ : ∃ CHh : List Value, CHh = h.C.toList := ⟨_, rfl⟩;have hCA : h.C = CHh.toArray := by rw [hCHh]
 obtain ⟨HC, hHC⟩ : ∃ HC, HC = hdC h (fd b q 512) q := ⟨_, rfl⟩;have HAT : Hid (∀ V : World, V.heap[w.heap.size]? = some (.cells HC 89) → V.cell? ⟨w.heap.size, 526, none⟩ = some (.int .i64 (q : Nat))) := fun V hV => cell_of hV 526 _ (by rw [hHC]; exact hdC_at h _ (fd_length b q 512 hq) q)
 have HRG : Hid (∀ V : World, V.heap[w.heap.size]? = some (.cells HC 89) → V.rangeAt w.heap.size 0 CHh) := fun V hV j v hv => by
  rw [Nat.zero_add];refine cell_of hV j v ?_;rw [hHC];exact hdC_lo h _ q j v (by rw [hCA]; simpa using hv)
 have HCHI : Hid ((Tryz.prog.info? 62).map (·.size) = some CHh.length) := by
  show _ = _;rw [hCHh, Array.length_toList]; kernel_rfl
 have HHI : Hid ((Tryz.prog.info? 89).map (·.size) = some HC.size) := by
  show _ = _;rw [hHC]; exact hd_info h _ (fd_length b q 512 hq) q
 obtain ⟨a, c, rfl⟩ := ps_form hP;have HB1' : Bod Y rb va vc b vG G w xb w.heap.size (w.heap.size + 1) HC (.slice a P.length c) q (q + 512) _ _ := bs_start hr hi hne hy;obtain ⟨W1, hW1⟩ : ∃ W1, (w.alloc (.cells HC 89)).alloc (.cells #[.slice a P.length c, .int .i64 (q : Nat)] 121) = W1 := ⟨_, rfl⟩;rw [hW1] at HB1';have HB1 := tHid HB1';have HW1 := tHid hW1;have HPk : ∀ V, Fr (fun k => k = rb ∨ k = xb) w V → SlR RP X (.slice a P.length c) P V := fun V hV => hP.kept hV hX
 have hlt : rb < w.heap.size ∧ xb < w.heap.size := ⟨hr.lt, (Array.getElem?_eq_some_iff.1 hi).1⟩;have HLT : Hid (∀ k, (k = rb ∨ k = xb) → k < w.heap.size) := fun k hk => by rcases hk with rfl | rfl; exact hlt.1; exact hlt.2
 have HGU := tHid (qgiveUp_any (q : Nat) 161);have HOLD : Hid (∀ V, Calls Tryz.prog 91 #[.agg CHh.toArray] V fun e w' => e = .returned (.bool true) ∧ Nw V w') := fun V => by
  rw [← hCA, ← ho]; exact qisOld_any h V
 have HOM : ∀ V, Rm Y rb va vc b (q + 512) vG G V → Calls Tryz.prog 92 #[.pointer (some ⟨rb, 0, none⟩), .agg HC] V (OmA Y rb va vc b q vG G V) := fun V hV => by
  rw [hHC]; exact qoldMap_any q hq hV h
 have HTK : ∀ p V, Rm Y rb va vc b p vG G V → Calls Tryz.prog 58 #[.pointer (some ⟨rb, 0, none⟩), .int .i64 (x.held : Nat)] V (TkA Y rb va vc b p x.held vG G V) := fun p V hV => qtake_any hV (by omega) x.held hhe
 have hbl := hr.bl;obtain ⟨WN, hWN⟩ : ∃ WN : Nat, WN = (szN (((fd b q 512).drop 483).take 12)).1 := ⟨_, rfl⟩;have hWNL : WN ≤ 9223372036854775807 := by rw [hWN]; exact szN_le _
 rw [← hWN] at hQ;obtain ⟨hb, hhb⟩ : ∃ hb, w.heap.size = hb := ⟨_, rfl⟩;obtain ⟨sb, hsb⟩ : ∃ sb, w.heap.size + 1 = sb := ⟨_, rfl⟩;have HNB : Hid (w.heap.size = hb ∧ hb + 1 = sb ∧ w.heap.size + 1 = sb) := ⟨hhb, by omega, hsb⟩;rw [hhb] at HRG HAT;rw [hsb, hhb] at HB1;rw [← hHC];rw [hCA] at *;clear HB1' hW1 hi hr hHC hCHh hP HPk;by_cases h0 : roE (fd b q 512) = 0
 ·rw [if_neg (fun hne => hne h0)] at hQ;cases hom : omR (b.drop q) 512 (decide ((fd b q 512).getD 482 0 ≠ 0#8)) (rgL (rdO (fd b q 512) 4 386 []).1) with
  | bad pl E =>
   rw [hom] at hQ;have HOM2 : Hid (∀ V, Rm Y rb va vc b (q + 512) vG G V → Calls Tryz.prog 92 #[.pointer (some ⟨rb, 0, none⟩), .agg HC] V fun e w' => e = gvR ((q + pl : Nat) : Int) (E : Nat) ∧ Fr (fun k => k = rb) V w' ∧ Alv rb va vc b vG w') := fun V hV => (HOM V hV).mono (fun e w' H => by
    rcases H with ⟨h1, _⟩ | ⟨_, H⟩
    ·exact absurd h0 h1
    ·rw [hom] at H; exact H)
   have HZ : Hid (∀ V, Fr (fun k => k = rb ∨ k = xb) w V → Alv rb va vc b vG V → Q (gvR ((q + pl : Nat) : Int) (E : Nat)) V) := fun V hV hA => by rw [hQ]; exact ⟨rfl, hV, hA⟩
   clear hQ HTK hOut hhe hX HOM hom h0 hWN;generalize ((q + pl : Nat) : Int) = PL at *;go_enter Tryz.func57, Tryz.ntmps57;go_upto_region 1 with fail;rw [HW1.out, HNB.out.2.1];clear hhb hsb;go_upto_region 4 with (first
    | (refine wpList_load_mid rfl 62 _ rfl hb 0 (by first | rfl | simp [Act.eval]) CHh _ (HRG.out _ HB1.out.hd) Tryz.underlying62 rfl HCHI.out ?_)
    | (go_at_call 91; (with_reducible refine (HOLD.out _).mono ?_); rintro e w2 ⟨rfl, K2⟩))
   have B2 := tHid (HB1.out.nw K2);clear K2 HOLD
   go_wp2_with (first
    | (refine wpList_load_row rfl 89 _ rfl hb (by first | rfl | simp [Act.eval]) 89 _ (0, 0) _ B2.out.hd Tryz.underlying89 rfl HHI.out ?_)
    | (go_at_call 92; (with_reducible refine (HOM2.out _ B2.out.rm).mono ?_); rintro e w3 ⟨rfl, K3⟩))
   exact ⟨rfl, HZ.out _ (B2.out.fr.trans (K3.1.mono (fun i hi => .inl (.inl hi)))) K3.2⟩
  | ok l o =>
   rw [hom] at hQ;simp only at hQ;rw [bdR_old ho (by omega)] at hQ;have HOM2 : Hid (∀ V, Rm Y rb va vc b (q + 512) vG G V → Calls Tryz.prog 92 #[.pointer (some ⟨rb, 0, none⟩), .agg HC] V fun e w' => ∃ a1 m1 c1', e = .returned (.tuple #[.slice a1 m1 c1', .int .i64 (WN : Nat)]) ∧ Hid (Fr (fun k => k = rb) V w' ∧ Rm Y rb va vc b (q + o) vG G w' ∧ NewG V (.slice a1 m1 c1') l w')) := fun V hV => (HOM V hV).mono (fun e w' H => by
    rcases H with ⟨h1, _⟩ | ⟨_, H⟩
    ·exact absurd h0 h1
    ·rw [hom] at H;obtain ⟨v, e1, H⟩ := H;obtain ⟨H1, H2, og, H3, H4⟩ := H.out;obtain ⟨a1, c1', ev, _⟩ := H3.form;subst ev;exact ⟨a1, _, c1', by rw [hWN]; exact e1, H1, H2, og, H3, H4⟩)
   by_cases hk : q + o + x.held + padN x.held ≤ b.length
   ·rw [if_pos hk] at hQ;have hdl : (fd b (q + o) x.held).length = x.held := fd_length _ _ _ (by omega);rw [hdl] at hQ;obtain ⟨pp, hpp⟩ : ∃ pp : Nat, pp = q + o + x.held + padN x.held := ⟨_, rfl⟩;have HT : Hid (∀ V, Rm Y rb va vc b (q + o) vG G V → Calls Tryz.prog 58 #[.pointer (some ⟨rb, 0, none⟩), .int .i64 (x.held : Nat)] V fun e w' => ∃ a' c', e = .returned (.slice a' x.held c') ∧ Hid (Rm Y rb va vc b pp vG G w' ∧ Fr (fun k => k = rb) V w')) := fun V hV => (HTK _ V hV).mono (fun e w' H => by
     rw [hpp];rcases H with ⟨h1, _⟩ | ⟨_, a', c', h2, h3⟩
     ·omega
     ·exact ⟨a', c', h2, h3.out.2⟩)
    obtain ⟨LM, hLM⟩ : ∃ LM, LM = l := ⟨_, rfl⟩;obtain ⟨DL, hDL⟩ : ∃ DL, DL = x.held := ⟨_, rfl⟩;obtain ⟨WH, hWH⟩ : ∃ WH : Int, WH = (WN : Nat) := ⟨_, rfl⟩;have HWL : Hid (WH ≤ 9223372036854775807) := by show WH ≤ _; rw [hWH]; exact Int.ofNat_le.2 hWNL
    have HOK0 : Hid (∀ (a1 : Option Addr) (m1 c1' : Nat) V, vld LM WH = true → hld LM = (DL : Int) → Bod Y rb va vc b vG G w xb hb sb HC (.slice a P.length c) q pp (icC { x with sparse := true } 0 fr q (q + o) 0 (.slice a1 m1 c1') (.slice a P.length c)) V → MpN w (.slice a1 m1 c1') LM V → Q (.returned (.int .i64 WH)) V) := fun a1 m1 c1' V h1 h2 hV hM => by
     rw [hQ, ← hWH, ← hLM, if_pos ⟨h1, by rw [← hDL]; exact h2⟩];have e1 : q + (o + x.held + padN x.held) = pp := by rw [hpp]; omega
     refine ⟨.slice a1 m1 c1', WH, rfl, fun h3 => by show (if x.kind = 2 then WH else 0) = _; rw [if_pos h3], fun h3 => by show (if x.kind = 2 then WH else 0) = _; rw [if_neg h3], hV.fr, ?_, hV.it, hM⟩;rw [e1]; exact hV.rm
    have HERR : Hid (¬ (vld LM WH = true ∧ hld LM = (DL : Int)) → ∀ V, Fr (fun k => k = rb ∨ k = xb) w V → Alv rb va vc b vG V → Q (gvR (q : Nat) 161) V) := fun h1 V hV hA => by
     rw [hQ, ← hWH, ← hLM, if_neg (by rw [← hDL]; exact h1)];exact ⟨by rw [Nat.add_zero]; rfl, hV, hA⟩
    rw [← hWH] at HOM2;rw [← hLM] at HOM2;have HDE := tHid hDL;clear hQ HTK hOut hhe hX HOM hom h0 hWN hk hdl hpp hLM hWH hDL hWNL hbl;go_enter Tryz.func57, Tryz.ntmps57;go_upto_region 1 with fail;rw [HW1.out, HNB.out.2.1];clear hhb hsb;go_upto_region 4 with (first
     | (refine wpList_load_mid rfl 62 _ rfl hb 0 (by first | rfl | simp [Act.eval]) CHh _ (HRG.out _ HB1.out.hd) Tryz.underlying62 rfl HCHI.out ?_)
     | (go_at_call 91; (with_reducible refine (HOLD.out _).mono ?_); rintro e w2 ⟨rfl, K2⟩))
    have B2 := tHid (HB1.out.nw K2);clear K2 HOLD;obtain ⟨k20, f20⟩ := B2.out.c 20 (.slice none 0 0) rfl;go_upto_region 5 with (first
     | (refine wpList_load_row rfl 89 _ rfl hb (by first | rfl | simp [Act.eval]) 89 _ (0, 0) _ B2.out.hd Tryz.underlying89 rfl HHI.out ?_)
     | (go_at_call 92; (with_reducible refine (HOM2.out _ B2.out.rm).mono ?_); rintro e w3 ⟨a1, m1, c1', rfl, K3⟩; have B3 := tHid (B2.out.rd K3.out.1 K3.out.2.1); have MP3 := tHid (MpN.new K3.out.2.2 (Fr.size B2.out.fr)); obtain ⟨kc, fc⟩ := B3.out.c 20 (.slice none 0 0) rfl))
    obtain ⟨W4, hW4⟩ : ∃ W4, w3.setCell ⟨xb, 20, none⟩ (.slice a1 m1 c1') = W4 := ⟨_, rfl⟩;have B4 : Hid (Bod Y rb va vc b vG G w xb hb sb HC (.slice a P.length c) q (q + o) (icC x 0 fr q 0 0 (.slice a1 m1 c1') (.slice a P.length c)) W4) := by
     rw [← hW4];exact B3.out.st 20 (.slice a1 m1 c1')
    have MP4 : Hid (MpN w (.slice a1 m1 c1') LM W4) := by
     rw [← hW4];exact MP3.out.kept ((Fr.refl _ _).setCell _ _ (.inl rfl) : Fr (fun k => k = xb) w3 _) (fun k hk => HLT.out k (.inr hk))
    rw [hW4];clear hW4 kc fc MP3 B3 K3 HOM2 B2 k20 f20;obtain ⟨c1, f1⟩ := B4.out.c 16 (.int .i64 (0 : Nat)) rfl;have c2 : W4.cell? ⟨rb, 1, none⟩ = some (.int .i64 ((q + o : Nat) : Int)) := B4.out.s.2.2;obtain ⟨D, hD⟩ : ∃ D : Nat, D = q + o := ⟨_, rfl⟩;rw [← hD] at c2;obtain ⟨W3, hW3⟩ : ∃ W3, W4.setCell ⟨xb, 16, none⟩ (.int .i64 (D : Nat)) = W3 := ⟨_, rfl⟩;have B3 : Hid (Bod Y rb va vc b vG G w xb hb sb HC (.slice a P.length c) q (q + o) (icC x 0 fr q D 0 (.slice a1 m1 c1') (.slice a P.length c)) W3) := by
     rw [← hW3];exact B4.out.st 16 (.int .i64 (D : Nat))
    have MPx : Hid (MpN w (.slice a1 m1 c1') LM W3) := by
     rw [← hW3];exact MP4.out.kept ((Fr.refl _ _).setCell _ _ (.inl rfl) : Fr (fun k => k = xb) W4 _) (fun k hk => HLT.out k (.inr hk))
    have HD := tHid hD;clear hD;go_upto_region 6 with fail
    (try rw [hW3])
    clear hW3 B4 c1 f1 c2;obtain ⟨c3, f3⟩ := B3.out.c 18 (.int .i64 (x.held : Nat)) rfl
    go_wp2_with fail
    go_at_call 58
    with_reducible refine (HT.out _ B3.out.rm).mono ?_
    rintro e w5 ⟨a', c', rfl, K5⟩;have B5 := tHid (B3.out.rd K5.out.2 K5.out.1);have MP5 := tHid (MPx.out.kept K5.out.2 (fun k hk => HLT.out k (.inl hk)));have HOK := tHid (HOK0.out a1 m1 c1');rw [← HD.out] at HOK;rw [← HDE.out];clear K5 B3 MPx MP4 HT HOK0 c3 f3 HDE;go_upto_region 7 with fail
    go_quiet (fail)
    have B6 := tHid (B5.out.nw ((Fr.refl _ _).drewN nq));have MP6 := tHid (MP5.out.nw ((Fr.refl _ _).drewN nq));generalize w5.drewN nq = w6 at *;clear B5 MP5;obtain ⟨c4, f4⟩ := B6.out.c 19 (.bool x.sparse) rfl;obtain ⟨W10, hW6⟩ : ∃ W10, w6.setCell ⟨xb, 19, none⟩ (.bool true) = W10 := ⟨_, rfl⟩;have B10 : Hid (Bod Y rb va vc b vG G w xb hb sb HC (.slice a P.length c) q (pp) (icC { x with sparse := true } 0 fr q D 0 (.slice a1 m1 c1') (.slice a P.length c)) W10) := by
     rw [← hW6];exact B6.out.st 19 (.bool true)
    have f6 : Fr (fun k => k = xb) w6 W10 := by rw [← hW6]; exact (Fr.refl _ _).setCell _ _ (.inl rfl)
    have MP10 := tHid (MP6.out.kept f6 (fun k hk => HLT.out k (.inr hk)));go_upto_region 10 with fail
    (try rw [hW6])
    clear hW6 c4 f4;obtain ⟨c20, _⟩ := B10.out.c 20 (.slice a1 m1 c1') rfl;obtain ⟨XM, hXM⟩ := MP10.out.slr;have HVA := tHid (valid_any W10 a1 m1 c1' LM hXM WH);clear hXM;by_cases hv : vld LM WH = true
    ·rw [hv] at HVA;go_upto_region 14 with fail
     go_wp2_with (first | (go_at_call 22; (with_reducible refine HVA.out.mono ?_); rintro e wa ⟨rfl, Ka⟩; have Ba := tHid (B10.out.nw Ka); have Ma := tHid (MP10.out.nw Ka); obtain ⟨ca, _⟩ := Ba.out.c 20 (.slice a1 m1 c1') rfl; obtain ⟨XA, hXA⟩ := Ma.out.slr; have HBY := tHid (qbytesOf_any wa a1 m1 c1' LM hXA WH ⟨(vld_of hv).1, HWL.out⟩ (vld_of hv).2); clear hXA))
     by_cases hl : hld LM = (DL : Int)
     ·have hd : (hld LM != (DL : Int)) = false := by rw [hl]; simp
      have HL := tHid hl;clear hl;generalize hld LM = HH at *
      go_wp2_with (first | (go_at_call 23; (with_reducible refine HBY.out.mono ?_); rintro e wb ⟨rfl, Kb⟩; have Bb := tHid (Ba.out.nw Kb); have Mb := tHid (Ma.out.nw Kb)))
      exact HOK.out _ hv HL.out Bb.out Mb.out
     ·have hd : (hld LM != (DL : Int)) = true := by simpa using hl
      have HZ := tHid (HERR.out (fun h => hl h.2));clear hl;generalize hld LM = HH at *
      go_wp2_with (first
       | (go_at_call 23; (with_reducible refine HBY.out.mono ?_); rintro e wb ⟨rfl, Kb⟩; have Bb := tHid (Ba.out.nw Kb); have xb526 := HAT.out _ Bb.out.hd)
       | (go_at_call 39; (with_reducible refine (HGU.out _).mono ?_); rintro e wc ⟨rfl, rfl⟩))
      exact ⟨rfl, HZ.out _ Bb.out.fr Bb.out.rm.alv⟩
    ·have hv' : vld LM WH = false := by simpa using hv
     rw [hv'] at HVA;have HZ := tHid (HERR.out (fun h => hv h.1));go_upto_region 14 with fail
     go_wp2_with (first
       | (go_at_call 22; (with_reducible refine HVA.out.mono ?_); rintro e wa ⟨rfl, Ka⟩; have Ba := tHid (B10.out.nw Ka); have xa526 := HAT.out _ Ba.out.hd)
       | (go_at_call 39; (with_reducible refine (HGU.out _).mono ?_); rintro e wc ⟨rfl, rfl⟩))
     exact ⟨rfl, HZ.out _ Ba.out.fr Ba.out.rm.alv⟩
   ·rw [if_neg hk] at hQ;have HBAD : Hid (∀ V, Fr (fun k => k = rb ∨ k = xb) w V → Alv rb va vc b vG V → Q (gvR (b.length : Nat) 4) V) := fun V hV hA => by
     rw [hQ];refine ⟨?_, hV, hA⟩;have : q + (b.length - q) = b.length := by omega
     rw [this]; rfl
    have HT : Hid (∀ V, Rm Y rb va vc b (q + o) vG G V → Calls Tryz.prog 58 #[.pointer (some ⟨rb, 0, none⟩), .int .i64 (x.held : Nat)] V fun e w' => e = gvR (b.length : Nat) 4 ∧ Nw V w') := fun V hV => (HTK _ V hV).mono (fun e w' H => by
     rcases H with ⟨_, h2, h3⟩ | ⟨h1, _⟩
     ·exact ⟨h2, h3⟩
     ·omega)
    clear hQ HTK hOut hk hhe hX HOM hom h0 hWN hWNL hbl;go_enter Tryz.func57, Tryz.ntmps57;go_upto_region 1 with fail;rw [HW1.out, HNB.out.2.1];clear hhb hsb;go_upto_region 4 with (first
     | (refine wpList_load_mid rfl 62 _ rfl hb 0 (by first | rfl | simp [Act.eval]) CHh _ (HRG.out _ HB1.out.hd) Tryz.underlying62 rfl HCHI.out ?_)
     | (go_at_call 91; (with_reducible refine (HOLD.out _).mono ?_); rintro e w2 ⟨rfl, K2⟩))
    have B2 := tHid (HB1.out.nw K2);clear K2 HOLD;obtain ⟨k20, f20⟩ := B2.out.c 20 (.slice none 0 0) rfl;go_upto_region 5 with (first
     | (refine wpList_load_row rfl 89 _ rfl hb (by first | rfl | simp [Act.eval]) 89 _ (0, 0) _ B2.out.hd Tryz.underlying89 rfl HHI.out ?_)
     | (go_at_call 92; (with_reducible refine (HOM2.out _ B2.out.rm).mono ?_); rintro e w3 ⟨a1, m1, c1', rfl, K3⟩; have B3 := tHid (B2.out.rd K3.out.1 K3.out.2.1); have MP3 := tHid (MpN.new K3.out.2.2 (Fr.size B2.out.fr)); obtain ⟨kc, fc⟩ := B3.out.c 20 (.slice none 0 0) rfl))
    obtain ⟨W4, hW4⟩ : ∃ W4, w3.setCell ⟨xb, 20, none⟩ (.slice a1 m1 c1') = W4 := ⟨_, rfl⟩;have B4 : Hid (Bod Y rb va vc b vG G w xb hb sb HC (.slice a P.length c) q (q + o) (icC x 0 fr q 0 0 (.slice a1 m1 c1') (.slice a P.length c)) W4) := by
     rw [← hW4];exact B3.out.st 20 (.slice a1 m1 c1')
    have MP4 : Hid (MpN w (.slice a1 m1 c1') l W4) := by
     rw [← hW4];exact MP3.out.kept ((Fr.refl _ _).setCell _ _ (.inl rfl) : Fr (fun k => k = xb) w3 _) (fun k hk => HLT.out k (.inr hk))
    rw [hW4];clear hW4 kc fc MP3 B3 K3 HOM2 B2 k20 f20;obtain ⟨c1, f1⟩ := B4.out.c 16 (.int .i64 (0 : Nat)) rfl;have c2 : W4.cell? ⟨rb, 1, none⟩ = some (.int .i64 ((q + o : Nat) : Int)) := B4.out.s.2.2;obtain ⟨D, hD⟩ : ∃ D : Nat, D = q + o := ⟨_, rfl⟩;rw [← hD] at c2;obtain ⟨W3, hW3⟩ : ∃ W3, W4.setCell ⟨xb, 16, none⟩ (.int .i64 (D : Nat)) = W3 := ⟨_, rfl⟩;have B3 : Hid (Bod Y rb va vc b vG G w xb hb sb HC (.slice a P.length c) q (q + o) (icC x 0 fr q D 0 (.slice a1 m1 c1') (.slice a P.length c)) W3) := by
     rw [← hW3];exact B4.out.st 16 (.int .i64 (D : Nat))
    have MPx : Hid (MpN w (.slice a1 m1 c1') l W3) := by
     rw [← hW3];exact MP4.out.kept ((Fr.refl _ _).setCell _ _ (.inl rfl) : Fr (fun k => k = xb) W4 _) (fun k hk => HLT.out k (.inr hk))
    have HD := tHid hD;clear hD;go_upto_region 6 with fail
    (try rw [hW3])
    clear hW3 B4 c1 f1 c2;obtain ⟨c3, f3⟩ := B3.out.c 18 (.int .i64 (x.held : Nat)) rfl
    go_wp2_with fail
    go_at_call 58
    with_reducible refine (HT.out _ B3.out.rm).mono ?_
    rintro e w4 ⟨rfl, K4⟩
    go_wp2_with fail
    exact ⟨rfl, HBAD.out _ (B3.out.nw K4).fr (B3.out.nw K4).rm.alv⟩
 ·rw [if_pos h0] at hQ;have HOM2 : Hid (∀ V, Rm Y rb va vc b (q + 512) vG G V → Calls Tryz.prog 92 #[.pointer (some ⟨rb, 0, none⟩), .agg HC] V fun e w' => e = gvR (q : Nat) (roE (fd b q 512) : Nat) ∧ Fr (fun k => k = rb) V w' ∧ Alv rb va vc b vG w') := fun V hV => (HOM V hV).mono (fun e w' H => by
   rcases H with ⟨_, h1, h2⟩ | ⟨h1, _⟩
   ·exact ⟨h1, h2.any, (hV.nw h2).alv⟩
   ·exact absurd h1 h0)
  have HZ : Hid (∀ V, Fr (fun k => k = rb ∨ k = xb) w V → Alv rb va vc b vG V → Q (gvR (q : Nat) (roE (fd b q 512) : Nat)) V) := fun V hV hA => by rw [hQ]; exact ⟨by rw [Nat.add_zero], hV, hA⟩
  clear hQ HTK hOut hhe hX HOM h0 hWN;generalize roE (fd b q 512) = EE at *;go_enter Tryz.func57, Tryz.ntmps57;go_upto_region 1 with fail;rw [HW1.out, HNB.out.2.1];clear hhb hsb;go_upto_region 4 with (first
   | (refine wpList_load_mid rfl 62 _ rfl hb 0 (by first | rfl | simp [Act.eval]) CHh _ (HRG.out _ HB1.out.hd) Tryz.underlying62 rfl HCHI.out ?_)
   | (go_at_call 91; (with_reducible refine (HOLD.out _).mono ?_); rintro e w2 ⟨rfl, K2⟩))
  have B2 := tHid (HB1.out.nw K2);clear K2 HOLD
  go_wp2_with (first
   | (refine wpList_load_row rfl 89 _ rfl hb (by first | rfl | simp [Act.eval]) 89 _ (0, 0) _ B2.out.hd Tryz.underlying89 rfl HHI.out ?_)
   | (go_at_call 92; (with_reducible refine (HOM2.out _ B2.out.rm).mono ?_); rintro e w3 ⟨rfl, K3⟩))
  exact ⟨rfl, HZ.out _ (B2.out.fr.trans (K3.1.mono (fun i hi => .inl (.inl hi)))) K3.2⟩
end Go.Proofs.YtlenihpbhlfcoaaGreatDoor

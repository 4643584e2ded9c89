import Derived.Test.YtlenihpbhlfcoaaGreatDoorUbl
set_option maxHeartbeats 8000000
set_option maxRecDepth 100000
set_option linter.unusedSimpArgs false
set_option linter.unusedVariables false
namespace Go.Proofs.YtlenihpbhlfcoaaGreatDoor
open Go.RowKit Go.Deep
variable {Y : Nat → Prop} {rb : Nat} {va : Option Addr} {vc : Nat} {b : List By} {vG : Value} {G : List Pr}
theorem MpN.kept {w V U : World} {v : Value} {l : List Rg} (h : MpN w v l V) {X : Nat → Prop} (f : Fr X V U) (hx : ∀ k, X k → k < w.heap.size) : MpN w v l U := by
 obtain ⟨h1, og, h2, h3⟩ := h;exact ⟨h1, og, h2.kept f (fun g hg hX => by have := h3 g hg; have := hx g hX; omega), h3⟩
theorem MpN.nw {w V U : World} {v : Value} {l : List Rg} (h : MpN w v l V) (f : Nw V U) : MpN w v l U := h.kept f (fun _ h => h.elim)
theorem MpN.new {w V U : World} {a : Option Addr} {n c : Nat} {l : List Rg} (h : NewG V (.slice a n c) l U) (hw : w.heap.size ≤ V.heap.size) : MpN w (.slice a n c) l U := by
 obtain ⟨og, h2, h3⟩ := h;exact ⟨⟨a, n, c, rfl⟩, og, h2, fun g hg => Nat.le_trans hw (h3 g hg)⟩
theorem MpN.slr {w V : World} {v : Value} {l : List Rg} (h : MpN w v l V) : ∃ X, SlR RG X v l V := by
 obtain ⟨_, og, h2, _⟩ := h;exact ⟨_, h2.slr rgOk⟩
theorem vld_of {l : List Rg} {s : Int} (h : vld l s = true) : 0 ≤ s ∧ vlE s 0 l = true := by
 unfold vld at h;rw [Bool.and_eq_true, Bool.and_eq_true] at h;exact ⟨of_decide_eq_true h.1, h.2.2⟩
def EnvB (B : Nat) (w : World) : Prop := ∀ U, Below B w U → Env U
theorem EnvB.fr {B : Nat} {w U : World} (h : EnvB B w) {X : Nat → Prop} (f : Fr X w U) (hB : B ≤ w.heap.size) (hX : ∀ k, X k → B ≤ k) : EnvB B U := fun U' hU => h U' ((Fr.below (Below.refl _ _) f hB hX).trans hU)
theorem EnvB.env {B : Nat} {w : World} (h : EnvB B w) : Env w := h w (Below.refl _ _)
theorem EnvB.of {w : World} (h : Env w) : EnvB w.heap.size w := fun U hU => h.nw (below_nw hU)
theorem qbody_map {X : Nat → Prop} (w : World) (q : Nat) (hq : q + 512 ≤ b.length) (h : Hr) (hr : Rm Y rb va vc b (q + 512) vG G w) (vP : Value) (P : List Pr) (hP : SlR RP X vP P w) (hlen : P.length ≤ 1000000000) (xb fr z : Nat) (hX : ∀ k, k = rb ∨ k = xb → X k) (x : It) (hhe : x.held ≤ 9223372036854775807)
  (hi : w.heap[xb]? = some (.cells (icC x 0 fr q 0 0 (.slice none 0 0) vP) 36)) (hne : rb ≠ xb) (hy : Y xb) (ho : isOl h = false) (hm : hasM x.kind P = true) (hk2 : x.kind = 2) (hvl : VlB P) (B : Nat) (hE : EnvB B w) (hB : B ≤ w.heap.size ∧ B ≤ rb ∧ B ≤ xb) :
  Calls Tryz.prog 57 #[.pointer (some ⟨rb, 0, none⟩), .pointer (some ⟨xb, 0, none⟩), .agg (hdC h (fd b q 512) q), .agg #[vP, .int .i64 (q : Nat)], .int .i64 (z : Nat)] w (BoA Y rb va vc b vG G xb q fr vP (boR (b.drop q) h P x z) w) := by
 have hOut : boR (b.drop q) h P x z = if q + 512 + x.held + padN x.held ≤ b.length then
   (if (numV ((fndV P kReal).getD [])).2 ≠ 0 then .bad 0 (numV ((fndV P kReal).getD [])).2
   else if (rdT (fd b (q + 512) x.held)).2.2 ≠ 0 then .bad 512 (rdT (fd b (q + 512) x.held)).2.2
   else if vld (rgL (rdT (fd b (q + 512) x.held)).1) (numV ((fndV P kReal).getD [])).1 = true ∧ hld (rgL (rdT (fd b (q + 512) x.held)).1) = ((fd b (q + 512) x.held).drop (rdT (fd b (q + 512) x.held)).2.1).length then
    .got { x with name := txP14 P kName x.name, data := 512, next := 512 + x.held + padN x.held, sparse := true, map := rgL (rdT (fd b (q + 512) x.held)).1, size := (numV ((fndV P kReal).getD [])).1 } (512 + x.held + padN x.held)
   else .bad 0 161) else .bad (b.length - q) 4 := by
  unfold boR;rw [if_neg (by rw [ho]; simp)];unfold bdR;rw [tk_place (by omega)];by_cases hk : q + 512 + x.held + padN x.held ≤ b.length
  ·rw [if_pos hk, if_pos hk];simp only;rw [if_neg (by rw [ho]; simp), if_pos hm]
  ·rw [if_neg hk, if_neg hk];simp only [List.length_drop]
 refine asP fun Q hQ => ?_
 rw [hOut] at hQ;obtain ⟨CHh, hCHh⟩ : ∃ CHh : List Value, CHh = h.C.toList := ⟨_, rfl⟩;have hCA : h.C = CHh.toArray := by rw [hCHh]
 obtain ⟨HC, hHC⟩ : ∃ HC, HC = hdC h (fd b q 512) q := ⟨_, rfl⟩;have HAT : Hid (∀ V : World, V.heap[w.heap.size]? = some (.cells HC 89) → V.cell? ⟨w.heap.size, 526, none⟩ = some (.int .i64 (q : Nat))) := fun V hV => cell_of hV 526 _ (by rw [hHC]; exact hdC_at h _ (fd_length b q 512 hq) q)
 have HRG : Hid (∀ V : World, V.heap[w.heap.size]? = some (.cells HC 89) → V.rangeAt w.heap.size 0 CHh) := fun V hV j v hv => by
  rw [Nat.zero_add];refine cell_of hV j v ?_;rw [hHC];exact hdC_lo h _ q j v (by rw [hCA]; simpa using hv)
 have HCHI : Hid ((Tryz.prog.info? 62).map (·.size) = some CHh.length) := by
  show _ = _;rw [hCHh, Array.length_toList]; kernel_rfl
 have HHI : Hid ((Tryz.prog.info? 89).map (·.size) = some HC.size) := by
  show _ = _;rw [hHC]; exact hd_info h _ (fd_length b q 512 hq) q
 obtain ⟨a, c, rfl⟩ := ps_form hP;have HB1' : Bod Y rb va vc b vG G w xb w.heap.size (w.heap.size + 1) HC (.slice a P.length c) q (q + 512) _ _ := bs_start hr hi hne hy;obtain ⟨W1, hW1⟩ : ∃ W1, (w.alloc (.cells HC 89)).alloc (.cells #[.slice a P.length c, .int .i64 (q : Nat)] 121) = W1 := ⟨_, rfl⟩;rw [hW1] at HB1';have HB1 := tHid HB1';have HW1 := tHid hW1;have HPk : ∀ V, Fr (fun k => k = rb ∨ k = xb) w V → SlR RP X (.slice a P.length c) P V := fun V hV => hP.kept hV hX
 have hlt : rb < w.heap.size ∧ xb < w.heap.size := ⟨hr.lt, (Array.getElem?_eq_some_iff.1 hi).1⟩;have HLT : Hid (∀ k, (k = rb ∨ k = xb) → k < w.heap.size) := fun k hk => by rcases hk with rfl | rfl; exact hlt.1; exact hlt.2
 have HGU := tHid (qgiveUp_any (q : Nat) 161);have HOLD : Hid (∀ V, Calls Tryz.prog 91 #[.agg CHh.toArray] V fun e w' => e = .returned (.bool false) ∧ Nw V w') := fun V => by
  rw [← hCA, ← ho]; exact qisOld_any h V
 have HHM : Hid (∀ V, Fr (fun k => k = rb ∨ k = xb) w V → Calls Tryz.prog 93 #[.agg #[.slice a P.length c, .int .i64 (q : Nat)], .int .i64 (x.kind : Nat)] V fun e w' => e = .returned (.bool true) ∧ Nw V w') := fun V hV => by
  rw [← hm]; exact qshasMap_any _ P q x.kind V (HPk V hV) hlen
 have HTK : ∀ V, Rm Y rb va vc b (q + 512) vG G V → Calls Tryz.prog 58 #[.pointer (some ⟨rb, 0, none⟩), .int .i64 (x.held : Nat)] V (TkA Y rb va vc b (q + 512) x.held vG G V) := fun V hV => qtake_any hV (by omega) x.held hhe
 obtain ⟨NV, hNV⟩ : ∃ NV, NV = numV ((fndV P kReal).getD []) := ⟨_, rfl⟩;rw [← hNV] at hQ;have hNL : NV.1 ≤ 9223372036854775807 := by rw [hNV]; have := numV_lt ((fndV P kReal).getD []); omega
 have HWS : Hid (∀ V, Fr (fun k => k = rb ∨ k = xb) w V → Calls Tryz.prog 94 #[.agg #[.slice a P.length c, .int .i64 (q : Nat)]] V (NbA NV q V)) := fun V hV => by
  rw [hNV];exact qswhole_any _ P q V (HPk V hV) hlen hvl (hE.fr hV hB.1 (fun k hk => by rcases hk with rfl | rfl; exact hB.2.1; exact hB.2.2)).env
 obtain ⟨NN, hNN⟩ : ∃ NN, NN = txP14 P kName x.name := ⟨_, rfl⟩;rw [← hNN] at hQ;have HTX : Hid (∀ V, Fr (fun k => k = rb ∨ k = xb) w V → Calls Tryz.prog 86 #[.agg #[.slice a P.length c, .int .i64 (q : Nat)], .string ⟨#[71, 78, 85, 46, 115, 112, 97, 114, 115, 101, 46, 110, 97, 109, 101]⟩, .string x.name] V fun e w' => e = .returned (.string NN) ∧ Nw V w') := fun V hV => by
  rw [hNN, ← kname_str]; exact qstext_any _ P q kName x.name V (HPk V hV) hlen
 obtain ⟨d, hd⟩ : ∃ d, d = fd b (q + 512) x.held := ⟨_, rfl⟩;rw [← hd] at hQ;have hdl : q + 512 + x.held + padN x.held ≤ b.length → d.length = x.held := fun hk => by rw [hd]; exact fd_length _ _ _ (by omega)
 have hbl := hr.bl;obtain ⟨hb, hhb⟩ : ∃ hb, w.heap.size = hb := ⟨_, rfl⟩;obtain ⟨sb, hsb⟩ : ∃ sb, w.heap.size + 1 = sb := ⟨_, rfl⟩;have HNB : Hid (w.heap.size = hb ∧ hb + 1 = sb ∧ w.heap.size + 1 = sb) := ⟨hhb, by omega, hsb⟩;rw [hhb] at HRG HAT;rw [hsb, hhb] at HB1;rw [← hHC];rw [hCA] at *;clear HB1' hW1 hi hr hHC hCHh hP HPk hE hvl hNV hNN;by_cases hk : q + 512 + x.held + padN x.held ≤ b.length
 ·rw [if_pos hk] at hQ;obtain ⟨pp, hpp⟩ : ∃ pp : Nat, pp = q + 512 + x.held + padN x.held := ⟨_, rfl⟩;have hdl' := hdl hk;have HHE : Hid (x.held ≤ 140737488351232) := by show _ ≤ _; omega
  have HT : Hid (∀ V, Rm Y rb va vc b (q + 512) vG G V → Calls Tryz.prog 58 #[.pointer (some ⟨rb, 0, none⟩), .int .i64 (x.held : Nat)] V fun e w' => ∃ a' c', e = .returned (.slice a' x.held c') ∧ Hid (Sl (fun k => Y k ∨ V.heap.size ≤ k) (.slice a' x.held c') d w' ∧ Rm Y rb va vc b pp vG G w' ∧ Fr (fun k => k = rb) V w')) := fun V hV => (HTK V hV).mono (fun e w' H => by
   rw [hpp, hd];rcases H with ⟨h1, _⟩ | ⟨_, a', c', h2, h3⟩
   ·omega
   ·exact ⟨a', c', h2, h3⟩)
  have HYX := tHid hy;have HQ := tHid hQ;have HPP := tHid hpp;have HDL := tHid hdl';have HNL := tHid hNL;have HK2 := tHid hk2;clear HTK hOut hk hhe hX hm hd hdl hdl' hNL hpp hQ hbl hk2 hy;go_enter Tryz.func57, Tryz.ntmps57;go_upto_region 1 with fail;rw [HW1.out, HNB.out.2.1];clear hhb hsb;go_upto_region 5 with (first
   | (refine wpList_load_mid rfl 62 _ rfl hb 0 (by first | rfl | simp [Act.eval]) CHh _ (HRG.out _ HB1.out.hd) Tryz.underlying62 rfl HCHI.out ?_)
   | (go_at_call 91; (with_reducible refine (HOLD.out _).mono ?_); rintro e w2 ⟨rfl, K2⟩))
  have B2 := tHid (HB1.out.nw K2);clear K2 HOLD;obtain ⟨c1, f1⟩ := B2.out.c 16 (.int .i64 (0 : Nat)) rfl;have c2 : w2.cell? ⟨rb, 1, none⟩ = some (.int .i64 ((q + 512 : Nat) : Int)) := B2.out.s.2.2;obtain ⟨D, hD⟩ : ∃ D : Nat, D = q + 512 := ⟨_, rfl⟩;rw [← hD] at c2;obtain ⟨W3, hW3⟩ : ∃ W3, w2.setCell ⟨xb, 16, none⟩ (.int .i64 (D : Nat)) = W3 := ⟨_, rfl⟩;have B3 : Hid (Bod Y rb va vc b vG G w xb hb sb HC (.slice a P.length c) q (q + 512) (icC x 0 fr q D 0 (.slice none 0 0) (.slice a P.length c)) W3) := by
   rw [← hW3];exact B2.out.st 16 (.int .i64 (D : Nat))
  skip
  have HD := tHid hD;clear hD;go_upto_region 6 with fail
  (try rw [hW3])
  clear hW3 B2 c1 f1 c2;obtain ⟨c3, f3⟩ := B3.out.c 18 (.int .i64 (x.held : Nat)) rfl
  go_wp2_with fail
  go_at_call 58
  with_reducible refine (HT.out _ B3.out.rm).mono ?_
  rintro e w4 ⟨a', c', rfl, K4⟩;have B4 := tHid (B3.out.rd K4.out.2.2 K4.out.2.1);have DT := tHid K4.out.1;have Z4 := tHid (Fr.size K4.out.2.2);clear K4 c3 f3 B3 HT
  have KEY : Hid (∀ U, Bod Y rb va vc b vG G w xb hb sb HC (.slice a P.length c) q (pp) (icC x 0 fr q D 0 (.slice none 0 0) (.slice a P.length c)) U → U.cell? ⟨sb, 0, none⟩ = some (.slice a P.length c) ∧ U.cell? ⟨sb, 1, none⟩ = some (.int .i64 (q : Nat)) ∧ U.cell? ⟨xb, 1, none⟩ = some (.int .i64 (x.kind : Nat)) ∧ Hid (Bod Y rb va vc b vG G w xb hb sb HC (.slice a P.length c) q (pp) (icC x 0 fr q D 0 (.slice none 0 0) (.slice a P.length c)) U)) := fun U hU => ⟨hU.s.1, hU.s.2.1, (hU.c 1 (.int .i64 (x.kind : Nat)) rfl).1, hU⟩
  have B4d := tHid (B4.out.nw (Fr.refl _ _).drew);have Z4d : Hid (W3.heap.size ≤ w4.drew.heap.size) := Z4.out;go_upto_region 7 with fail
  go_region_held3 (fun U => U.cell? ⟨sb, 0, none⟩ = some (.slice a P.length c) ∧ U.cell? ⟨sb, 1, none⟩ = some (.int .i64 (q : Nat)) ∧ U.cell? ⟨xb, 1, none⟩ = some (.int .i64 (x.kind : Nat)) ∧ Hid (Bod Y rb va vc b vG G w xb hb sb HC (.slice a P.length c) q (pp) (icC x 0 fr q D 0 (.slice none 0 0) (.slice a P.length c)) U))
   (first | exact KEY.out _ B5.out | exact KEY.out _ B4d.out | exact KEY.out _ B4.out)
   (first
    | (go_at_call 93; (with_reducible refine (HHM.out _ B4d.out.fr).mono ?_); rintro e w5 ⟨rfl, K5⟩; have B5 := tHid (B4d.out.nw K5); have DT5 := tHid (DT.out.nw ((Fr.refl _ _).drew.trans K5)); have Z5 := tHid (Nat.le_trans Z4d.out (Fr.size K5)))
    | (go_at_call 93; (with_reducible refine (HHM.out _ B4.out.fr).mono ?_); rintro e w5 ⟨rfl, K5⟩; have B5 := tHid (B4.out.nw K5); have DT5 := tHid (DT.out.nw K5); have Z5 := tHid (Nat.le_trans Z4.out (Fr.size K5))))
  clear KEY B4 B4d DT HHM;obtain ⟨c4, f4⟩ := B5.out.c 19 (.bool x.sparse) rfl;obtain ⟨w6, hW6⟩ : ∃ w6, w5.setCell ⟨xb, 19, none⟩ (.bool true) = w6 := ⟨_, rfl⟩;have B6 : Hid (Bod Y rb va vc b vG G w xb hb sb HC (.slice a P.length c) q (pp) (icC { x with sparse := true } 0 fr q D 0 (.slice none 0 0) (.slice a P.length c)) w6) := by
   rw [← hW6];exact B5.out.st 19 (.bool true)
  have f6 : Fr (fun k => k = xb) w5 w6 := by rw [← hW6]; exact (Fr.refl _ _).setCell _ _ (.inl rfl)
  have DT6 := tHid (DT5.out.kept f6 (fun k hk => .inl (by rw [hk]; exact HYX.out)));have Z6 := tHid (Nat.le_trans Z5.out (Fr.size f6));go_upto_region 11 with fail
  (try rw [hW6])
  clear hW6 c4 f4;clear f6 DT5 B5;obtain ⟨s6, t6, _⟩ := B6.out.s
  go_wp2_with fail
  go_at_call 94
  with_reducible refine (HWS.out _ B6.out.fr).mono ?_
  rintro e w7 (⟨hn0, rfl, K7⟩ | ⟨hn0, rfl, K7⟩)
  ·have HZ : Q (gvR (q : Nat) (NV.2 : Nat)) w7 := by
    rw [HQ.out, if_pos hn0];exact ⟨by rw [Nat.add_zero], (B6.out.nw K7).fr, (B6.out.nw K7).rm.alv⟩
   have HZ' := tHid HZ;clear HZ
   go_wp2_with fail
   exact ⟨rfl, HZ'.out⟩
  have B7 := tHid (B6.out.nw K7);have DT7 := tHid (DT6.out.nw K7);have HN0 := tHid hn0;have hOld : Old w7 (.slice a' x.held c') d := DT7.out.mono (fun k hk => .inr (Nat.le_trans (Nat.le_trans Z6.out (Fr.size K7)) hk));have HMA := tHid (qmapAhead_any w7 a' x.held c' d hOld HHE.out D);obtain ⟨c16, _⟩ := B7.out.c 16 (.int .i64 (D : Nat)) rfl;clear hOld DT6 DT7 K7 B6 s6 t6
  go_wp2_with fail
  go_at_call 95
  with_reducible refine HMA.out.mono ?_
  rintro e w8 (⟨hr0, rfl, K8⟩ | ⟨hr0, a1, m1, c1', a2, c2', rfl, K8⟩)
  ·have HZ : Q (gvR (D : Nat) ((rdT d).2.2 : Nat)) w8 := by
    rw [HQ.out, if_neg (fun hne => hne HN0.out), if_pos hr0];exact ⟨by rw [HD.out], (B7.out.nw K8).fr, (B7.out.nw K8).rm.alv⟩
   have HZ' := tHid HZ;clear HZ
   go_wp2_with fail
   exact ⟨rfl, HZ'.out⟩
  have B8 := tHid (B7.out.nw K8.out.1);obtain ⟨LM, hLM⟩ : ∃ LM, LM = rgL (rdT d).1 := ⟨_, rfl⟩;obtain ⟨DL, hDL⟩ : ∃ DL, DL = (d.drop (rdT d).2.1).length := ⟨_, rfl⟩;obtain ⟨WH, hWH⟩ : ∃ WH : Int, WH = (NV.1 : Nat) := ⟨_, rfl⟩;have MP8' : MpN w (.slice a1 m1 c1') (rgL (rdT d).1) w8 := MpN.new K8.out.2 (Fr.size B7.out.fr);have MP8 := tHid MP8';rw [← hLM] at MP8;have HWL : Hid (WH ≤ 9223372036854775807) := by show WH ≤ _; rw [hWH]; exact Int.ofNat_le.2 HNL.out
  have HOK : Hid (∀ V, vld LM WH = true → hld LM = (DL : Int) → Bod Y rb va vc b vG G w xb hb sb HC (.slice a P.length c) q pp (icC { x with sparse := true, name := NN } 0 fr q D 0 (.slice a1 m1 c1') (.slice a P.length c)) V → MpN w (.slice a1 m1 c1') LM V → Q (.returned (.int .i64 WH)) V) := fun V h1 h2 hV hM => by
   rw [HQ.out, if_neg (fun hne => hne HN0.out), if_neg (fun hne => hne hr0), ← hLM, ← hDL, ← hWH, if_pos ⟨h1, h2⟩];have e1 : q + (512 + x.held + padN x.held) = pp := by rw [HPP.out]; omega
   have e2 : D = q + 512 := HD.out;refine ⟨.slice a1 m1 c1', WH, rfl, fun _ => rfl, fun h3 => absurd HK2.out h3, hV.fr, ?_, ?_, hM⟩
   ·rw [e1]; exact hV.rm
   ·have := hV.it;rw [e2] at this;exact this
  have HERR : Hid (¬ (vld LM WH = true ∧ hld LM = (DL : Int)) → ∀ V, Fr (fun k => k = rb ∨ k = xb) w V → Alv rb va vc b vG V → Q (gvR (q : Nat) 161) V) := fun h1 V hV hA => by
   rw [HQ.out, if_neg (fun hne => hne HN0.out), if_neg (fun hne => hne hr0), ← hLM, ← hDL, ← hWH, if_neg h1];exact ⟨by rw [Nat.add_zero]; rfl, hV, hA⟩
  rw [← hDL, ← hWH];clear hLM hDL hWH MP8' K8 hr0 hn0 HMA c16 HQ;obtain ⟨c20, f20⟩ := B8.out.c 20 (.slice none 0 0) rfl;obtain ⟨W9, hW9⟩ : ∃ W9, w8.setCell ⟨xb, 20, none⟩ (.slice a1 m1 c1') = W9 := ⟨_, rfl⟩;have B9 : Hid (Bod Y rb va vc b vG G w xb hb sb HC (.slice a P.length c) q pp (icC { x with sparse := true } 0 fr q D 0 (.slice a1 m1 c1') (.slice a P.length c)) W9) := by
   rw [← hW9];exact B8.out.st 20 (.slice a1 m1 c1')
  have MP9 : Hid (MpN w (.slice a1 m1 c1') LM W9) := by
   rw [← hW9];exact MP8.out.kept ((Fr.refl _ _).setCell _ _ (.inl rfl) : Fr (fun k => k = xb) w8 _) (fun k hk => HLT.out k (.inr hk))
  go_upto_region 13 with fail
  (try rw [hW9])
  clear hW9 c20 f20 MP8 B8;have B9d := tHid (B9.out.nw (Fr.refl _ _).drew);refine wp_region_held_drew (S := (fun U => U.cell? ⟨sb, 0, none⟩ = some (.slice a P.length c) ∧ U.cell? ⟨sb, 1, none⟩ = some (.int .i64 (q : Nat)))) (by kernel_rfl) ⟨B9d.out.s.1, B9d.out.s.2.1⟩ (fun hHeld => ?_);refine tkH (i := 0) (oi := ⟨some 73, .move (.tmp 1), 126, "holes.go:30", #[], none⟩) (v := ?_) rfl ?_ ?_;rotate_left
  ·intro U hSw; obtain ⟨s0, s1⟩ := hSw; (go_simp <;> with_reducible rfl)
  try simp only [Act.put, nz1, nz2, nz3]
  refine tkH (i := 1) (oi := ⟨some 74, .load 121 (.tmp 8), 121, "holes.go:30", #[], none⟩) (v := ?_) rfl ?_ ?_;rotate_left
  ·intro U hSw; obtain ⟨s0, s1⟩ := hSw; (go_simp <;> with_reducible rfl)
  try simp only [Act.put, nz1, nz2, nz3]
  refine tkH (i := 2) (oi := ⟨some 75, .move (.tmp 1), 126, "holes.go:30", #[], none⟩) (v := ?_) rfl ?_ ?_;rotate_left
  ·intro U hSw; obtain ⟨s0, s1⟩ := hSw; (go_simp <;> with_reducible rfl)
  try simp only [Act.put, nz1, nz2, nz3]
  refine tkH (i := 3) (oi := ⟨some 76, .nilCheck (.tmp 75), 0, "holes.go:30", #[⟨2, .data⟩], none⟩) (v := ?_) rfl ?_ ?_;rotate_left
  ·intro U hSw; obtain ⟨s0, s1⟩ := hSw; (go_simp <;> with_reducible rfl)
  try simp only [Act.put, nz1, nz2, nz3]
  refine tkH (i := 4) (oi := ⟨some 77, .fieldAddr 36 (.tmp 76) 0, 0, "holes.go:30", #[⟨3, .data⟩], none⟩) (v := ?_) rfl ?_ ?_;rotate_left
  ·intro U hSw; obtain ⟨s0, s1⟩ := hSw; (go_simp <;> with_reducible rfl)
  try simp only [Act.put, nz1, nz2, nz3]
  refine tkH (i := 5) (oi := ⟨some 78, .fieldAddr 32 (.tmp 77) 0, 0, "holes.go:30", #[⟨4, .data⟩], none⟩) (v := ?_) rfl ?_ ?_;rotate_left
  ·intro U hSw; obtain ⟨s0, s1⟩ := hSw; (go_simp <;> with_reducible rfl)
  try simp only [Act.put, nz1, nz2, nz3]
  obtain ⟨n0, _⟩ := B9d.out.c 0 (.string x.name) rfl;refine wpAnyH_ready (rs := [6]) (by kernel_rfl) (by simp) ?_;refine AllReadyH.cons (o := ⟨some 79, .load 9 (.tmp 78), 9, "holes.go:30", #[⟨5, .data⟩], none⟩) rfl (fun K hK => ?_) AllReadyH.nil;rw [if_pos (by rfl)];go_simp;refine hK.out _ _ ⟨B9d.out.s.1, B9d.out.s.2.1⟩ (fun _ => ?_);clear hK K;try simp only [Act.put, nz1, nz2, nz3]
  refine wpAnyH_ready (rs := [7]) (by kernel_rfl) (by simp) ?_;refine AllReadyH.cons (o := ⟨some 80, .call ⟨.value (.func 86), #[.tmp 74, .const (Value.string { data := #[71, 78, 85, 46, 115, 112, 97, 114, 115, 101, 46, 110, 97, 109, 101] }), .tmp 79], #[121, 9, 9]⟩, 9, "holes.go:30", #[⟨1, .data⟩, ⟨6, .data⟩], none⟩) rfl (fun K hK => ?_) AllReadyH.nil;go_simp;go_at_call 86; (with_reducible refine (HTX.out _ B9d.out.fr).mono ?_); rintro e w9 ⟨rfl, K9⟩
  (try go_wp2_with fail)
  have Be := tHid (B9d.out.nw K9);have MPe := tHid (MP9.out.nw ((Fr.refl _ _).drew.trans K9));refine hK.out _ _ ⟨Be.out.s.1, Be.out.s.2.1⟩ (fun _ => ?_);clear hK K;try simp only [Act.put, nz1, nz2, nz3]
  refine tkH (i := 8) (oi := ⟨some 81, .nilCheck (.tmp 73), 0, "holes.go:30", #[⟨0, .data⟩, ⟨0, .phase⟩, ⟨1, .phase⟩, ⟨2, .phase⟩, ⟨3, .phase⟩, ⟨4, .phase⟩, ⟨5, .phase⟩, ⟨6, .phase⟩, ⟨7, .phase⟩], none⟩) (v := ?_) rfl ?_ ?_;rotate_left
  ·intro U hSw; obtain ⟨s0, s1⟩ := hSw; (go_simp <;> with_reducible rfl)
  try simp only [Act.put, nz1, nz2, nz3]
  refine tkH (i := 9) (oi := ⟨some 82, .fieldAddr 36 (.tmp 81) 0, 0, "holes.go:30", #[⟨8, .data⟩, ⟨0, .phase⟩, ⟨1, .phase⟩, ⟨2, .phase⟩, ⟨3, .phase⟩, ⟨4, .phase⟩, ⟨5, .phase⟩, ⟨6, .phase⟩, ⟨7, .phase⟩], none⟩) (v := ?_) rfl ?_ ?_;rotate_left
  ·intro U hSw; obtain ⟨s0, s1⟩ := hSw; (go_simp <;> with_reducible rfl)
  try simp only [Act.put, nz1, nz2, nz3]
  refine tkH (i := 10) (oi := ⟨some 83, .fieldAddr 32 (.tmp 82) 0, 0, "holes.go:30", #[⟨9, .data⟩, ⟨0, .phase⟩, ⟨1, .phase⟩, ⟨2, .phase⟩, ⟨3, .phase⟩, ⟨4, .phase⟩, ⟨5, .phase⟩, ⟨6, .phase⟩, ⟨7, .phase⟩], none⟩) (v := ?_) rfl ?_ ?_;rotate_left
  ·intro U hSw; obtain ⟨s0, s1⟩ := hSw; (go_simp <;> with_reducible rfl)
  try simp only [Act.put, nz1, nz2, nz3]
  obtain ⟨cn, fn⟩ := Be.out.c 0 (.string x.name) rfl;refine wpAnyH_ready (rs := [11]) (by kernel_rfl) (by simp) ?_;refine AllReadyH.cons (o := ⟨none, .store 9 (.tmp 83) (.tmp 80), 0, "holes.go:30", #[⟨10, .data⟩, ⟨7, .data⟩, ⟨7, .chain⟩, ⟨0, .phase⟩, ⟨1, .phase⟩, ⟨2, .phase⟩, ⟨3, .phase⟩, ⟨4, .phase⟩, ⟨5, .phase⟩, ⟨6, .phase⟩, ⟨7, .phase⟩], none⟩) rfl (fun K hK => ?_) AllReadyH.nil;rw [if_pos (by rfl)];go_simp;obtain ⟨W10, hW10⟩ : ∃ W10, w9.setCell ⟨xb, 0, none⟩ (.string NN) = W10 := ⟨_, rfl⟩
  have B10 : Hid (Bod Y rb va vc b vG G w xb hb sb HC (.slice a P.length c) q pp (icC { x with sparse := true, name := NN } 0 fr q D 0 (.slice a1 m1 c1') (.slice a P.length c)) W10) := by rw [← hW10]; exact Be.out.st 0 (.string NN)
  have MP10 : Hid (MpN w (.slice a1 m1 c1') LM W10) := by rw [← hW10]; exact MPe.out.kept ((Fr.refl _ _).setCell _ _ (.inl rfl) : Fr (fun k => k = xb) w9 _) (fun k hk => HLT.out k (.inr hk))
  (try rw [hW10])
  refine hK.out _ _ ⟨B10.out.s.1, B10.out.s.2.1⟩ (fun _ => ?_);clear hK K;refine wpAnyH_done (by kernel_rfl) ?_ _;clear hW10 cn fn Be MPe n0 B9d B9 MP9 K9;obtain ⟨c20, _⟩ := B10.out.c 20 (.slice a1 m1 c1') rfl;obtain ⟨XM, hXM⟩ := MP10.out.slr;have HVA := tHid (valid_any W10 a1 m1 c1' LM hXM WH);clear hXM;by_cases hv : vld LM WH = true
  ·rw [hv] at HVA;go_upto_region 14 with fail
   go_wp2_with (first | (go_at_call 22; (with_reducible refine HVA.out.mono ?_); rintro e wa ⟨rfl, Ka⟩; have Ba := tHid (B10.out.nw Ka); have Ma := tHid (MP10.out.nw Ka); obtain ⟨ca, _⟩ := Ba.out.c 20 (.slice a1 m1 c1') rfl; obtain ⟨XA, hXA⟩ := Ma.out.slr; have HBY := tHid (qbytesOf_any wa a1 m1 c1' LM hXA WH ⟨(vld_of hv).1, HWL.out⟩ (vld_of hv).2); clear hXA))
   by_cases hl : hld LM = (DL : Int)
   ·have hd : (hld LM != (DL : Int)) = false := by rw [hl]; simp
    have HL := tHid hl;clear hl;generalize hld LM = HH at *
    go_wp2_with (first | (go_at_call 23; (with_reducible refine HBY.out.mono ?_); rintro e wb ⟨rfl, Kb⟩; have Bb := tHid (Ba.out.nw Kb); have Mb := tHid (Ma.out.nw Kb)))
    exact HOK.out _ hv HL.out Bb.out Mb.out
   ·have hd : (hld LM != (DL : Int)) = true := by simpa using hl
    have HZ := tHid (HERR.out (fun h => hl h.2));clear hl;generalize hld LM = HH at *
    go_wp2_with (first
     | (go_at_call 23; (with_reducible refine HBY.out.mono ?_); rintro e wb ⟨rfl, Kb⟩; have Bb := tHid (Ba.out.nw Kb); have xb526 := HAT.out _ Bb.out.hd)
     | (go_at_call 39; (with_reducible refine (HGU.out _).mono ?_); rintro e wc ⟨rfl, rfl⟩))
    exact ⟨rfl, HZ.out _ Bb.out.fr Bb.out.rm.alv⟩
  ·have hv' : vld LM WH = false := by simpa using hv
   rw [hv'] at HVA;have HZ := tHid (HERR.out (fun h => hv h.1));go_upto_region 14 with fail
   go_wp2_with (first
     | (go_at_call 22; (with_reducible refine HVA.out.mono ?_); rintro e wa ⟨rfl, Ka⟩; have Ba := tHid (B10.out.nw Ka); have xa526 := HAT.out _ Ba.out.hd)
     | (go_at_call 39; (with_reducible refine (HGU.out _).mono ?_); rintro e wc ⟨rfl, rfl⟩))
   exact ⟨rfl, HZ.out _ Ba.out.fr Ba.out.rm.alv⟩
 ·rw [if_neg hk] at hQ;have HBAD : Hid (∀ V, Fr (fun k => k = rb ∨ k = xb) w V → Alv rb va vc b vG V → Q (gvR (b.length : Nat) 4) V) := fun V hV hA => by
   rw [hQ];refine ⟨?_, hV, hA⟩;have : q + (b.length - q) = b.length := by omega
   rw [this]; rfl
  have HT : Hid (∀ V, Rm Y rb va vc b (q + 512) vG G V → Calls Tryz.prog 58 #[.pointer (some ⟨rb, 0, none⟩), .int .i64 (x.held : Nat)] V fun e w' => e = gvR (b.length : Nat) 4 ∧ Nw V w') := fun V hV => (HTK V hV).mono (fun e w' H => by
   rcases H with ⟨_, h2, h3⟩ | ⟨h1, _⟩
   ·exact ⟨h2, h3⟩
   ·omega)
  clear hQ HTK hOut hk hhe hX HHM hm hd hdl;go_enter Tryz.func57, Tryz.ntmps57;go_upto_region 1 with fail;rw [HW1.out, HNB.out.2.1];clear hhb hsb;go_upto_region 5 with (first
   | (refine wpList_load_mid rfl 62 _ rfl hb 0 (by first | rfl | simp [Act.eval]) CHh _ (HRG.out _ HB1.out.hd) Tryz.underlying62 rfl HCHI.out ?_)
   | (go_at_call 91; (with_reducible refine (HOLD.out _).mono ?_); rintro e w2 ⟨rfl, K2⟩))
  have B2 := tHid (HB1.out.nw K2);clear K2 HOLD;obtain ⟨c1, f1⟩ := B2.out.c 16 (.int .i64 (0 : Nat)) rfl;have c2 : w2.cell? ⟨rb, 1, none⟩ = some (.int .i64 ((q + 512 : Nat) : Int)) := B2.out.s.2.2;obtain ⟨D, hD⟩ : ∃ D : Nat, D = q + 512 := ⟨_, rfl⟩;rw [← hD] at c2;obtain ⟨W3, hW3⟩ : ∃ W3, w2.setCell ⟨xb, 16, none⟩ (.int .i64 (D : Nat)) = W3 := ⟨_, rfl⟩;have B3 : Hid (Bod Y rb va vc b vG G w xb hb sb HC (.slice a P.length c) q (q + 512) (icC x 0 fr q D 0 (.slice none 0 0) (.slice a P.length c)) W3) := by
   rw [← hW3];exact B2.out.st 16 (.int .i64 (D : Nat))
  skip
  have HD := tHid hD;clear hD;go_upto_region 6 with fail
  (try rw [hW3])
  clear hW3 B2 c1 f1 c2;obtain ⟨c3, f3⟩ := B3.out.c 18 (.int .i64 (x.held : Nat)) rfl
  go_wp2_with fail
  go_at_call 58
  with_reducible refine (HT.out _ B3.out.rm).mono ?_
  rintro e w4 ⟨rfl, K4⟩
  go_wp2_with fail
  exact ⟨rfl, HBAD.out _ (B3.out.nw K4).fr (B3.out.nw K4).rm.alv⟩
end Go.Proofs.YtlenihpbhlfcoaaGreatDoor

import Derived.Test.YtlenihpbhlfcoaaGreatDoorUbe
set_option maxHeartbeats 8000000
set_option maxRecDepth 100000
set_option linter.unusedSimpArgs false
set_option linter.unusedVariables false
namespace Go.Proofs.YtlenihpbhlfcoaaGreatDoor
open Go.RowKit
def ZrA (w : World) (Tb : Nat) (a : Option Addr) (n c : Nat) (r : Nat × Nat) (e : Ending) (V : World) : Prop := e = .returned (.int .i64 (r.2 : Int)) ∧ Hid (Fr (fun k => k = Tb) w V ∧ (r.2 = 0 → TX Tb a n c r.1 V))
theorem zeros_any (w : World) (Tb : Nat) (a : Option Addr) (n c P : Nat) (b : List By) (hb : Sl (fun k => k = Tb) (.slice a n c) b w) (hn : n ≤ 140737488351232) (hP : P ≤ n) (hT : TX Tb a n c P w) :
  Calls Tryz.prog 151 #[.pointer (some ⟨Tb, 0, none⟩)] w (ZrA w Tb a n c (zrF b (padN P) P)) := by
 refine asP fun Q hQ => ?_
 obtain ⟨hbn, k1, k2⟩ := slx_len hb;have HFin : Hid (∀ V p (e : Nat), zrF b (padN P) P = (p, e) → Fr (fun k => k = Tb) w V → (e = 0 → TX Tb a n c p V) → Q (.returned (.int .i64 (e : Int))) V) := fun V p e h1 h2 h3 => by
  rw [hQ, h1]; exact ⟨rfl, h2, h3⟩
 have HCB : Hid (∀ V, Fr (fun k => k = Tb) w V → ∀ i (h : i < b.length), ∃ g o, a = some ⟨g, o, none⟩ ∧ V.cell? ⟨g, o + i, none⟩ = some (.int .u8 b[i].toNat)) := fun V hV i h => slx_at (hb.kept hV (fun g h => h)) i h
 have HT := tHid hT;have HBN := tHid hbn;clear hQ hb hT hbn;go_enter Tryz.func151, Tryz.ntmps151;go_upto_region 1 with fail;go_loopg [] 512 (fun kx wr => ∃ p : Nat, p ≤ n ∧ padN p ≤ kx ∧ Hid (Fr (fun k => k = Tb) w wr ∧ TX Tb a n c p wr ∧ zrF b (padN P) P = zrF b (padN p) p))
 case atStart => exact ⟨P, hP, by have := padN_lt P; omega, Fr.refl _ _, HT.out, rfl⟩
 case round =>
  obtain ⟨p, hp, hkx, HI⟩ := hrel;obtain ⟨hF, hTx, hZ⟩ := HI.out;obtain ⟨t0, t1, t2⟩ := hTx.cells;have hrem := rem512 p;by_cases hz : p % 512 = 0
  ·rw [padN_zero hz, zrF] at hZ;rw [hz] at hrem;have hrem2 : (p : Int) % 512 = 0 := by omega
   have HQ := tHid (HFin.out wr p 0 hZ hF (fun _ => hTx));clear HFin HCB HI hF hTx hZ HT
   go_wp2_with fail
   first | exact HQ.out | (go_ret; exact HQ.out)
  ·have hps := padN_succ hz;rw [hps, zrF] at hZ;obtain ⟨R, hR⟩ : ∃ R, p % 512 = R := ⟨_, rfl⟩;rw [hR] at hrem hz;have hrem2 : (p : Int) % 512 = (R : Int) := by omega
   have hRz : ¬ ((R : Int) = 0) := by omega
   by_cases hpe : p = n
   ·rw [if_pos (by rw [HBN.out]; omega)] at hZ;have HQ : Hid (∀ V, Nw wr V → Q (.returned (.int .i64 4)) V) := fun V hV => HFin.out V 0 4 hZ (hF.trans hV.any) (fun h => by cases h)
    subst hpe;clear HFin HCB HI hF hTx hZ HT hR;go_upto_region 3 with fail
    go_quiet (fail)
    go_wp2_with fail
    first | exact HQ.out _ ((Fr.refl _ _).drewN _) | (go_ret; exact HQ.out _ ((Fr.refl _ _).drewN _))
   ·rw [if_neg (by rw [HBN.out]; omega)] at hZ;have hpb : p < b.length := by rw [HBN.out]; omega
    obtain ⟨g, o, rfl, hcell⟩ := HCB.out wr hF p hpb;have hne : ¬ ((p : Int) = (n : Int)) := by omega
    have hneb : ((p : Int) == (n : Int)) = false := by rw [beq_eq_false_iff_ne]; exact hne
    have hpi : (p : Int) < (n : Int) := by omega
    have hnc : (n : Int) ≤ (c : Int) := by omega
    rw [List.getElem?_eq_getElem hpb] at hZ;by_cases hx : b[p] = 0#8
    ·rw [if_pos (by rw [hx])] at hZ;rw [hx] at hcell;simp only [BitVec.toNat_ofNat, Nat.zero_mod, Int.natCast_zero] at hcell;obtain ⟨p1, hp1⟩ : ∃ p1, p + 1 = p1 := ⟨_, rfl⟩;rw [hp1] at hps hZ;have hp1i : (p : Int) + 1 = (p1 : Int) := by omega
     have HNX : Hid (∀ V, Nw wr V → Hid (Fr (fun k => k = Tb) w (V.setCell ⟨Tb, 1, none⟩ (.int .i64 (p1 : Int))) ∧ TX Tb (some ⟨g, o, none⟩) n c p1 (V.setCell ⟨Tb, 1, none⟩ (.int .i64 (p1 : Int))) ∧ zrF b (padN P) P = zrF b (padN p1) p1)) := fun V hV => by
      obtain ⟨q1, q2⟩ := (hTx.kept hV (fun h => h)).set p1;exact ⟨(hF.trans hV.any).trans q2, q1, hZ⟩
     have hpd : padN p1 < padN p := by omega
     clear HFin HCB HI hF hTx hZ HT hR hx;go_upto_region 3 with fail
     go_quiet (fail)
     go_upto_region 5 with fail
     go_quiet (fail)
     go_upto_region 2 with fail
     go_wp2_with fail
     go_roundg (padN p1)
     case measure => omega
     case rel => exact ⟨p1, by omega, Nat.le_refl _, HNX.out _ ((Fr.refl _ _).drewN _)⟩
    ·rw [if_neg (fun h => by injection h with h; exact hx h)] at hZ;have hxi := by_ne hx;have hxb : (((b[p]'hpb).toNat : Int) != 0) = true := by rw [bne, beq_eq_false_iff_ne.2 hxi]; rfl
     have HQ : Hid (∀ V, Nw wr V → Q (.returned (.int .i64 3)) V) := fun V hV => HFin.out V 0 3 hZ (hF.trans hV.any) (fun h => by cases h)
     clear HFin HCB HI hF hTx hZ HT hR hx;generalize (b[p]'hpb).toNat = y at *;go_upto_region 3 with fail
     go_quiet (fail)
     go_upto_region 5 with fail
     go_quiet (fail)
     go_wp2_with fail
     first | exact HQ.out _ ((Fr.refl _ _).drewN _) | exact HQ.out _ (((Fr.refl _ _).drewN _).drewN _) | (go_ret; exact HQ.out _ ((Fr.refl _ _).drewN _)) | (go_ret; exact HQ.out _ (((Fr.refl _ _).drewN _).drewN _))
def RdA (w : World) (b : List By) (e : Ending) (V : World) : Prop := ∃ a' m' c', e = .returned (.tuple #[.slice a' m' c', .int .i64 ((rdT b).2.1 : Int), .int .i64 ((rdT b).2.2 : Int)]) ∧ Hid (Nw w V ∧ NewG w (.slice a' m' c') (rgL (rdT b).1) V)
theorem rsT_bound (b : List By) (h : (rsT b).2.2 = 0) : (rsT b).2.1 ≤ b.length := by
 unfold rsT at h ⊢;simp only at h ⊢;by_cases h1 : (nr 0 0 b).2.2 ≠ 0
 ·rw [if_pos h1] at h; exact absurd h h1
 ·rw [if_neg h1] at h ⊢;by_cases h2 : 65536 < (nr 0 0 b).1
  ·rw [if_pos h2] at h; cases h
  ·rw [if_neg h2] at h ⊢;have hi := num_inv b _ _ (Prod.ext rfl (Prod.ext rfl (Classical.not_not.1 h1)));obtain ⟨l, _, _, _, _, h5, _⟩ := rdA_inv b _ 0 _ [] _ _ hi.2.2.1 (Prod.ext rfl (Prod.ext rfl h));exact h5
theorem read_any15 (w : World) (a : Option Addr) (n c : Nat) (b : List By) (hb : Old w (.slice a n c) b) (hn : n ≤ 140737488351232) :
  Calls Tryz.prog 119 #[.slice a n c] w (RdA w b) := by
 refine asP fun Q hQ => ?_
 obtain ⟨hbn, k1, k2⟩ := slx_len hb;obtain ⟨Tb, hTb⟩ : ∃ Tb, w.heap.size = Tb := ⟨_, rfl⟩;obtain ⟨w0, hw0⟩ : ∃ w0, w.alloc (.cells #[.slice a n c, .int .i64 0] 222) = w0 := ⟨_, rfl⟩;have hN0 : Nw w w0 := by rw [← hw0]; exact (Fr.refl _ _).alloc _
 have hsz : w0.heap.size = Tb + 1 := by rw [← hw0, ← hTb]; simp
 have hT0 : TX Tb a n c 0 w0 := by unfold TX; rw [← hw0, ← hTb]; exact nHeap _ _
 have hb0 : Sl (fun k => k = Tb ∨ w0.heap.size ≤ k) (.slice a n c) b w0 := (hb.nw hN0).mono (fun g hg => by omega);have hC := rs_any w0 Tb a n c b hb0 hn hT0;unfold RsA at hC;have hrd := rdT_rs b;have HBad : Hid (∀ V (e : Nat), rdT b = ([], 0, e) → Fr (fun k => k = Tb) w0 V → Q (.returned (.tuple #[.slice none 0 0, .int .i64 0, .int .i64 (e : Int)])) V) := fun V e h1 h2 => by
  rw [hQ];unfold RdA;rw [h1];exact ⟨none, 0, 0, rfl, hN0.then h2 (fun i hi => .inr (by omega)), none, ⟨rfl, rfl⟩, fun g h => by cases h⟩
 have HOk : Hid (∀ V L p a' m' c', rdT b = (L, p, 0) → Fr (fun k => k = Tb) w0 V → NewG w0 (.slice a' m' c') (rgL L) V → Q (.returned (.tuple #[.slice a' m' c', .int .i64 (p : Int), .int .i64 0])) V) := fun V L p a' m' c' h1 h2 h3 => by
  rw [hQ];unfold RdA;rw [h1];obtain ⟨og, q1, q2⟩ := h3;exact ⟨a', m', c', rfl, hN0.then h2 (fun i hi => .inr (by omega)), og, q1, fun g hg => by have := q2 g hg; omega⟩
 have HZ : Hid (∀ V p, Fr (fun k => k = Tb) w0 V → TX Tb a n c p V → p ≤ n → Calls Tryz.prog 151 #[.pointer (some ⟨Tb, 0, none⟩)] V (ZrA V Tb a n c (zrF b (padN p) p))) := fun V p hV ht hp => zeros_any V Tb a n c p b ((hb0.kept hV (fun g h => .inl h)).mono (fun g h => .inl h)) hn hp ht
 have HLE : Hid ((rsT b).2.2 = 0 → (rsT b).2.1 ≤ n) := fun h => by have := rsT_bound b h; omega
 have HTB := tHid hTb;have HW0 := tHid hw0;have hTw0 : Hid (Tb < w0.heap.size) := by show _ < _; omega
 clear hQ hb hb0 hT0 hN0 hbn hTb hw0 hsz;cases hrs : rsT b with
 | mk L r' =>
 obtain ⟨p, e1⟩ := r';rw [hrs] at hC hrd HLE;simp only at hC hrd HLE;have HC := tHid hC;by_cases he1 : e1 = 0
 ·subst he1;rw [if_neg (by simp)] at hrd;have hpn := HLE.out rfl;cases hzr : zrF b (padN p) p with
  | mk p2 e2 =>
  rw [hzr] at hrd;simp only at hrd;have HZ2 : Hid (∀ V, Fr (fun k => k = Tb) w0 V → TX Tb a n c p V → Calls Tryz.prog 151 #[.pointer (some ⟨Tb, 0, none⟩)] V fun e V' => e = .returned (.int .i64 (e2 : Int)) ∧ Hid (Fr (fun k => k = Tb) V V' ∧ (e2 = 0 → TX Tb a n c p2 V'))) := fun V hV ht => by
   have := HZ.out V p hV ht hpn;unfold ZrA at this;rw [hzr] at this;exact this
  by_cases he2 : e2 = 0
  ·subst he2;rw [if_neg (by simp)] at hrd;clear HZ hC hrs hzr HBad HLE;go_enter Tryz.func119, Tryz.ntmps119;go_upto_region 2 with fail;rw [HTB.out, HW0.out];go_upto_region 7 with (first
    | (go_at_call 150; with_reducible refine HC.out.mono ?_; rintro e w1 ⟨a', m', c', rfl, H1⟩)
    | (go_at_call 151; (with_reducible refine (HZ2.out w1 H1.out.1 H1.out.2.1).mono ?_); rintro e w2 ⟨rfl, H2⟩)
    | (go_at_call 151; (with_reducible refine (HZ2.out w1 H1.out.1 (H1.out.2 trivial).1).mono ?_); rintro e w2 ⟨rfl, H2⟩))
   have h1 := H1.out.1;have h2 : NewG w0 (.slice a' m' c') (rgL L) w1 := by first | exact H1.out.2.2 | exact (H1.out.2 trivial).2
   have h3 := H2.out.1;have h4 : TX Tb a n c p2 w2 := by first | exact H2.out.2 | exact H2.out.2 trivial
   obtain ⟨t0, t1, t2⟩ := h4.cells;have hnew : NewG w0 (.slice a' m' c') (rgL L) w2 := by
    obtain ⟨og, q1, q2⟩ := h2;exact ⟨og, q1.kept h3 (fun g hg e => by have := q2 g hg; have := hTw0.out; omega), q2⟩
   have HQ : Hid (∀ V, Nw w2 V → Q (.returned (.tuple #[.slice a' m' c', .int .i64 (p2 : Int), .int .i64 0])) V) := fun V hV => HOk.out V L p2 a' m' c' hrd ((h1.trans h3).trans hV.any) (hnew.nw hV)
   clear HOk HC HZ2 H1 H2 h1 h2 h3 h4 hnew hrd
   go_quiet (fail)
   go_wp2_with fail
   first | exact HQ.out _ ((Fr.refl _ _).drewN _) | (go_ret; exact HQ.out _ ((Fr.refl _ _).drewN _))
  ·rw [if_pos he2] at hrd;have he2i : ¬ ((e2 : Int) = 0) := by omega
   clear HZ hC hrs hzr HOk HLE;go_enter Tryz.func119, Tryz.ntmps119;go_upto_region 2 with fail;rw [HTB.out, HW0.out]
   go_wp2_with (first
    | (go_at_call 150; with_reducible refine HC.out.mono ?_; rintro e w1 ⟨a', m', c', rfl, H1⟩)
    | (go_at_call 151; (with_reducible refine (HZ2.out w1 H1.out.1 H1.out.2.1).mono ?_); rintro e w2 ⟨rfl, H2⟩)
    | (go_at_call 151; (with_reducible refine (HZ2.out w1 H1.out.1 (H1.out.2 trivial).1).mono ?_); rintro e w2 ⟨rfl, H2⟩))
   first | exact HBad.out _ e2 hrd (H1.out.1.trans H2.out.1) | (go_ret; exact HBad.out _ e2 hrd (H1.out.1.trans H2.out.1))
 ·rw [if_pos he1] at hrd;have he1i : ¬ ((e1 : Int) = 0) := by omega
  clear HZ hC hrs HOk HLE;go_enter Tryz.func119, Tryz.ntmps119;go_upto_region 2 with fail;rw [HTB.out, HW0.out]
  go_wp2_with (first
   | (go_at_call 150; with_reducible refine HC.out.mono ?_; rintro e w1 ⟨a', m', c', rfl, H1⟩))
  first | exact HBad.out _ e1 hrd H1.out.1 | (go_ret; exact HBad.out _ e1 hrd H1.out.1)
theorem qbytesOf_any {X : Nat → Prop} (w : World) (a : Option Addr) (n c : Nat) (l : List Rg) (hl : SlR RG X (.slice a n c) l w) (s : Int) (hs : 0 ≤ s ∧ s ≤ 9223372036854775807) (hv : vlE s 0 l = true) :
  Calls Tryz.prog 23 #[.slice a n c] w fun e w' => e = .returned (.int .i64 (hld l)) ∧ Nw w w' := by
 refine asP fun P hP => ?_
 have HF : Hid (∀ z V, hld l = z → Nw w V → P (.returned (.int .i64 z)) V) := fun z V h1 h2 => by rw [hP, h1]; exact ⟨rfl, h2⟩
 clear hP;obtain ⟨hln, k1, k2⟩ := slg_len hl;have HI := tHid hl.inG;have HLN := tHid hln;have HP : Hid (∀ i, 0 ≤ hld (l.take i) ∧ hld (l.take i) ≤ 9223372036854775807) := fun i => by have := hld_part hv hs.1 i; omega
 have HA : Hid (∀ x ∈ l, 0 ≤ x.1 ∧ x.1 ≤ x.2 ∧ x.2 ≤ 9223372036854775807) := fun x hx => by have := vlE_all hv (Int.le_refl _) x hx; omega
 clear hl hln hv hs;go_enter Tryz.func23, Tryz.ntmps23;go_upto_region 3 with fail;go_loopg [3, 8] n (fun kx e i wr => ∃ (I : Nat) (E : Int), I ≤ n ∧ n - I ≤ kx ∧ e = .int .i64 E ∧ i = .int .i64 I ∧ Hid (Nw w wr ∧ hld (l.take I) = E))
 case atStart => exact ⟨0, 0, by omega, by omega, rfl, rfl, Fr.refl _ _, rfl⟩
 case round =>
  obtain ⟨I, E, hI, hkx, rfl, rfl, HL⟩ := hrel;obtain ⟨hN, hE⟩ := HL.out;by_cases hlt : I < n
  ·have hlt' : I < l.length := by have := HLN.out; omega
   obtain ⟨g, o, rfl, x0, x1⟩ := HI.out wr hN I hlt';have hA := HA.out l[I] (List.getElem_mem hlt');have hsn : l.take (I + 1) = l.take I ++ [l[I]] := by rw [List.take_add_one, List.getElem?_eq_getElem hlt']; rfl
   have hq := HP.out (I + 1);have hq0 := HP.out I;have HE2 : Hid (hld (l.take (I + 1)) = E + (l[I].2 - l[I].1)) := by show _ = _; rw [hsn, hld_snoc, hE]
   rw [HE2.out] at hq;rw [hE] at hq0;have HN := tHid hN;clear HF HI HL hE hN HP HA hsn;generalize l[I].1 = f at *;generalize l[I].2 = t at *;obtain ⟨q1, q2⟩ := hq;obtain ⟨q3, q4⟩ := hq0;obtain ⟨q5, q6, q7⟩ := hA
   go_wp2_with fail
   go_roundg (n - (I + 1))
   case measure => omega
   case rel => exact ⟨I + 1, _, by omega, by omega, rfl, by first | rfl | (congr 1), HN.out.alloc _, HE2.out⟩
  ·have HF2 := tHid (HF.out E wr (by rw [← hE, List.take_of_length_le (by have := HLN.out; omega)]) hN);obtain rfl : I = n := by omega
   clear HF HI HL hE hN HP HA
   go_wp2_with fail
   first | exact HF2.out | (go_ret; exact HF2.out)
theorem kmaj_str : str kMajor = ⟨#[71, 78, 85, 46, 115, 112, 97, 114, 115, 101, 46, 109, 97, 106, 111, 114]⟩ := by decide +kernel
theorem kmin_str : str kMinor = ⟨#[71, 78, 85, 46, 115, 112, 97, 114, 115, 101, 46, 109, 105, 110, 111, 114]⟩ := by decide +kernel
theorem kreal_str : str kReal = ⟨#[71, 78, 85, 46, 115, 112, 97, 114, 115, 101, 46, 114, 101, 97, 108, 115, 105, 122, 101]⟩ := by decide +kernel
theorem kname_str : str kName = ⟨#[71, 78, 85, 46, 115, 112, 97, 114, 115, 101, 46, 110, 97, 109, 101]⟩ := by decide +kernel
theorem tx_real (P : List Pr) : txP14 P kReal (str []) = str ((fndV P kReal).getD []) := by
 unfold txP14;cases fndV P kReal <;> rfl
theorem qshasMap_any {X : Nat → Prop} (vP : Value) (P : List Pr) (q k : Nat) (w : World) (hP : SlR RP X vP P w) (hlen : P.length ≤ 1000000000) : Calls Tryz.prog 93 #[.agg #[vP, .int .i64 (q : Nat)], .int .i64 (k : Nat)] w fun e w' => e = .returned (.bool (hasM k P)) ∧ Nw w w' := by
 refine asP fun Q hQ => ?_
 obtain ⟨a, c, rfl⟩ := ps_form hP;obtain ⟨W0, hW0⟩ : ∃ W0, w.alloc (.cells #[.slice a P.length c, .int .i64 (q : Nat)] 121) = W0 := ⟨_, rfl⟩;have hN0 : Nw w W0 := by rw [← hW0]; exact (Fr.refl _ _).alloc _
 have hR0 : W0.heap[w.heap.size]? = some (.cells #[.slice a P.length c, .int .i64 (q : Nat)] 121) := by rw [← hW0]; exact newHeap _ _
 have HX : Hid (∀ V, Nw W0 V → V.cell? ⟨w.heap.size, 0, none⟩ = some (.slice a P.length c) ∧ V.cell? ⟨w.heap.size, 1, none⟩ = some (.int .i64 (q : Nat))) := fun V hV => ⟨Nw.cell hV (cell_of hR0 0 _ rfl), Nw.cell hV (cell_of hR0 1 _ rfl)⟩
 obtain ⟨x0, x1⟩ := HX.out W0 (Fr.refl _ _);obtain ⟨t1, ht1⟩ : ∃ t, txP14 P kMajor (str []) = t := ⟨_, rfl⟩;obtain ⟨t2, ht2⟩ : ∃ t, txP14 P kMinor (str []) = t := ⟨_, rfl⟩;have HT1 : Hid (∀ V, Nw W0 V → Calls Tryz.prog 86 #[.agg #[.slice a P.length c, .int .i64 (q : Nat)], .string ⟨#[71, 78, 85, 46, 115, 112, 97, 114, 115, 101, 46, 109, 97, 106, 111, 114]⟩, .string ⟨#[]⟩] V fun e w' => e = .returned (.string t1) ∧ Hid (Nw V w')) := fun V hV => by
  have := qstext_any _ P q kMajor (str []) V (hP.nw (hN0.trans hV)) hlen;rw [kmaj_str, ht1] at this;exact this
 have HT2 : Hid (∀ V, Nw W0 V → Calls Tryz.prog 86 #[.agg #[.slice a P.length c, .int .i64 (q : Nat)], .string ⟨#[71, 78, 85, 46, 115, 112, 97, 114, 115, 101, 46, 109, 105, 110, 111, 114]⟩, .string ⟨#[]⟩] V fun e w' => e = .returned (.string t2) ∧ Hid (Nw V w')) := fun V hV => by
  have := qstext_any _ P q kMinor (str []) V (hP.nw (hN0.trans hV)) hlen;rw [kmin_str, ht2] at this;exact this
 have HF : Hid (∀ V r, Nw W0 V → hasM k P = r → Q (.returned (.bool r)) V) := fun V r hV hr => by rw [hQ, hr]; exact ⟨rfl, hN0.trans hV⟩
 unfold hasM at HF;rw [ht1, ht2] at HF;have e1 : (⟨#[49]⟩ : ByteArray).toList = [49] := by decide +kernel
 have e2 : (⟨#[48]⟩ : ByteArray).toList = [48] := by decide +kernel
 have f1 : str [49#8] = (⟨#[49]⟩ : ByteArray) := by decide +kernel
 have f2 : str [48#8] = (⟨#[48]⟩ : ByteArray) := by decide +kernel
 have q1 := str_beq t1 ⟨#[49]⟩;have q2 := str_beq t2 ⟨#[48]⟩;rw [e1, ← f1] at q1;rw [e2, ← f2] at q2;have HW0 := tHid hW0;have HR := tHid (Fr.refl (fun _ => False) W0);clear hQ hN0 hR0 hW0 hP ht1 ht2 e1 e2 f1 f2;generalize P.length = pn at *;by_cases h1 : k = 2
 ·rw [decide_eq_true h1] at HF;have d1 : (k : Int) = 2 := by omega
  clear h1;generalize decide (t1 = str [49#8]) = B1 at *;generalize decide (t2 = str [48#8]) = B2 at *;cases B1 with
  | false =>
   go_enter Tryz.func93, Tryz.ntmps93
   go_upto_region 1 with fail
   rw [HW0.out]
   go_wp2_with (first
    | (go_at_call 86; with_reducible refine (HT1.out _ HR.out).mono ?_; rintro e w2 ⟨rfl, K2⟩))
   exact HF.out _ _ K2.out rfl
  | true =>
   go_enter Tryz.func93, Tryz.ntmps93
   go_upto_region 1 with fail
   rw [HW0.out]
   go_wp2_with fail
   go_at_call 86
   with_reducible refine (HT1.out _ HR.out).mono ?_
   rintro e w2 ⟨rfl, K2⟩;obtain ⟨y0, y1⟩ := HX.out w2 K2.out
   go_wp2_with (first
    | (go_at_call 86; with_reducible refine (HT2.out _ K2.out).mono ?_; rintro e w3 ⟨rfl, K3⟩))
   exact HF.out _ _ (K2.out.trans K3.out) rfl
 ·rw [decide_eq_false h1] at HF;have d1 : ¬ (k : Int) = 2 := by omega
  clear h1;go_enter Tryz.func93, Tryz.ntmps93;go_upto_region 1 with fail;rw [HW0.out]
  go_wp2_with fail
  exact HF.out _ _ HR.out rfl
theorem qswhole_any {X : Nat → Prop} (vP : Value) (P : List Pr) (q : Nat) (w : World) (hP : SlR RP X vP P w) (hlen : P.length ≤ 1000000000) (hv : VlB P) (hE : Env w) : Calls Tryz.prog 94 #[.agg #[vP, .int .i64 (q : Nat)]] w (NbA (numV ((fndV P kReal).getD [])) q w) := by
 refine asP fun Q hQ => ?_
 obtain ⟨a, c, rfl⟩ := ps_form hP;obtain ⟨W0, hW0⟩ : ∃ W0, w.alloc (.cells #[.slice a P.length c, .int .i64 (q : Nat)] 121) = W0 := ⟨_, rfl⟩;have hN0 : Nw w W0 := by rw [← hW0]; exact (Fr.refl _ _).alloc _
 have hR0 : W0.heap[w.heap.size]? = some (.cells #[.slice a P.length c, .int .i64 (q : Nat)] 121) := by rw [← hW0]; exact newHeap _ _
 have HX : Hid (∀ V, Nw W0 V → V.cell? ⟨w.heap.size, 0, none⟩ = some (.slice a P.length c) ∧ V.cell? ⟨w.heap.size, 1, none⟩ = some (.int .i64 (q : Nat))) := fun V hV => ⟨Nw.cell hV (cell_of hR0 0 _ rfl), Nw.cell hV (cell_of hR0 1 _ rfl)⟩
 obtain ⟨x0, x1⟩ := HX.out W0 (Fr.refl _ _);obtain ⟨v, hv2⟩ : ∃ v, (fndV P kReal).getD [] = v := ⟨_, rfl⟩;have hvl : v.length ≤ 140737488351232 := by
  rw [← hv2];cases hf : fndV P kReal with
  | none => simp
  | some y => exact hv _ (fnd_mem hf)
 have HT1 : Hid (∀ V, Nw W0 V → Calls Tryz.prog 86 #[.agg #[.slice a P.length c, .int .i64 (q : Nat)], .string ⟨#[71, 78, 85, 46, 115, 112, 97, 114, 115, 101, 46, 114, 101, 97, 108, 115, 105, 122, 101]⟩, .string ⟨#[]⟩] V fun e w' => e = .returned (.string (str v)) ∧ Hid (Nw V w')) := fun V hV => by
  have := qstext_any _ P q kReal (str []) V (hP.nw (hN0.trans hV)) hlen;rw [kreal_str, tx_real, hv2] at this;exact this
 have HNm : Hid (∀ V, Nw W0 V → Calls Tryz.prog 85 #[.string (str v)] V fun e w' => e = .returned (.tuple #[.int .i64 ((numV v).1 : Nat), .int .i64 ((numV v).2 : Nat)]) ∧ Hid (Nw V w')) := fun V hV => num_any v hvl V (hE.nw (hN0.trans hV))
 rw [hv2] at hQ;generalize numV v = r at *;obtain ⟨r1, E⟩ := r;simp only at HNm;have HR := tHid (Fr.refl (fun _ => False) W0);have HW0 := tHid hW0;have HN0 := tHid hN0;generalize P.length = pn at *;by_cases he : E = 0
 ·subst he;have HM := tHid (qmust_ok (q : Nat));have HF : Hid (∀ V, Nw w V → Q (.returned (.int .i64 (r1 : Nat))) V) := fun V hV => by rw [hQ]; exact .inr ⟨rfl, rfl, hV⟩
  clear hQ hN0 hR0 hW0 hP hE hv hv2;go_enter Tryz.func94, Tryz.ntmps94;go_upto_region 1 with fail;rw [HW0.out];go_upto_region 2 with (first
   | (go_at_call 86; with_reducible refine (HT1.out _ HR.out).mono ?_; rintro e w2 ⟨rfl, K2⟩)
   | (go_at_call 85; with_reducible refine (HNm.out _ K2.out).mono ?_; rintro e w3 ⟨rfl, K3⟩))
  obtain ⟨y0, y1⟩ := HX.out w3 (K2.out.trans K3.out)
  go_wp2_with (first
   | (go_at_call 52; with_reducible refine (HM.out _).mono ?_; rintro e w4 ⟨rfl, rfl⟩))
  exact HF.out _ (HN0.out.trans (K2.out.trans K3.out))
 ·have hei : ¬ (E : Int) = 0 := by omega
  have HM := tHid (qmust_bad (q : Nat) (E : Nat) hei);have HF : Hid (∀ V, Nw w V → Q (gvR (q : Nat) (E : Nat)) V) := fun V hV => by rw [hQ]; exact .inl ⟨he, rfl, hV⟩
  clear hQ hN0 hR0 hW0 hP hE hv hv2 he hei;go_enter Tryz.func94, Tryz.ntmps94;go_upto_region 1 with fail;rw [HW0.out];go_upto_region 2 with (first
   | (go_at_call 86; with_reducible refine (HT1.out _ HR.out).mono ?_; rintro e w2 ⟨rfl, K2⟩)
   | (go_at_call 85; with_reducible refine (HNm.out _ K2.out).mono ?_; rintro e w3 ⟨rfl, K3⟩))
  obtain ⟨y0, y1⟩ := HX.out w3 (K2.out.trans K3.out)
  go_wp2_with (first
   | (go_at_call 52; with_reducible refine (HM.out _).mono ?_; rintro e w4 ⟨rfl, rfl⟩))
  exact ⟨rfl, HF.out _ (HN0.out.trans (K2.out.trans K3.out))⟩
end Go.Proofs.YtlenihpbhlfcoaaGreatDoor

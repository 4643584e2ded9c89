import Derived.Test.YtlenihpbhlfcoaaGreatDoorUbp
set_option maxHeartbeats 8000000
set_option maxRecDepth 100000
set_option linter.unusedSimpArgs false
set_option linter.unusedVariables false
namespace Go.Proofs.YtlenihpbhlfcoaaGreatDoor
open Go.RowKit Go.Deep
variable {rb ab : Nat} {va : Option Addr} {vc : Nat} {b : List By} {vG : Value} {G : List Pr} {og : Option Nat} {vL : Value} {A : Ah}
structure Ptx (w : World) (rb ab hb : Nat) (va : Option Addr) (vc : Nat) (b : List By) (vG : Value) (G : List Pr) (og og6 : Option Nat) (v6 : Value) (LL : List Pr) (HC AC : Array Value) (p : Nat) (V : World) : Prop where
 fr : Fr (PX rb ab og) w V
 hd : V.heap[hb]? = some (.cells HC 89)
 ar : V.heap[ab]? = some (.cells AC 85)
 rm : Rm (PY rb ab og w) rb va vc b p vG G V
 lo : OgR RP og6 v6 LL V
 ne : rb ≠ ab ∧ hb ≠ rb ∧ hb ≠ ab
 we : og6 = og ∨ ∃ g, og6 = some g ∧ w.heap.size ≤ g
section
variable {w V U : World} {hb p : Nat} {HC AC : Array Value} {og6 : Option Nat} {v6 : Value} {LL : List Pr}
theorem Ptx.nw (h : Ptx w rb ab hb va vc b vG G og og6 v6 LL HC AC p V) (k : Nw V U) : Ptx w rb ab hb va vc b vG G og og6 v6 LL HC AC p U :=
 ⟨h.fr.trans k.any, Nw.heap k h.hd, Nw.heap k h.ar, h.rm.nw k, h.lo.nw k, h.ne, h.we⟩
theorem Ptx.st (h : Ptx w rb ab hb va vc b vG G og og6 v6 LL HC AC p V) (j : Nat) (v : Value) : Ptx w rb ab hb va vc b vG G og og6 v6 LL HC (AC.setIfInBounds j v) p (V.setCell ⟨ab, j, none⟩ v) := by
 have k : Fr (fun k => k = ab) V (V.setCell ⟨ab, j, none⟩ v) := (Fr.refl _ _).setCell _ _ (.inl rfl);exact ⟨h.fr.trans (k.mono (fun i hi => .inl (.inr (.inl hi)))), cell_kept k h.hd h.ne.2.2, row_setN h.ar j v, h.rm.keep k h.ne.1 (fun i hi => .inr (.inl hi)), h.lo.kept k (fun g hg e => og_type h.lo (by decide) h.ar g hg e), h.ne, h.we⟩
theorem Ptx.ry (h : Ptx w rb ab hb va vc b vG G og og6 v6 LL HC AC p V) : Rm (PY rb ab og6 V) rb va vc b p vG G V := by
 have hm : ∀ g, PY rb ab og6 V g → PY rb ab og w g := fun g hg => by
  have := geP h.fr;rcases hg with hg | hg | hg | hg
  ·exact .inl hg
  ·exact .inr (.inl hg)
  ·rcases h.we with e | ⟨g', e, e2⟩
   ·exact .inr (.inr (.inl (by rw [← e]; exact hg)))
   ·rw [e] at hg;injection hg with hg;exact .inr (.inr (.inr (by omega)))
  ·exact .inr (.inr (.inr (by omega)))
 exact ⟨h.rm.row, h.rm.sl.mono hm, h.rm.gl.mono hm, .inl rfl, h.rm.pl, h.rm.bl⟩
theorem ptx_app (h : Ptt w rb ab hb va vc b vG G og vL A HC AC p V) (x : Value) (l : List Pr) (hx : ∃ X, SlR RP X x l V) (h1 : A.loc.length ≤ 1024) (h2 : l.length ≤ 1048576) :
  ∃ a6 c6 og6 W, (∀ ty, (Builtin.append_ #[34, 34] ty #[vL, x]).run Tryz.prog V = .ok (.slice a6 (A.loc ++ l).length c6) W) ∧ Ptx w rb ab hb va vc b vG G og og6 (.slice a6 (A.loc ++ l).length c6) (A.loc ++ l) HC AC p W := by
 obtain ⟨X, hX⟩ := hx;obtain ⟨v6, og6, W6, HA6, o6, f6, went6⟩ := ogR_app rpOk V og vL A.loc h.lo x l (hX.mono (fun _ h => h.elim)) (by simp only [RP]; omega) (by omega);obtain ⟨a6, c6, rfl, _, _⟩ := o6.form;refine ⟨a6, c6, og6, W6, HA6, h.fr.trans (f6.mono (fun i hi => .inl (.inr (.inr hi)))), cell_kept f6 h.hd (fun e => og_type h.lo (by decide) h.hd _ e rfl), cell_kept f6 h.ar (fun e => og_type h.lo (by decide) h.ar _ e rfl), h.rm.keep f6 (fun e => (h.op _ e).1 rfl) (fun i hi => .inr (.inr (.inl hi))), o6, h.ne, ?_⟩;rcases went6 with e | ⟨g, e, e2⟩
 ·exact .inl e
 ·exact .inr ⟨g, e, by have := geP h.fr; omega⟩
end
theorem qpass_x_parse (w : World) (q : Nat) (hq : q + 512 ≤ b.length) (h : Hr) (hr : Rm (PY rb ab og w) rb va vc b q vG G w) (th : Bool) (fr : Nat) (ha : w.heap[ab]? = some (.cells (ahC th fr vL A) 85)) (hl : OgR RP og vL A.loc w) (hne : rb ≠ ab) (hop : ∀ g, og = some g → g ≠ rb ∧ g ≠ ab) (hz : 0 ≤ h.size ∧ h.size ≤ 9223372036854775807) (hlong : ¬ (1048576 : Int) < h.size) (hk : q + 512 + h.size.toNat + padN h.size.toNat ≤ b.length) (ht : h.typ = 120#8) (hAl : A.loc.length ≤ 1024) (he : (prs (fd b (q + 512) h.size.toNat) 0 []).2.2 ≠ 0) :
  Calls Tryz.prog 38 #[.pointer (some ⟨rb, 0, none⟩), .agg (hdC h (fd b q 512) q), .pointer (some ⟨ab, 0, none⟩)] w (PssA rb ab va vc b vG og th fr q (psR (b.drop q) h G A) w) := by
 refine asP fun Q hQ => ?_
 unfold psR at hQ;obtain ⟨AC, hAC⟩ : ∃ AC, AC = ahC th fr vL A := ⟨_, rfl⟩;rw [← hAC] at ha;obtain ⟨HC, hHC⟩ : ∃ HC, HC = hdC h (fd b q 512) q := ⟨_, rfl⟩;obtain ⟨hb, hhb⟩ : ∃ hb, w.heap.size = hb := ⟨_, rfl⟩;obtain ⟨W1, hW1⟩ : ∃ W1, w.alloc (.cells HC 89) = W1 := ⟨_, rfl⟩;have P1' : Ptt w rb ab hb va vc b vG G og vL A HC AC q W1 := by rw [← hW1, ← hhb]; exact pt_start hr ha hl hne hop
 obtain ⟨zn, hzn⟩ : ∃ zn : Nat, zn = h.size.toNat := ⟨_, rfl⟩;have ezn : h.size = (zn : Int) := by omega
 rw [← hzn, ezn] at hQ;have hznl : zn ≤ 9223372036854775807 := by omega
 have HCC : Hid (∀ V : World, V.heap[hb]? = some (.cells HC 89) → V.cell? ⟨hb, 6, none⟩ = some (.int .i64 (zn : Nat)) ∧ V.cell? ⟨hb, 8, none⟩ = some (.int .u8 h.typ.toNat) ∧ V.cell? ⟨hb, 526, none⟩ = some (.int .i64 (q : Nat))) := fun V hV => by
  rw [hHC] at hV;exact ⟨cell_of hV 6 _ (hdC_lo h _ q 6 _ (by rw [← ezn]; rfl)), cell_of hV 8 _ (hdC_lo h _ q 8 _ rfl), cell_of hV 526 _ (hdC_at h _ (fd_length b q 512 hq) q)⟩
 have HHI : Hid ((Tryz.prog.info? 89).map (·.size) = some HC.size) := by
  show _ = _;rw [hHC]; exact hd_info h _ (fd_length b q 512 hq) q
 have P1 := tHid P1';have HW1 := tHid hW1;have HHC := tHid hHC;have HAC := tHid hAC;have HQL := tHid hq;have HLT : Hid (ab < w.heap.size ∧ rb < w.heap.size) := ⟨(Array.getElem?_eq_some_iff.1 ha).1, hr.lt⟩;have HGU : Hid (∀ V, Calls Tryz.prog 39 #[.int .i64 (q : Nat), .int .i64 2] V fun x w' => x = gvR (q : Nat) 2 ∧ V = w') := fun V => (qgiveUp_any (q : Nat) 2 V).mono (fun e w' ⟨e1, e2⟩ => ⟨e1, e2.symm⟩)
 rw [← hHC];rw [← hzn] at hk he;rw [ezn] at hlong;clear P1' hW1 hHC hAC hr ha hl hop hz hzn hq;have HTK : ∀ V, Rm (PY rb ab og w) rb va vc b (q + 512) vG G V → Calls Tryz.prog 58 #[.pointer (some ⟨rb, 0, none⟩), .int .i64 (zn : Nat)] V (TkA (PY rb ab og w) rb va vc b (q + 512) zn vG G V) := fun V hV => qtake_any hV (by have := HQL.out; omega) zn hznl
 have hsz : ¬ (1048576 : Int) < (zn : Int) := by omega
 rw [if_neg hsz, tk_place (by have := HQL.out; omega)] at hQ;rw [if_pos hk] at hQ;have hdl : (fd b (q + 512) zn).length = zn := fd_length _ _ _ (by omega);obtain ⟨d, hd⟩ : ∃ d, d = fd b (q + 512) zn := ⟨_, rfl⟩;rw [← hd] at hQ he hdl;simp only at hQ;rw [if_neg (by rw [ht]; decide), if_pos ht] at hQ;obtain ⟨pp, hpp⟩ : ∃ pp : Nat, pp = q + 512 + zn + padN zn := ⟨_, rfl⟩
 have HT : Hid (∀ V, Rm (PY rb ab og w) rb va vc b (q + 512) vG G V → Calls Tryz.prog 58 #[.pointer (some ⟨rb, 0, none⟩), .int .i64 (zn : Nat)] V fun e w' => ∃ a' c', e = .returned (.slice a' zn c') ∧ Hid (Sl (fun k => PY rb ab og w k ∨ V.heap.size ≤ k) (.slice a' zn c') d w' ∧ Rm (PY rb ab og w) rb va vc b pp vG G w' ∧ Fr (fun k => k = rb) V w')) := fun V hV => (HTK V hV).mono (fun e w' H => by
  rw [hpp, hd];rcases H with ⟨h1, _⟩ | ⟨_, a', c', h2, h3⟩
  ·omega
  ·exact ⟨a', c', h2, h3⟩)
 obtain ⟨HL, hHL⟩ : ∃ HL : List Value, HL = HC.toList := ⟨_, rfl⟩;have hHA : HC = HL.toArray := by rw [hHL]
 have HHL : Hid ((Tryz.prog.info? 89).map (·.size) = some HL.length) := by
  show _ = _;rw [HHI.out, hHL, Array.length_toList]
 have HHR : Hid (∀ V : World, V.heap[hb]? = some (.cells HC 89) → V.rangeAt hb 0 HL) := fun V hV j v hv => by
  rw [Nat.zero_add];exact cell_of hV j v (by rw [hHA]; simpa using hv)
 have hbl5 : q + 512 ≤ 140737488351232 := by have := P1.out.rm.bl; have := HQL.out; omega
 have hRl := fd_length b q 512 HQL.out;have HQ := tHid hQ;have b1 : ((h.typ.toNat : Int) == 103) = false := by rw [ht]; rfl
 have b2 : ((h.typ.toNat : Int) == 120) = true := by rw [ht]; rfl
 obtain ⟨aL, cL, hvL, _⟩ := P1.out.lo.form;subst hvL;have HAL : Hid (A.loc.length ≤ 1024) := hAl;obtain ⟨q5, hq5⟩ : ∃ q5 : Nat, q5 = q + 512 := ⟨_, rfl⟩;have HPA : Hid (∀ {X : Nat → Prop} (a' : Option Addr) (c' : Nat) V, Sl X (.slice a' zn c') d V → Calls Tryz.prog 61 #[.slice a' zn c', .int .i64 (q5 : Nat)] V fun e w' => e = gvR ((q5 + (prs d 0 []).2.1 : Nat) : Int) ((prs d 0 []).2.2 : Nat) ∧ Nw V w') := fun a' c' V hV => (qparsed_any a' zn c' d V hV (by omega) q5 (by omega)).mono (fun e w' H => by
  rcases H with ⟨_, h2, h3⟩ | ⟨h1, _⟩
  ·exact ⟨h2, h3⟩
  ·exact absurd h1 he)
 have HBAD : Hid (∀ V, Fr (PX rb ab og) w V → Alv rb va vc b vG V → Q (gvR ((q5 + (prs d 0 []).2.1 : Nat) : Int) ((prs d 0 []).2.2 : Nat)) V) := fun V hV hA => by
  rw [HQ.out, if_pos he];refine ⟨?_, hV, hA⟩;have e1 : q + (512 + (prs d 0 []).2.1) = q5 + (prs d 0 []).2.1 := by rw [hq5]; omega
  rw [e1]
 generalize ((q5 + (prs d 0 []).2.1 : Nat) : Int) = PQ at *;generalize (((prs d 0 []).2.2 : Nat) : Int) = PE at *;clear hQ HTK hk ezn hznl hlong hd hdl hpp ht;clear hbl5 hRl hHL hHA;clear hAl he;have HQ5' := tHid hq5;clear hq5;go_enter Tryz.func38, Tryz.ntmps38;go_upto_region 1 with fail;rw [HW1.out];obtain ⟨z6, z8, z9⟩ := HCC.out W1 P1.out.hd;obtain ⟨_, r1, f1, _, _⟩ := P1.out.rm.cells;have hq5 := HQ5'.out;have hqi : (q : Int) + 512 = (q5 : Int) := by omega
 obtain ⟨W2, hW2⟩ : ∃ W2, W1.setCell ⟨rb, 1, none⟩ (.int .i64 (q5 : Nat)) = W2 := ⟨_, rfl⟩;have f2 : Fr (fun k => k = rb) W1 W2 := by rw [← hW2]; exact (Fr.refl _ _).setCell _ _ (.inl rfl)
 have P2 : Hid (Ptt w rb ab hb va vc b vG G og (.slice aL A.loc.length cL) A HC AC (q + 512) W2) := P1.out.rd f2 (by
  rw [← hW2];exact (P1.out.rm.go (q + 512) HQL.out (q5 : Nat) (by rw [hq5])).1)
 have hqw : IntKind.i64.wrap (q5 : Int) = (q5 : Int) := by rw [IntKind.wrap_i64]; have := P1.out.rm.bl; have := HQL.out; omega
 have HQ5 := tHid hq5;have r2 : W2.cell? ⟨rb, 1, none⟩ = some (.int .i64 (q5 : Nat)) := by have := P2.out.rm.cells.2.1; rw [← hq5] at this; exact this
 clear hq5;go_upto_region 4 with fail
 (try rw [hW2])
 clear hW2 f2 r1 f1 hqi hqw z6 z8 z9 P1;obtain ⟨z6, z8, z9⟩ := HCC.out W2 P2.out.hd
 go_wp2_with fail
 go_at_call 58
 with_reducible refine (HT.out _ P2.out.rm).mono ?_
 rintro e w4 ⟨a', c', rfl, K4⟩;have P4 := tHid (P2.out.rd K4.out.2.2 K4.out.2.1);have DT := tHid K4.out.1;obtain ⟨z6, z8', z9'⟩ := HCC.out w4 P4.out.hd;clear K4 P2;go_upto_region 10 with fail;have P4d := tHid (P4.out.nw (Fr.refl _ _).drew);have DTd := tHid (DT.out.nw (Fr.refl _ _).drew);have P4dr := P4d.out.ar;rw [HAC.out] at P4dr;have gG : w4.drew.cell? ⟨ab, 2, none⟩ = some (.slice aL A.loc.length cL) := cell_of P4dr 2 _ rfl;refine wp_region_held_drew (S := (fun U => U.rangeAt hb 0 HL)) (by kernel_rfl) (HHR.out _ P4d.out.hd) (fun hHeld => ?_)
 refine tkH (i := 0) (v := ?_) rfl ?_ ?_;rotate_left
 ·intro U hSw; (go_simp <;> with_reducible rfl)
 try simp only [Act.put, nz1, nz2, nz3]
 refine tkH (i := 1) (v := ?_) rfl ?_ ?_;rotate_left
 ·intro U hSw; (go_simp <;> with_reducible rfl)
 try simp only [Act.put, nz1, nz2, nz3]
 refine tkH (i := 2) (v := ?_) rfl ?_ ?_;rotate_left
 ·intro U hSw; (go_simp <;> with_reducible rfl)
 try simp only [Act.put, nz1, nz2, nz3]
 refine tkH (i := 3) (v := ?_) rfl ?_ ?_;rotate_left
 ·intro U hSw; (go_simp <;> with_reducible rfl)
 try simp only [Act.put, nz1, nz2, nz3]
 refine tkH (i := 5) (v := ?_) rfl ?_ ?_;rotate_left
 ·intro U hSw; (go_simp <;> with_reducible rfl)
 try simp only [Act.put, nz1, nz2, nz3]
 refine tkH (i := 6) (v := ?_) rfl ?_ ?_;rotate_left
 ·intro U hSw; (go_simp <;> with_reducible rfl)
 try simp only [Act.put, nz1, nz2, nz3]
 refine wpAnyH_take (i := 9) (v := .agg HL.toArray) rfl (by kernel_rfl) (by kernel_rfl) (by kernel_rfl) (fun _ _ _ h => h) (yieldsIf_load_mid (by rfl) _ _ rfl hb 0 rfl HL _ (fun U hU => hU) Tryz.underlying89 rfl HHL.out) (by assumption) ?_;try simp only [Act.put, nz1, nz2, nz3]
 refine wpAnyH_ready (rs := [4, 7]) (by kernel_rfl) (by simp) ?_;refine AllReadyH.cons rfl (fun K hK => ?_) (AllReadyH.cons rfl (fun K hK => ?_) AllReadyH.nil)
 ·(
  rw [if_pos (by rfl)];go_simp;refine hK.out _ _ (HHR.out _ P4d.out.hd) (fun _ => ?_);clear hK K;try simp only [Act.put, nz1, nz2, nz3]
  refine wpAnyH_ready (rs := [7]) (by kernel_rfl) (by simp) ?_;refine AllReadyH.cons rfl (fun K hK => ?_) AllReadyH.nil;go_simp;go_at_call 61; (with_reducible refine (HPA.out _ _ _ DTd.out).mono ?_); rintro e w5 ⟨rfl, K5⟩
  (try dsimp only)
  exact ⟨rfl, HBAD.out _ (P4d.out.nw K5).fr (P4d.out.nw K5).rm.alv⟩
  )
 ·(
  go_simp;go_at_call 61; (with_reducible refine (HPA.out _ _ _ DTd.out).mono ?_); rintro e w5 ⟨rfl, K5⟩
  (try dsimp only)
  exact ⟨rfl, HBAD.out _ (P4d.out.nw K5).fr (P4d.out.nw K5).rm.alv⟩
  )
theorem qpass_x_many (w : World) (q : Nat) (hq : q + 512 ≤ b.length) (h : Hr) (hr : Rm (PY rb ab og w) rb va vc b q vG G w) (th : Bool) (fr : Nat) (ha : w.heap[ab]? = some (.cells (ahC th fr vL A) 85)) (hl : OgR RP og vL A.loc w) (hne : rb ≠ ab) (hop : ∀ g, og = some g → g ≠ rb ∧ g ≠ ab) (hz : 0 ≤ h.size ∧ h.size ≤ 9223372036854775807) (hlong : ¬ (1048576 : Int) < h.size) (hk : q + 512 + h.size.toNat + padN h.size.toNat ≤ b.length) (ht : h.typ = 120#8) (hAl : A.loc.length ≤ 1024) (he : (prs (fd b (q + 512) h.size.toNat) 0 []).2.2 = 0) (hm : 1024 < (A.loc ++ (prs (fd b (q + 512) h.size.toNat) 0 []).1).length) :
  Calls Tryz.prog 38 #[.pointer (some ⟨rb, 0, none⟩), .agg (hdC h (fd b q 512) q), .pointer (some ⟨ab, 0, none⟩)] w (PssA rb ab va vc b vG og th fr q (psR (b.drop q) h G A) w) := by
 refine asP fun Q hQ => ?_
 unfold psR at hQ;obtain ⟨AC, hAC⟩ : ∃ AC, AC = ahC th fr vL A := ⟨_, rfl⟩;rw [← hAC] at ha;obtain ⟨HC, hHC⟩ : ∃ HC, HC = hdC h (fd b q 512) q := ⟨_, rfl⟩;obtain ⟨hb, hhb⟩ : ∃ hb, w.heap.size = hb := ⟨_, rfl⟩;obtain ⟨W1, hW1⟩ : ∃ W1, w.alloc (.cells HC 89) = W1 := ⟨_, rfl⟩;have P1' : Ptt w rb ab hb va vc b vG G og vL A HC AC q W1 := by rw [← hW1, ← hhb]; exact pt_start hr ha hl hne hop
 obtain ⟨zn, hzn⟩ : ∃ zn : Nat, zn = h.size.toNat := ⟨_, rfl⟩;have ezn : h.size = (zn : Int) := by omega
 rw [← hzn, ezn] at hQ;have hznl : zn ≤ 9223372036854775807 := by omega
 have HCC : Hid (∀ V : World, V.heap[hb]? = some (.cells HC 89) → V.cell? ⟨hb, 6, none⟩ = some (.int .i64 (zn : Nat)) ∧ V.cell? ⟨hb, 8, none⟩ = some (.int .u8 h.typ.toNat) ∧ V.cell? ⟨hb, 526, none⟩ = some (.int .i64 (q : Nat))) := fun V hV => by
  rw [hHC] at hV;exact ⟨cell_of hV 6 _ (hdC_lo h _ q 6 _ (by rw [← ezn]; rfl)), cell_of hV 8 _ (hdC_lo h _ q 8 _ rfl), cell_of hV 526 _ (hdC_at h _ (fd_length b q 512 hq) q)⟩
 have HHI : Hid ((Tryz.prog.info? 89).map (·.size) = some HC.size) := by
  show _ = _;rw [hHC]; exact hd_info h _ (fd_length b q 512 hq) q
 have P1 := tHid P1';have HW1 := tHid hW1;have HHC := tHid hHC;have HAC := tHid hAC;have HQL := tHid hq;have HLT : Hid (ab < w.heap.size ∧ rb < w.heap.size) := ⟨(Array.getElem?_eq_some_iff.1 ha).1, hr.lt⟩;have HGU : Hid (∀ V, Calls Tryz.prog 39 #[.int .i64 (q : Nat), .int .i64 2] V fun x w' => x = gvR (q : Nat) 2 ∧ V = w') := fun V => (qgiveUp_any (q : Nat) 2 V).mono (fun e w' ⟨e1, e2⟩ => ⟨e1, e2.symm⟩)
 rw [← hHC];rw [← hzn] at hk he;rw [← hzn] at hm;rw [ezn] at hlong;clear P1' hW1 hHC hAC hr ha hl hop hz hzn hq;have HTK : ∀ V, Rm (PY rb ab og w) rb va vc b (q + 512) vG G V → Calls Tryz.prog 58 #[.pointer (some ⟨rb, 0, none⟩), .int .i64 (zn : Nat)] V (TkA (PY rb ab og w) rb va vc b (q + 512) zn vG G V) := fun V hV => qtake_any hV (by have := HQL.out; omega) zn hznl
 have hsz : ¬ (1048576 : Int) < (zn : Int) := by omega
 rw [if_neg hsz, tk_place (by have := HQL.out; omega)] at hQ;rw [if_pos hk] at hQ;have hdl : (fd b (q + 512) zn).length = zn := fd_length _ _ _ (by omega);obtain ⟨d, hd⟩ : ∃ d, d = fd b (q + 512) zn := ⟨_, rfl⟩;rw [← hd] at hQ he hdl hm;simp only at hQ;rw [if_neg (by rw [ht]; decide), if_pos ht] at hQ;obtain ⟨pp, hpp⟩ : ∃ pp : Nat, pp = q + 512 + zn + padN zn := ⟨_, rfl⟩
 have HT : Hid (∀ V, Rm (PY rb ab og w) rb va vc b (q + 512) vG G V → Calls Tryz.prog 58 #[.pointer (some ⟨rb, 0, none⟩), .int .i64 (zn : Nat)] V fun e w' => ∃ a' c', e = .returned (.slice a' zn c') ∧ Hid (Sl (fun k => PY rb ab og w k ∨ V.heap.size ≤ k) (.slice a' zn c') d w' ∧ Rm (PY rb ab og w) rb va vc b pp vG G w' ∧ Fr (fun k => k = rb) V w')) := fun V hV => (HTK V hV).mono (fun e w' H => by
  rw [hpp, hd];rcases H with ⟨h1, _⟩ | ⟨_, a', c', h2, h3⟩
  ·omega
  ·exact ⟨a', c', h2, h3⟩)
 obtain ⟨HL, hHL⟩ : ∃ HL : List Value, HL = HC.toList := ⟨_, rfl⟩;have hHA : HC = HL.toArray := by rw [hHL]
 have HHL : Hid ((Tryz.prog.info? 89).map (·.size) = some HL.length) := by
  show _ = _;rw [HHI.out, hHL, Array.length_toList]
 have HHR : Hid (∀ V : World, V.heap[hb]? = some (.cells HC 89) → V.rangeAt hb 0 HL) := fun V hV j v hv => by
  rw [Nat.zero_add];exact cell_of hV j v (by rw [hHA]; simpa using hv)
 have hbl5 : q + 512 ≤ 140737488351232 := by have := P1.out.rm.bl; have := HQL.out; omega
 have hRl := fd_length b q 512 HQL.out;have HQ := tHid hQ;have b1 : ((h.typ.toNat : Int) == 103) = false := by rw [ht]; rfl
 have b2 : ((h.typ.toNat : Int) == 120) = true := by rw [ht]; rfl
 obtain ⟨aL, cL, hvL, _⟩ := P1.out.lo.form;subst hvL;have HAL : Hid (A.loc.length ≤ 1024) := hAl;obtain ⟨q5, hq5⟩ : ∃ q5 : Nat, q5 = q + 512 := ⟨_, rfl⟩;obtain ⟨l, hl0⟩ : ∃ l, l = (prs d 0 []).1 := ⟨_, rfl⟩;rw [← hl0] at hm;have hfit := prs_fit d he;rw [← hl0] at hfit;have hll : l.length ≤ 1048576 := by have := hfit.1; omega
 have hlk : ∀ x ∈ l, x.1.length ≤ 140737488351232 := fun x hx => by have := (hfit.2 x hx).1; omega
 have HLL : Hid (l.length ≤ 1048576) := hll;obtain ⟨nl, hnl⟩ : ∃ nl, nl = (A.loc ++ l).length := ⟨_, rfl⟩;rw [← hnl] at hm;have HNL := tHid hnl;have hml : nl ≤ 2000000 := by rw [hnl, List.length_append]; have := HAL.out; omega
 have HPA : Hid (∀ {X : Nat → Prop} (a' : Option Addr) (c' : Nat) V, Sl X (.slice a' zn c') d V → Calls Tryz.prog 61 #[.slice a' zn c', .int .i64 (q5 : Nat)] V fun e w' => ∃ aN cN, e = .returned (.slice aN l.length cN) ∧ Hid (Nw V w' ∧ NewP V (.slice aN l.length cN) l w')) := fun a' c' V hV => (qparsed_any a' zn c' d V hV (by omega) q5 (by omega)).mono (fun e w' H => by
  rcases H with ⟨h1, _⟩ | ⟨_, v, h2, h3⟩
  ·exact absurd he h1
  ·obtain ⟨h4, o, h5, h6⟩ := h3.out;rw [← hl0] at h5;obtain ⟨aN, cN, ev, _⟩ := h5.form;subst ev;exact ⟨aN, cN, h2, h4, o, h5, h6⟩)
 have HFE : Hid (∀ (aM : Option Addr) (cM : Nat) V, Calls Tryz.prog 59 #[.slice aM nl cM, .agg HL.toArray] V fun e w' => e = gvR (q : Nat) 2 ∧ Nw V w') := fun aM cM V => by
  rw [← hHA, HHC.out];refine (qfew_any aM nl cM (by omega) h (fd b q 512) hRl q V).mono ?_;rintro e w' (⟨h1, h2, h3⟩ | ⟨h1, h2, h3⟩)
  ·exact ⟨h2, h3⟩
  ·omega
 have HBAD : Hid (∀ V, Fr (PX rb ab og) w V → Alv rb va vc b vG V → Q (gvR (q : Nat) 2) V) := fun V hV hA => by
  rw [HQ.out, if_neg (fun hne => hne he), ← hl0, ← hnl, if_pos hm];exact ⟨by rw [Nat.add_zero]; rfl, hV, hA⟩
 clear hQ HTK hk ezn hznl hlong hd hdl hpp ht;clear hbl5 hRl hHL hHA;clear hll hlk hml hfit hAl hnl hl0 hm he;have HQ5' := tHid hq5;clear hq5;go_enter Tryz.func38, Tryz.ntmps38;go_upto_region 1 with fail;rw [HW1.out];obtain ⟨z6, z8, z9⟩ := HCC.out W1 P1.out.hd;obtain ⟨_, r1, f1, _, _⟩ := P1.out.rm.cells;have hq5 := HQ5'.out;have hqi : (q : Int) + 512 = (q5 : Int) := by omega
 obtain ⟨W2, hW2⟩ : ∃ W2, W1.setCell ⟨rb, 1, none⟩ (.int .i64 (q5 : Nat)) = W2 := ⟨_, rfl⟩;have f2 : Fr (fun k => k = rb) W1 W2 := by rw [← hW2]; exact (Fr.refl _ _).setCell _ _ (.inl rfl)
 have P2 : Hid (Ptt w rb ab hb va vc b vG G og (.slice aL A.loc.length cL) A HC AC (q + 512) W2) := P1.out.rd f2 (by
  rw [← hW2];exact (P1.out.rm.go (q + 512) HQL.out (q5 : Nat) (by rw [hq5])).1)
 have hqw : IntKind.i64.wrap (q5 : Int) = (q5 : Int) := by rw [IntKind.wrap_i64]; have := P1.out.rm.bl; have := HQL.out; omega
 have HQ5 := tHid hq5;have r2 : W2.cell? ⟨rb, 1, none⟩ = some (.int .i64 (q5 : Nat)) := by have := P2.out.rm.cells.2.1; rw [← hq5] at this; exact this
 clear hq5;go_upto_region 4 with fail
 (try rw [hW2])
 clear hW2 f2 r1 f1 hqi hqw z6 z8 z9 P1;obtain ⟨z6, z8, z9⟩ := HCC.out W2 P2.out.hd
 go_wp2_with fail
 go_at_call 58
 with_reducible refine (HT.out _ P2.out.rm).mono ?_
 rintro e w4 ⟨a', c', rfl, K4⟩;have P4 := tHid (P2.out.rd K4.out.2.2 K4.out.2.1);have DT := tHid K4.out.1;obtain ⟨z6, z8', z9'⟩ := HCC.out w4 P4.out.hd;clear K4 P2;go_upto_region 10 with fail;have P4d := tHid (P4.out.nw (Fr.refl _ _).drew);have DTd := tHid (DT.out.nw (Fr.refl _ _).drew);have P4dr := P4d.out.ar;rw [HAC.out] at P4dr;have gG : w4.drew.cell? ⟨ab, 2, none⟩ = some (.slice aL A.loc.length cL) := cell_of P4dr 2 _ rfl;refine wp_region_held_drew (S := (fun U => U.rangeAt hb 0 HL)) (by kernel_rfl) (HHR.out _ P4d.out.hd) (fun hHeld => ?_)
 refine tkH (i := 0) (v := ?_) rfl ?_ ?_;rotate_left
 ·intro U hSw; (go_simp <;> with_reducible rfl)
 try simp only [Act.put, nz1, nz2, nz3]
 refine tkH (i := 1) (v := ?_) rfl ?_ ?_;rotate_left
 ·intro U hSw; (go_simp <;> with_reducible rfl)
 try simp only [Act.put, nz1, nz2, nz3]
 refine tkH (i := 2) (v := ?_) rfl ?_ ?_;rotate_left
 ·intro U hSw; (go_simp <;> with_reducible rfl)
 try simp only [Act.put, nz1, nz2, nz3]
 refine tkH (i := 3) (v := ?_) rfl ?_ ?_;rotate_left
 ·intro U hSw; (go_simp <;> with_reducible rfl)
 try simp only [Act.put, nz1, nz2, nz3]
 refine tkH (i := 5) (v := ?_) rfl ?_ ?_;rotate_left
 ·intro U hSw; (go_simp <;> with_reducible rfl)
 try simp only [Act.put, nz1, nz2, nz3]
 refine tkH (i := 6) (v := ?_) rfl ?_ ?_;rotate_left
 ·intro U hSw; (go_simp <;> with_reducible rfl)
 try simp only [Act.put, nz1, nz2, nz3]
 refine wpAnyH_take (i := 9) (v := .agg HL.toArray) rfl (by kernel_rfl) (by kernel_rfl) (by kernel_rfl) (fun _ _ _ h => h) (yieldsIf_load_mid (by rfl) _ _ rfl hb 0 rfl HL _ (fun U hU => hU) Tryz.underlying89 rfl HHL.out) (by assumption) ?_;try simp only [Act.put, nz1, nz2, nz3]
 refine wpAnyH_ready (rs := [4, 7]) (by kernel_rfl) (by simp) ?_;refine AllReadyH.cons rfl (fun K hK => ?_) (AllReadyH.cons rfl (fun K hK => ?_) AllReadyH.nil)
 ·(
  rw [if_pos (by rfl)];go_simp;refine hK.out _ _ (HHR.out _ P4d.out.hd) (fun _ => ?_);clear hK K;try simp only [Act.put, nz1, nz2, nz3]
  refine wpAnyH_ready (rs := [7]) (by kernel_rfl) (by simp) ?_;refine AllReadyH.cons rfl (fun K hK => ?_) AllReadyH.nil;go_simp;go_at_call 61; (with_reducible refine (HPA.out _ _ _ DTd.out).mono ?_); rintro e w5 ⟨aN, cN, rfl, K5⟩
  (try go_wp2_with fail)
  have P5 := tHid (P4d.out.nw K5.out.1);have P5r := P5.out.ar;rw [HAC.out] at P5r;have gG5 : w5.cell? ⟨ab, 2, none⟩ = some (.slice aL A.loc.length cL) := cell_of P5r 2 _ rfl;refine hK.out _ _ (HHR.out _ P5.out.hd) (fun _ => ?_);clear hK K;try simp only [Act.put, nz1, nz2, nz3]
  obtain ⟨a6, c6, og6, w6, HA6, PX6⟩ := ptx_app P5.out (.slice aN l.length cN) l (NewP.slr K5.out.2) HAL.out HLL.out;rw [← HNL.out] at HA6 PX6;have P6 := tHid PX6;clear PX6;refine wpAnyH_ready (rs := [8]) (by kernel_rfl) (by simp) ?_;refine AllReadyH.cons rfl (fun K hK => ?_) AllReadyH.nil;rw [if_pos (by rfl)];refine Lib.wp_append_run _ _ _ 34 34 rfl (.slice aL A.loc.length cL) (.slice aN l.length cN) (by first | rfl | simp [Act.eval]) (by first | rfl | simp [Act.eval]) _ _ (HA6 _) ?_;refine hK.out _ _ (HHR.out _ P6.out.hd) (fun _ => ?_);clear hK K HA6
  try simp only [Act.put, nz1, nz2, nz3]
  refine wpAnyH_ready (rs := [10]) (by kernel_rfl) (by simp) ?_;refine AllReadyH.cons rfl (fun K hK => ?_) AllReadyH.nil;go_simp;go_at_call 59; (with_reducible refine (HFE.out _ _ _).mono ?_); rintro e w7 ⟨rfl, K7⟩
  (try dsimp only)
  exact ⟨rfl, HBAD.out _ (P6.out.nw K7).fr (P6.out.nw K7).rm.alv⟩
  )
 ·(
  go_simp;go_at_call 61; (with_reducible refine (HPA.out _ _ _ DTd.out).mono ?_); rintro e w5 ⟨aN, cN, rfl, K5⟩
  (try go_wp2_with fail)
  have P5 := tHid (P4d.out.nw K5.out.1);have P5r := P5.out.ar;rw [HAC.out] at P5r;have gG5 : w5.cell? ⟨ab, 2, none⟩ = some (.slice aL A.loc.length cL) := cell_of P5r 2 _ rfl;refine hK.out _ _ (HHR.out _ P5.out.hd) (fun _ => ?_);clear hK K;try simp only [Act.put, nz1, nz2, nz3]
  refine wpAnyH_ready (rs := [4]) (by kernel_rfl) (by simp) ?_;refine AllReadyH.cons rfl (fun K hK => ?_) AllReadyH.nil;rw [if_pos (by rfl)];go_simp;refine hK.out _ _ (HHR.out _ P5.out.hd) (fun _ => ?_);clear hK K;try simp only [Act.put, nz1, nz2, nz3]
  obtain ⟨a6, c6, og6, w6, HA6, PX6⟩ := ptx_app P5.out (.slice aN l.length cN) l (NewP.slr K5.out.2) HAL.out HLL.out;rw [← HNL.out] at HA6 PX6;have P6 := tHid PX6;clear PX6;refine wpAnyH_ready (rs := [8]) (by kernel_rfl) (by simp) ?_;refine AllReadyH.cons rfl (fun K hK => ?_) AllReadyH.nil;rw [if_pos (by rfl)];refine Lib.wp_append_run _ _ _ 34 34 rfl (.slice aL A.loc.length cL) (.slice aN l.length cN) (by first | rfl | simp [Act.eval]) (by first | rfl | simp [Act.eval]) _ _ (HA6 _) ?_;refine hK.out _ _ (HHR.out _ P6.out.hd) (fun _ => ?_);clear hK K HA6
  try simp only [Act.put, nz1, nz2, nz3]
  refine wpAnyH_ready (rs := [10]) (by kernel_rfl) (by simp) ?_;refine AllReadyH.cons rfl (fun K hK => ?_) AllReadyH.nil;go_simp;go_at_call 59; (with_reducible refine (HFE.out _ _ _).mono ?_); rintro e w7 ⟨rfl, K7⟩
  (try dsimp only)
  exact ⟨rfl, HBAD.out _ (P6.out.nw K7).fr (P6.out.nw K7).rm.alv⟩
  )
theorem qpass_x_ok (w : World) (q : Nat) (hq : q + 512 ≤ b.length) (h : Hr) (hr : Rm (PY rb ab og w) rb va vc b q vG G w) (th : Bool) (fr : Nat) (ha : w.heap[ab]? = some (.cells (ahC th fr vL A) 85)) (hl : OgR RP og vL A.loc w) (hne : rb ≠ ab) (hop : ∀ g, og = some g → g ≠ rb ∧ g ≠ ab) (hz : 0 ≤ h.size ∧ h.size ≤ 9223372036854775807) (hlong : ¬ (1048576 : Int) < h.size) (hk : q + 512 + h.size.toNat + padN h.size.toNat ≤ b.length) (ht : h.typ = 120#8) (hAl : A.loc.length ≤ 1024) (he : (prs (fd b (q + 512) h.size.toNat) 0 []).2.2 = 0) (hm : ¬ 1024 < (A.loc ++ (prs (fd b (q + 512) h.size.toNat) 0 []).1).length) :
  Calls Tryz.prog 38 #[.pointer (some ⟨rb, 0, none⟩), .agg (hdC h (fd b q 512) q), .pointer (some ⟨ab, 0, none⟩)] w (PssA rb ab va vc b vG og th fr q (psR (b.drop q) h G A) w) := by
 refine asP fun Q hQ => ?_
 unfold psR at hQ;obtain ⟨AC, hAC⟩ : ∃ AC, AC = ahC th fr vL A := ⟨_, rfl⟩;rw [← hAC] at ha;obtain ⟨HC, hHC⟩ : ∃ HC, HC = hdC h (fd b q 512) q := ⟨_, rfl⟩;obtain ⟨hb, hhb⟩ : ∃ hb, w.heap.size = hb := ⟨_, rfl⟩;obtain ⟨W1, hW1⟩ : ∃ W1, w.alloc (.cells HC 89) = W1 := ⟨_, rfl⟩;have P1' : Ptt w rb ab hb va vc b vG G og vL A HC AC q W1 := by rw [← hW1, ← hhb]; exact pt_start hr ha hl hne hop
 obtain ⟨zn, hzn⟩ : ∃ zn : Nat, zn = h.size.toNat := ⟨_, rfl⟩;have ezn : h.size = (zn : Int) := by omega
 rw [← hzn, ezn] at hQ;have hznl : zn ≤ 9223372036854775807 := by omega
 have HCC : Hid (∀ V : World, V.heap[hb]? = some (.cells HC 89) → V.cell? ⟨hb, 6, none⟩ = some (.int .i64 (zn : Nat)) ∧ V.cell? ⟨hb, 8, none⟩ = some (.int .u8 h.typ.toNat) ∧ V.cell? ⟨hb, 526, none⟩ = some (.int .i64 (q : Nat))) := fun V hV => by
  rw [hHC] at hV;exact ⟨cell_of hV 6 _ (hdC_lo h _ q 6 _ (by rw [← ezn]; rfl)), cell_of hV 8 _ (hdC_lo h _ q 8 _ rfl), cell_of hV 526 _ (hdC_at h _ (fd_length b q 512 hq) q)⟩
 have HHI : Hid ((Tryz.prog.info? 89).map (·.size) = some HC.size) := by
  show _ = _;rw [hHC]; exact hd_info h _ (fd_length b q 512 hq) q
 have P1 := tHid P1';have HW1 := tHid hW1;have HHC := tHid hHC;have HAC := tHid hAC;have HQL := tHid hq;have HLT : Hid (ab < w.heap.size ∧ rb < w.heap.size) := ⟨(Array.getElem?_eq_some_iff.1 ha).1, hr.lt⟩;have HGU : Hid (∀ V, Calls Tryz.prog 39 #[.int .i64 (q : Nat), .int .i64 2] V fun x w' => x = gvR (q : Nat) 2 ∧ V = w') := fun V => (qgiveUp_any (q : Nat) 2 V).mono (fun e w' ⟨e1, e2⟩ => ⟨e1, e2.symm⟩)
 rw [← hHC];rw [← hzn] at hk he;rw [← hzn] at hm;rw [ezn] at hlong;clear P1' hW1 hHC hAC hr ha hl hop hz hzn hq;have HTK : ∀ V, Rm (PY rb ab og w) rb va vc b (q + 512) vG G V → Calls Tryz.prog 58 #[.pointer (some ⟨rb, 0, none⟩), .int .i64 (zn : Nat)] V (TkA (PY rb ab og w) rb va vc b (q + 512) zn vG G V) := fun V hV => qtake_any hV (by have := HQL.out; omega) zn hznl
 have hsz : ¬ (1048576 : Int) < (zn : Int) := by omega
 rw [if_neg hsz, tk_place (by have := HQL.out; omega)] at hQ;rw [if_pos hk] at hQ;have hdl : (fd b (q + 512) zn).length = zn := fd_length _ _ _ (by omega);obtain ⟨d, hd⟩ : ∃ d, d = fd b (q + 512) zn := ⟨_, rfl⟩;rw [← hd] at hQ he hdl hm;simp only at hQ;rw [if_neg (by rw [ht]; decide), if_pos ht] at hQ;obtain ⟨pp, hpp⟩ : ∃ pp : Nat, pp = q + 512 + zn + padN zn := ⟨_, rfl⟩
 have HT : Hid (∀ V, Rm (PY rb ab og w) rb va vc b (q + 512) vG G V → Calls Tryz.prog 58 #[.pointer (some ⟨rb, 0, none⟩), .int .i64 (zn : Nat)] V fun e w' => ∃ a' c', e = .returned (.slice a' zn c') ∧ Hid (Sl (fun k => PY rb ab og w k ∨ V.heap.size ≤ k) (.slice a' zn c') d w' ∧ Rm (PY rb ab og w) rb va vc b pp vG G w' ∧ Fr (fun k => k = rb) V w')) := fun V hV => (HTK V hV).mono (fun e w' H => by
  rw [hpp, hd];rcases H with ⟨h1, _⟩ | ⟨_, a', c', h2, h3⟩
  ·omega
  ·exact ⟨a', c', h2, h3⟩)
 obtain ⟨HL, hHL⟩ : ∃ HL : List Value, HL = HC.toList := ⟨_, rfl⟩;have hHA : HC = HL.toArray := by rw [hHL]
 have HHL : Hid ((Tryz.prog.info? 89).map (·.size) = some HL.length) := by
  show _ = _;rw [HHI.out, hHL, Array.length_toList]
 have HHR : Hid (∀ V : World, V.heap[hb]? = some (.cells HC 89) → V.rangeAt hb 0 HL) := fun V hV j v hv => by
  rw [Nat.zero_add];exact cell_of hV j v (by rw [hHA]; simpa using hv)
 have hbl5 : q + 512 ≤ 140737488351232 := by have := P1.out.rm.bl; have := HQL.out; omega
 have hRl := fd_length b q 512 HQL.out;have HQ := tHid hQ;have b1 : ((h.typ.toNat : Int) == 103) = false := by rw [ht]; rfl
 have b2 : ((h.typ.toNat : Int) == 120) = true := by rw [ht]; rfl
 obtain ⟨aL, cL, hvL, _⟩ := P1.out.lo.form;subst hvL;have HAL : Hid (A.loc.length ≤ 1024) := hAl;obtain ⟨q5, hq5⟩ : ∃ q5 : Nat, q5 = q + 512 := ⟨_, rfl⟩;obtain ⟨l, hl0⟩ : ∃ l, l = (prs d 0 []).1 := ⟨_, rfl⟩;rw [← hl0] at hm;have hfit := prs_fit d he;rw [← hl0] at hfit;have hll : l.length ≤ 1048576 := by have := hfit.1; omega
 have hlk : ∀ x ∈ l, x.1.length ≤ 140737488351232 := fun x hx => by have := (hfit.2 x hx).1; omega
 have HLL : Hid (l.length ≤ 1048576) := hll;obtain ⟨nl, hnl⟩ : ∃ nl, nl = (A.loc ++ l).length := ⟨_, rfl⟩;rw [← hnl] at hm;have HNL := tHid hnl;have hml : nl ≤ 2000000 := by rw [hnl, List.length_append]; have := HAL.out; omega
 have HPA : Hid (∀ {X : Nat → Prop} (a' : Option Addr) (c' : Nat) V, Sl X (.slice a' zn c') d V → Calls Tryz.prog 61 #[.slice a' zn c', .int .i64 (q5 : Nat)] V fun e w' => ∃ aN cN, e = .returned (.slice aN l.length cN) ∧ Hid (Nw V w' ∧ NewP V (.slice aN l.length cN) l w')) := fun a' c' V hV => (qparsed_any a' zn c' d V hV (by omega) q5 (by omega)).mono (fun e w' H => by
  rcases H with ⟨h1, _⟩ | ⟨_, v, h2, h3⟩
  ·exact absurd he h1
  ·obtain ⟨h4, o, h5, h6⟩ := h3.out;rw [← hl0] at h5;obtain ⟨aN, cN, ev, _⟩ := h5.form;subst ev;exact ⟨aN, cN, h2, h4, o, h5, h6⟩)
 have HFE : Hid (∀ (aM : Option Addr) (cM : Nat) V, Calls Tryz.prog 59 #[.slice aM nl cM, .agg HL.toArray] V fun e w' => e = .returned (.slice aM nl cM) ∧ Nw V w') := fun aM cM V => by
  rw [← hHA, HHC.out];refine (qfew_any aM nl cM (by omega) h (fd b q 512) hRl q V).mono ?_;rintro e w' (⟨h1, h2, h3⟩ | ⟨h1, h2, h3⟩)
  ·omega
  ·exact ⟨h2, h3⟩
 have HOK : Hid (∀ (a6 : Option Addr) (c6 : Nat) og6 V, Ptx w rb ab hb va vc b vG G og og6 (.slice a6 nl c6) (A.loc ++ l) HC (ahC true (if th = true then (fr : Int) else (q : Int)) (.slice a6 nl c6) { A with loc := A.loc ++ l }) pp V → Q (.returned (.tuple #[])) V) := fun a6 c6 og6 V hV => by
  rw [HQ.out, if_neg (fun hne => hne he), ← hl0, ← hnl, if_neg hm];have e1 : q + (512 + zn + padN zn) = pp := by rw [hpp]; omega
  refine ⟨vG, .slice a6 nl c6, og6, rfl, hV.fr, hV.ar, ?_, hV.lo, hV.we, .inl ⟨rfl, rfl⟩⟩;rw [e1]; exact hV.ry
 clear hQ HTK hk ezn hznl hlong hd hdl hpp ht;clear hbl5 hRl hHL hHA;clear hll hlk hml hfit hAl hnl hl0 hm he;have HQ5' := tHid hq5;clear hq5;go_enter Tryz.func38, Tryz.ntmps38;go_upto_region 1 with fail;rw [HW1.out];obtain ⟨z6, z8, z9⟩ := HCC.out W1 P1.out.hd;obtain ⟨_, r1, f1, _, _⟩ := P1.out.rm.cells;have hq5 := HQ5'.out;have hqi : (q : Int) + 512 = (q5 : Int) := by omega
 obtain ⟨W2, hW2⟩ : ∃ W2, W1.setCell ⟨rb, 1, none⟩ (.int .i64 (q5 : Nat)) = W2 := ⟨_, rfl⟩;have f2 : Fr (fun k => k = rb) W1 W2 := by rw [← hW2]; exact (Fr.refl _ _).setCell _ _ (.inl rfl)
 have P2 : Hid (Ptt w rb ab hb va vc b vG G og (.slice aL A.loc.length cL) A HC AC (q + 512) W2) := P1.out.rd f2 (by
  rw [← hW2];exact (P1.out.rm.go (q + 512) HQL.out (q5 : Nat) (by rw [hq5])).1)
 have hqw : IntKind.i64.wrap (q5 : Int) = (q5 : Int) := by rw [IntKind.wrap_i64]; have := P1.out.rm.bl; have := HQL.out; omega
 have HQ5 := tHid hq5;have r2 : W2.cell? ⟨rb, 1, none⟩ = some (.int .i64 (q5 : Nat)) := by have := P2.out.rm.cells.2.1; rw [← hq5] at this; exact this
 clear hq5;go_upto_region 4 with fail
 (try rw [hW2])
 clear hW2 f2 r1 f1 hqi hqw z6 z8 z9 P1;obtain ⟨z6, z8, z9⟩ := HCC.out W2 P2.out.hd
 go_wp2_with fail
 go_at_call 58
 with_reducible refine (HT.out _ P2.out.rm).mono ?_
 rintro e w4 ⟨a', c', rfl, K4⟩;have P4 := tHid (P2.out.rd K4.out.2.2 K4.out.2.1);have DT := tHid K4.out.1;obtain ⟨z6, z8', z9'⟩ := HCC.out w4 P4.out.hd;clear K4 P2;go_upto_region 10 with fail;have P4d := tHid (P4.out.nw (Fr.refl _ _).drew);have DTd := tHid (DT.out.nw (Fr.refl _ _).drew);have P4dr := P4d.out.ar;rw [HAC.out] at P4dr;have gG : w4.drew.cell? ⟨ab, 2, none⟩ = some (.slice aL A.loc.length cL) := cell_of P4dr 2 _ rfl;refine wp_region_held_drew (S := (fun U => U.rangeAt hb 0 HL)) (by kernel_rfl) (HHR.out _ P4d.out.hd) (fun hHeld => ?_)
 refine tkH (i := 0) (v := ?_) rfl ?_ ?_;rotate_left
 ·intro U hSw; (go_simp <;> with_reducible rfl)
 try simp only [Act.put, nz1, nz2, nz3]
 refine tkH (i := 1) (v := ?_) rfl ?_ ?_;rotate_left
 ·intro U hSw; (go_simp <;> with_reducible rfl)
 try simp only [Act.put, nz1, nz2, nz3]
 refine tkH (i := 2) (v := ?_) rfl ?_ ?_;rotate_left
 ·intro U hSw; (go_simp <;> with_reducible rfl)
 try simp only [Act.put, nz1, nz2, nz3]
 refine tkH (i := 3) (v := ?_) rfl ?_ ?_;rotate_left
 ·intro U hSw; (go_simp <;> with_reducible rfl)
 try simp only [Act.put, nz1, nz2, nz3]
 refine tkH (i := 5) (v := ?_) rfl ?_ ?_;rotate_left
 ·intro U hSw; (go_simp <;> with_reducible rfl)
 try simp only [Act.put, nz1, nz2, nz3]
 refine tkH (i := 6) (v := ?_) rfl ?_ ?_;rotate_left
 ·intro U hSw; (go_simp <;> with_reducible rfl)
 try simp only [Act.put, nz1, nz2, nz3]
 refine wpAnyH_take (i := 9) (v := .agg HL.toArray) rfl (by kernel_rfl) (by kernel_rfl) (by kernel_rfl) (fun _ _ _ h => h) (yieldsIf_load_mid (by rfl) _ _ rfl hb 0 rfl HL _ (fun U hU => hU) Tryz.underlying89 rfl HHL.out) (by assumption) ?_;try simp only [Act.put, nz1, nz2, nz3]
 refine wpAnyH_ready (rs := [4, 7]) (by kernel_rfl) (by simp) ?_;refine AllReadyH.cons rfl (fun K hK => ?_) (AllReadyH.cons rfl (fun K hK => ?_) AllReadyH.nil)
 ·(
  rw [if_pos (by rfl)];go_simp;refine hK.out _ _ (HHR.out _ P4d.out.hd) (fun _ => ?_);clear hK K;try simp only [Act.put, nz1, nz2, nz3]
  refine wpAnyH_ready (rs := [7]) (by kernel_rfl) (by simp) ?_;refine AllReadyH.cons rfl (fun K hK => ?_) AllReadyH.nil;go_simp;go_at_call 61; (with_reducible refine (HPA.out _ _ _ DTd.out).mono ?_); rintro e w5 ⟨aN, cN, rfl, K5⟩
  (try go_wp2_with fail)
  have P5 := tHid (P4d.out.nw K5.out.1);have P5r := P5.out.ar;rw [HAC.out] at P5r;have gG5 : w5.cell? ⟨ab, 2, none⟩ = some (.slice aL A.loc.length cL) := cell_of P5r 2 _ rfl;refine hK.out _ _ (HHR.out _ P5.out.hd) (fun _ => ?_);clear hK K;try simp only [Act.put, nz1, nz2, nz3]
  obtain ⟨a6, c6, og6, w6, HA6, PX6⟩ := ptx_app P5.out (.slice aN l.length cN) l (NewP.slr K5.out.2) HAL.out HLL.out;rw [← HNL.out] at HA6 PX6;have P6 := tHid PX6;clear PX6;refine wpAnyH_ready (rs := [8]) (by kernel_rfl) (by simp) ?_;refine AllReadyH.cons rfl (fun K hK => ?_) AllReadyH.nil;rw [if_pos (by rfl)];refine Lib.wp_append_run _ _ _ 34 34 rfl (.slice aL A.loc.length cL) (.slice aN l.length cN) (by first | rfl | simp [Act.eval]) (by first | rfl | simp [Act.eval]) _ _ (HA6 _) ?_;refine hK.out _ _ (HHR.out _ P6.out.hd) (fun _ => ?_);clear hK K HA6
  try simp only [Act.put, nz1, nz2, nz3]
  refine wpAnyH_ready (rs := [10]) (by kernel_rfl) (by simp) ?_;refine AllReadyH.cons rfl (fun K hK => ?_) AllReadyH.nil;go_simp;go_at_call 59; (with_reducible refine (HFE.out _ _ _).mono ?_); rintro e w7 ⟨rfl, K7⟩
  (try go_wp2_with fail)
  have P7 := tHid (P6.out.nw K7);have P7r := P7.out.ar;rw [HAC.out] at P7r;have gG7 : w7.cell? ⟨ab, 2, none⟩ = some (.slice aL A.loc.length cL) := cell_of P7r 2 _ rfl;have fz7 := frz_of P7.out.ar 2;refine hK.out _ _ (HHR.out _ P7.out.hd) (fun _ => ?_);clear hK K;try simp only [Act.put, nz1, nz2, nz3]
  refine tkH (i := 11) (v := ?_) rfl ?_ ?_;rotate_left
  ·intro U hSw; (go_simp <;> with_reducible rfl)
  try simp only [Act.put, nz1, nz2, nz3]
  refine tkH (i := 12) (v := ?_) rfl ?_ ?_;rotate_left
  ·intro U hSw; (go_simp <;> with_reducible rfl)
  try simp only [Act.put, nz1, nz2, nz3]
  refine wpAnyH_ready (rs := [13]) (by kernel_rfl) (by simp) ?_;refine AllReadyH.cons rfl (fun K hK => ?_) AllReadyH.nil;rw [if_pos (by rfl)];go_simp;obtain ⟨W8, hW8⟩ : ∃ W8, w7.setCell ⟨ab, 2, none⟩ (.slice a6 nl c6) = W8 := ⟨_, rfl⟩;have P8 : Hid (Ptx w rb ab hb va vc b vG G og og6 (.slice a6 nl c6) (A.loc ++ l) HC (ahC th fr (.slice a6 nl c6) { A with loc := A.loc ++ l }) pp W8) := by
   rw [← hW8];have := P7.out.st 2 (.slice a6 nl c6);rw [HAC.out] at this;exact this
  (try rw [hW8])
  refine hK.out _ _ (HHR.out _ P8.out.hd) (fun _ => ?_);clear hK K;refine wpAnyH_done (by kernel_rfl) ?_ _;clear hW8 gG7 fz7 P7 P6 P5 gG gG5 P4d DTd P4 DT K5 K7 P4dr P5r P7r z6 z8' z9';obtain ⟨_, _, y9⟩ := HCC.out W8 P8.out.hd;have y0 : W8.cell? ⟨ab, 0, none⟩ = some (.bool th) := cell_of P8.out.ar 0 _ rfl;have y1 : W8.cell? ⟨ab, 1, none⟩ = some (.int .i64 (fr : Nat)) := cell_of P8.out.ar 1 _ rfl;have y2 := frz_of P8.out.ar 0;have y3 := frz_of P8.out.ar 1;cases th with
  | true =>
   have HF := tHid (HOK.out a6 c6 og6 W8 P8.out);clear HOK
   go_wp2_with fail
   go_end0
   exact HF.out
  | false =>
   have HF := tHid (HOK.out a6 c6 og6);clear HOK;go_upto_region 16 with fail
   go_region
   go_end0
   exact HF.out _ (((P8.out.st 0 (.bool true)).st 1 (.int .i64 (q : Nat))).nw (Fr.refl _ _).drew)
  )
 ·(
  go_simp;go_at_call 61; (with_reducible refine (HPA.out _ _ _ DTd.out).mono ?_); rintro e w5 ⟨aN, cN, rfl, K5⟩
  (try go_wp2_with fail)
  have P5 := tHid (P4d.out.nw K5.out.1);have P5r := P5.out.ar;rw [HAC.out] at P5r;have gG5 : w5.cell? ⟨ab, 2, none⟩ = some (.slice aL A.loc.length cL) := cell_of P5r 2 _ rfl;refine hK.out _ _ (HHR.out _ P5.out.hd) (fun _ => ?_);clear hK K;try simp only [Act.put, nz1, nz2, nz3]
  refine wpAnyH_ready (rs := [4]) (by kernel_rfl) (by simp) ?_;refine AllReadyH.cons rfl (fun K hK => ?_) AllReadyH.nil;rw [if_pos (by rfl)];go_simp;refine hK.out _ _ (HHR.out _ P5.out.hd) (fun _ => ?_);clear hK K;try simp only [Act.put, nz1, nz2, nz3]
  obtain ⟨a6, c6, og6, w6, HA6, PX6⟩ := ptx_app P5.out (.slice aN l.length cN) l (NewP.slr K5.out.2) HAL.out HLL.out;rw [← HNL.out] at HA6 PX6;have P6 := tHid PX6;clear PX6;refine wpAnyH_ready (rs := [8]) (by kernel_rfl) (by simp) ?_;refine AllReadyH.cons rfl (fun K hK => ?_) AllReadyH.nil;rw [if_pos (by rfl)];refine Lib.wp_append_run _ _ _ 34 34 rfl (.slice aL A.loc.length cL) (.slice aN l.length cN) (by first | rfl | simp [Act.eval]) (by first | rfl | simp [Act.eval]) _ _ (HA6 _) ?_;refine hK.out _ _ (HHR.out _ P6.out.hd) (fun _ => ?_);clear hK K HA6
  try simp only [Act.put, nz1, nz2, nz3]
  refine wpAnyH_ready (rs := [10]) (by kernel_rfl) (by simp) ?_;refine AllReadyH.cons rfl (fun K hK => ?_) AllReadyH.nil;go_simp;go_at_call 59; (with_reducible refine (HFE.out _ _ _).mono ?_); rintro e w7 ⟨rfl, K7⟩
  (try go_wp2_with fail)
  have P7 := tHid (P6.out.nw K7);have P7r := P7.out.ar;rw [HAC.out] at P7r;have gG7 : w7.cell? ⟨ab, 2, none⟩ = some (.slice aL A.loc.length cL) := cell_of P7r 2 _ rfl;have fz7 := frz_of P7.out.ar 2;refine hK.out _ _ (HHR.out _ P7.out.hd) (fun _ => ?_);clear hK K;try simp only [Act.put, nz1, nz2, nz3]
  refine tkH (i := 11) (v := ?_) rfl ?_ ?_;rotate_left
  ·intro U hSw; (go_simp <;> with_reducible rfl)
  try simp only [Act.put, nz1, nz2, nz3]
  refine tkH (i := 12) (v := ?_) rfl ?_ ?_;rotate_left
  ·intro U hSw; (go_simp <;> with_reducible rfl)
  try simp only [Act.put, nz1, nz2, nz3]
  refine wpAnyH_ready (rs := [13]) (by kernel_rfl) (by simp) ?_;refine AllReadyH.cons rfl (fun K hK => ?_) AllReadyH.nil;rw [if_pos (by rfl)];go_simp;obtain ⟨W8, hW8⟩ : ∃ W8, w7.setCell ⟨ab, 2, none⟩ (.slice a6 nl c6) = W8 := ⟨_, rfl⟩;have P8 : Hid (Ptx w rb ab hb va vc b vG G og og6 (.slice a6 nl c6) (A.loc ++ l) HC (ahC th fr (.slice a6 nl c6) { A with loc := A.loc ++ l }) pp W8) := by
   rw [← hW8];have := P7.out.st 2 (.slice a6 nl c6);rw [HAC.out] at this;exact this
  (try rw [hW8])
  refine hK.out _ _ (HHR.out _ P8.out.hd) (fun _ => ?_);clear hK K;refine wpAnyH_done (by kernel_rfl) ?_ _;clear hW8 gG7 fz7 P7 P6 P5 gG gG5 P4d DTd P4 DT K5 K7 P4dr P5r P7r z6 z8' z9';obtain ⟨_, _, y9⟩ := HCC.out W8 P8.out.hd;have y0 : W8.cell? ⟨ab, 0, none⟩ = some (.bool th) := cell_of P8.out.ar 0 _ rfl;have y1 : W8.cell? ⟨ab, 1, none⟩ = some (.int .i64 (fr : Nat)) := cell_of P8.out.ar 1 _ rfl;have y2 := frz_of P8.out.ar 0;have y3 := frz_of P8.out.ar 1;cases th with
  | true =>
   have HF := tHid (HOK.out a6 c6 og6 W8 P8.out);clear HOK
   go_wp2_with fail
   go_end0
   exact HF.out
  | false =>
   have HF := tHid (HOK.out a6 c6 og6);clear HOK;go_upto_region 16 with fail
   go_region
   go_end0
   exact HF.out _ (((P8.out.st 0 (.bool true)).st 1 (.int .i64 (q : Nat))).nw (Fr.refl _ _).drew)
  )
end Go.Proofs.YtlenihpbhlfcoaaGreatDoor

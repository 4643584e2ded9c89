import Derived.Test.YtlenihpbhlfcoaaGreatDoorUbp
set_option maxHeartbeats 8000000
set_option maxRecDepth 100000
set_option linter.unusedSimpArgs false
set_option linter.unusedVariables false
namespace Go.Proofs.YtlenihpbhlfcoaaGreatDoor
open Go.RowKit Go.Deep
variable {rb ab : Nat} {va : Option Addr} {vc : Nat} {b : List By} {vG : Value} {G : List Pr} {og : Option Nat} {vL : Value} {A : Ah}
theorem qpass_g_parse (w : World) (q : Nat) (hq : q + 512 ≤ b.length) (h : Hr) (hr : Rm (PY rb ab og w) rb va vc b q vG G w) (th : Bool) (fr : Nat) (ha : w.heap[ab]? = some (.cells (ahC th fr vL A) 85)) (hl : OgR RP og vL A.loc w) (hne : rb ≠ ab) (hop : ∀ g, og = some g → g ≠ rb ∧ g ≠ ab) (hz : 0 ≤ h.size ∧ h.size ≤ 9223372036854775807) (hlong : ¬ (1048576 : Int) < h.size) (hk : q + 512 + h.size.toNat + padN h.size.toNat ≤ b.length) (ht : h.typ = 103#8) (hGl : G.length ≤ 1024) (hGk : KyB G) (he : (prs (fd b (q + 512) h.size.toNat) 0 []).2.2 ≠ 0) :
  Calls Tryz.prog 38 #[.pointer (some ⟨rb, 0, none⟩), .agg (hdC h (fd b q 512) q), .pointer (some ⟨ab, 0, none⟩)] w (PssA rb ab va vc b vG og th fr q (psR (b.drop q) h G A) w) := by
 refine asP fun Q hQ => ?_
 unfold psR at hQ;obtain ⟨AC, hAC⟩ : ∃ AC, AC = ahC th fr vL A := ⟨_, rfl⟩;rw [← hAC] at ha;obtain ⟨HC, hHC⟩ : ∃ HC, HC = hdC h (fd b q 512) q := ⟨_, rfl⟩;obtain ⟨hb, hhb⟩ : ∃ hb, w.heap.size = hb := ⟨_, rfl⟩;obtain ⟨W1, hW1⟩ : ∃ W1, w.alloc (.cells HC 89) = W1 := ⟨_, rfl⟩;have P1' : Ptt w rb ab hb va vc b vG G og vL A HC AC q W1 := by rw [← hW1, ← hhb]; exact pt_start hr ha hl hne hop
 obtain ⟨zn, hzn⟩ : ∃ zn : Nat, zn = h.size.toNat := ⟨_, rfl⟩;have ezn : h.size = (zn : Int) := by omega
 rw [← hzn, ezn] at hQ;have hznl : zn ≤ 9223372036854775807 := by omega
 have HCC : Hid (∀ V : World, V.heap[hb]? = some (.cells HC 89) → V.cell? ⟨hb, 6, none⟩ = some (.int .i64 (zn : Nat)) ∧ V.cell? ⟨hb, 8, none⟩ = some (.int .u8 h.typ.toNat) ∧ V.cell? ⟨hb, 526, none⟩ = some (.int .i64 (q : Nat))) := fun V hV => by
  rw [hHC] at hV;exact ⟨cell_of hV 6 _ (hdC_lo h _ q 6 _ (by rw [← ezn]; rfl)), cell_of hV 8 _ (hdC_lo h _ q 8 _ rfl), cell_of hV 526 _ (hdC_at h _ (fd_length b q 512 hq) q)⟩
 have HHI : Hid ((Tryz.prog.info? 89).map (·.size) = some HC.size) := by
  show _ = _;rw [hHC]; exact hd_info h _ (fd_length b q 512 hq) q
 have P1 := tHid P1';have HW1 := tHid hW1;have HHC := tHid hHC;have HAC := tHid hAC;have HQL := tHid hq;have HLT : Hid (ab < w.heap.size ∧ rb < w.heap.size) := ⟨(Array.getElem?_eq_some_iff.1 ha).1, hr.lt⟩;have HGU : Hid (∀ V, Calls Tryz.prog 39 #[.int .i64 (q : Nat), .int .i64 2] V fun x w' => x = gvR (q : Nat) 2 ∧ V = w') := fun V => (qgiveUp_any (q : Nat) 2 V).mono (fun e w' ⟨e1, e2⟩ => ⟨e1, e2.symm⟩)
 rw [← hHC];rw [← hzn] at hk he;rw [ezn] at hlong;clear P1' hW1 hHC hAC hr ha hl hop hz hzn hq;have HTK : ∀ V, Rm (PY rb ab og w) rb va vc b (q + 512) vG G V → Calls Tryz.prog 58 #[.pointer (some ⟨rb, 0, none⟩), .int .i64 (zn : Nat)] V (TkA (PY rb ab og w) rb va vc b (q + 512) zn vG G V) := fun V hV => qtake_any hV (by have := HQL.out; omega) zn hznl
 have hsz : ¬ (1048576 : Int) < (zn : Int) := by omega
 rw [if_neg hsz, tk_place (by have := HQL.out; omega)] at hQ;rw [if_pos hk] at hQ;have hdl : (fd b (q + 512) zn).length = zn := fd_length _ _ _ (by omega);obtain ⟨d, hd⟩ : ∃ d, d = fd b (q + 512) zn := ⟨_, rfl⟩;rw [← hd] at hQ he hdl;simp only at hQ;rw [if_pos ht] at hQ;obtain ⟨pp, hpp⟩ : ∃ pp : Nat, pp = q + 512 + zn + padN zn := ⟨_, rfl⟩
 have HT : Hid (∀ V, Rm (PY rb ab og w) rb va vc b (q + 512) vG G V → Calls Tryz.prog 58 #[.pointer (some ⟨rb, 0, none⟩), .int .i64 (zn : Nat)] V fun e w' => ∃ a' c', e = .returned (.slice a' zn c') ∧ Hid (Sl (fun k => PY rb ab og w k ∨ V.heap.size ≤ k) (.slice a' zn c') d w' ∧ Rm (PY rb ab og w) rb va vc b pp vG G w' ∧ Fr (fun k => k = rb) V w')) := fun V hV => (HTK V hV).mono (fun e w' H => by
  rw [hpp, hd];rcases H with ⟨h1, _⟩ | ⟨_, a', c', h2, h3⟩
  ·omega
  ·exact ⟨a', c', h2, h3⟩)
 obtain ⟨aG, cG, hvG⟩ := ps_form P1.out.rm.gl;subst hvG;obtain ⟨HL, hHL⟩ : ∃ HL : List Value, HL = HC.toList := ⟨_, rfl⟩;have hHA : HC = HL.toArray := by rw [hHL]
 have HHL : Hid ((Tryz.prog.info? 89).map (·.size) = some HL.length) := by
  show _ = _;rw [HHI.out, hHL, Array.length_toList]
 have HHR : Hid (∀ V : World, V.heap[hb]? = some (.cells HC 89) → V.rangeAt hb 0 HL) := fun V hV j v hv => by
  rw [Nat.zero_add];exact cell_of hV j v (by rw [hHA]; simpa using hv)
 have hbl5 : q + 512 ≤ 140737488351232 := by have := P1.out.rm.bl; have := HQL.out; omega
 have hRl := fd_length b q 512 HQL.out;have HQ := tHid hQ;have b1 : ((h.typ.toNat : Int) == 103) = true := by rw [ht]; rfl
 obtain ⟨q5, hq5⟩ : ∃ q5 : Nat, q5 = q + 512 := ⟨_, rfl⟩;have HPA : Hid (∀ {X : Nat → Prop} (a' : Option Addr) (c' : Nat) V, Sl X (.slice a' zn c') d V → Calls Tryz.prog 61 #[.slice a' zn c', .int .i64 (q5 : Nat)] V fun e w' => e = gvR ((q5 + (prs d 0 []).2.1 : Nat) : Int) ((prs d 0 []).2.2 : Nat) ∧ Nw V w') := fun a' c' V hV => (qparsed_any a' zn c' d V hV (by omega) q5 (by omega)).mono (fun e w' H => by
  rcases H with ⟨_, h2, h3⟩ | ⟨h1, _⟩
  ·exact ⟨h2, h3⟩
  ·exact absurd h1 he)
 have HBAD : Hid (∀ V, Fr (PX rb ab og) w V → Alv rb va vc b (.slice aG G.length cG) V → Q (gvR ((q5 + (prs d 0 []).2.1 : Nat) : Int) ((prs d 0 []).2.2 : Nat)) V) := fun V hV hA => by
  rw [HQ.out, if_pos he];refine ⟨?_, hV, hA⟩;have e1 : q + (512 + (prs d 0 []).2.1) = q5 + (prs d 0 []).2.1 := by rw [hq5]; omega
  rw [e1]
 generalize ((q5 + (prs d 0 []).2.1 : Nat) : Int) = PQ at *;generalize (((prs d 0 []).2.2 : Nat) : Int) = PE at *;clear hQ HTK hk ezn hznl hlong hd hdl hpp ht;clear hbl5 hRl hHL hHA;clear hGk hGl he;have HQ5' := tHid hq5;clear hq5;go_enter Tryz.func38, Tryz.ntmps38;go_upto_region 1 with fail;rw [HW1.out];obtain ⟨z6, z8, z9⟩ := HCC.out W1 P1.out.hd;obtain ⟨_, r1, f1, _, _⟩ := P1.out.rm.cells;have hq5 := HQ5'.out;have hqi : (q : Int) + 512 = (q5 : Int) := by omega
 obtain ⟨W2, hW2⟩ : ∃ W2, W1.setCell ⟨rb, 1, none⟩ (.int .i64 (q5 : Nat)) = W2 := ⟨_, rfl⟩;have f2 : Fr (fun k => k = rb) W1 W2 := by rw [← hW2]; exact (Fr.refl _ _).setCell _ _ (.inl rfl)
 have P2 : Hid (Ptt w rb ab hb va vc b (.slice aG G.length cG) G og vL A HC AC (q + 512) W2) := P1.out.rd f2 (by
  rw [← hW2];exact (P1.out.rm.go (q + 512) HQL.out (q5 : Nat) (by rw [hq5])).1)
 have hqw : IntKind.i64.wrap (q5 : Int) = (q5 : Int) := by rw [IntKind.wrap_i64]; have := P1.out.rm.bl; have := HQL.out; omega
 have HQ5 := tHid hq5;have r2 : W2.cell? ⟨rb, 1, none⟩ = some (.int .i64 (q5 : Nat)) := by have := P2.out.rm.cells.2.1; rw [← hq5] at this; exact this
 clear hq5;go_upto_region 4 with fail
 (try rw [hW2])
 clear hW2 f2 r1 f1 hqi hqw z6 z8 z9 P1;obtain ⟨z6, z8, z9⟩ := HCC.out W2 P2.out.hd
 go_wp2_with fail
 go_at_call 58
 with_reducible refine (HT.out _ P2.out.rm).mono ?_
 rintro e w4 ⟨a', c', rfl, K4⟩;have P4 := tHid (P2.out.rd K4.out.2.2 K4.out.2.1);have DT := tHid K4.out.1;obtain ⟨z6, z8', z9'⟩ := HCC.out w4 P4.out.hd;clear K4 P2;go_upto_region 8 with fail;have P4d := tHid (P4.out.nw (Fr.refl _ _).drew);have DTd := tHid (DT.out.nw (Fr.refl _ _).drew);have gG : w4.drew.cell? ⟨rb, 2, none⟩ = some (.slice aG G.length cG) := P4d.out.rm.cells.2.2.2.1;refine wp_region_held_drew (S := (fun U => U.rangeAt hb 0 HL)) (by kernel_rfl) (HHR.out _ P4d.out.hd) (fun hHeld => ?_)
 refine tkH (i := 0) (v := ?_) rfl ?_ ?_;rotate_left
 ·intro U hSw; (go_simp <;> with_reducible rfl)
 try simp only [Act.put, nz1, nz2, nz3]
 refine tkH (i := 1) (v := ?_) rfl ?_ ?_;rotate_left
 ·intro U hSw; (go_simp <;> with_reducible rfl)
 try simp only [Act.put, nz1, nz2, nz3]
 refine tkH (i := 2) (v := ?_) rfl ?_ ?_;rotate_left
 ·intro U hSw; (go_simp <;> with_reducible rfl)
 try simp only [Act.put, nz1, nz2, nz3]
 refine tkH (i := 3) (v := ?_) rfl ?_ ?_;rotate_left
 ·intro U hSw; (go_simp <;> with_reducible rfl)
 try simp only [Act.put, nz1, nz2, nz3]
 refine tkH (i := 5) (v := ?_) rfl ?_ ?_;rotate_left
 ·intro U hSw; (go_simp <;> with_reducible rfl)
 try simp only [Act.put, nz1, nz2, nz3]
 refine tkH (i := 6) (v := ?_) rfl ?_ ?_;rotate_left
 ·intro U hSw; (go_simp <;> with_reducible rfl)
 try simp only [Act.put, nz1, nz2, nz3]
 refine wpAnyH_take (i := 9) (v := .agg HL.toArray) rfl (by kernel_rfl) (by kernel_rfl) (by kernel_rfl) (fun _ _ _ h => h) (yieldsIf_load_mid (by rfl) _ _ rfl hb 0 rfl HL _ (fun U hU => hU) Tryz.underlying89 rfl HHL.out) (by assumption) ?_;try simp only [Act.put, nz1, nz2, nz3]
 refine wpAnyH_ready (rs := [4, 7]) (by kernel_rfl) (by simp) ?_;refine AllReadyH.cons rfl (fun K hK => ?_) (AllReadyH.cons rfl (fun K hK => ?_) AllReadyH.nil)
 ·(
  rw [if_pos (by rfl)];go_simp;refine hK.out _ _ (HHR.out _ P4d.out.hd) (fun _ => ?_);clear hK K;try simp only [Act.put, nz1, nz2, nz3]
  refine wpAnyH_ready (rs := [7]) (by kernel_rfl) (by simp) ?_;refine AllReadyH.cons rfl (fun K hK => ?_) AllReadyH.nil;go_simp;go_at_call 61; (with_reducible refine (HPA.out _ _ _ DTd.out).mono ?_); rintro e w5 ⟨rfl, K5⟩
  (try dsimp only)
  exact ⟨rfl, HBAD.out _ (P4d.out.nw K5).fr (P4d.out.nw K5).rm.alv⟩
  )
 ·(
  go_simp;go_at_call 61; (with_reducible refine (HPA.out _ _ _ DTd.out).mono ?_); rintro e w5 ⟨rfl, K5⟩
  (try dsimp only)
  exact ⟨rfl, HBAD.out _ (P4d.out.nw K5).fr (P4d.out.nw K5).rm.alv⟩
  )
theorem qpass_g_many (w : World) (q : Nat) (hq : q + 512 ≤ b.length) (h : Hr) (hr : Rm (PY rb ab og w) rb va vc b q vG G w) (th : Bool) (fr : Nat) (ha : w.heap[ab]? = some (.cells (ahC th fr vL A) 85)) (hl : OgR RP og vL A.loc w) (hne : rb ≠ ab) (hop : ∀ g, og = some g → g ≠ rb ∧ g ≠ ab) (hz : 0 ≤ h.size ∧ h.size ≤ 9223372036854775807) (hlong : ¬ (1048576 : Int) < h.size) (hk : q + 512 + h.size.toNat + padN h.size.toNat ≤ b.length) (ht : h.typ = 103#8) (hGl : G.length ≤ 1024) (hGk : KyB G) (he : (prs (fd b (q + 512) h.size.toNat) 0 []).2.2 = 0) (hm : 1024 < (mergeV G (prs (fd b (q + 512) h.size.toNat) 0 []).1).length) :
  Calls Tryz.prog 38 #[.pointer (some ⟨rb, 0, none⟩), .agg (hdC h (fd b q 512) q), .pointer (some ⟨ab, 0, none⟩)] w (PssA rb ab va vc b vG og th fr q (psR (b.drop q) h G A) w) := by
 refine asP fun Q hQ => ?_
 unfold psR at hQ;obtain ⟨AC, hAC⟩ : ∃ AC, AC = ahC th fr vL A := ⟨_, rfl⟩;rw [← hAC] at ha;obtain ⟨HC, hHC⟩ : ∃ HC, HC = hdC h (fd b q 512) q := ⟨_, rfl⟩;obtain ⟨hb, hhb⟩ : ∃ hb, w.heap.size = hb := ⟨_, rfl⟩;obtain ⟨W1, hW1⟩ : ∃ W1, w.alloc (.cells HC 89) = W1 := ⟨_, rfl⟩;have P1' : Ptt w rb ab hb va vc b vG G og vL A HC AC q W1 := by rw [← hW1, ← hhb]; exact pt_start hr ha hl hne hop
 obtain ⟨zn, hzn⟩ : ∃ zn : Nat, zn = h.size.toNat := ⟨_, rfl⟩;have ezn : h.size = (zn : Int) := by omega
 rw [← hzn, ezn] at hQ;have hznl : zn ≤ 9223372036854775807 := by omega
 have HCC : Hid (∀ V : World, V.heap[hb]? = some (.cells HC 89) → V.cell? ⟨hb, 6, none⟩ = some (.int .i64 (zn : Nat)) ∧ V.cell? ⟨hb, 8, none⟩ = some (.int .u8 h.typ.toNat) ∧ V.cell? ⟨hb, 526, none⟩ = some (.int .i64 (q : Nat))) := fun V hV => by
  rw [hHC] at hV;exact ⟨cell_of hV 6 _ (hdC_lo h _ q 6 _ (by rw [← ezn]; rfl)), cell_of hV 8 _ (hdC_lo h _ q 8 _ rfl), cell_of hV 526 _ (hdC_at h _ (fd_length b q 512 hq) q)⟩
 have HHI : Hid ((Tryz.prog.info? 89).map (·.size) = some HC.size) := by
  show _ = _;rw [hHC]; exact hd_info h _ (fd_length b q 512 hq) q
 have P1 := tHid P1';have HW1 := tHid hW1;have HHC := tHid hHC;have HAC := tHid hAC;have HQL := tHid hq;have HLT : Hid (ab < w.heap.size ∧ rb < w.heap.size) := ⟨(Array.getElem?_eq_some_iff.1 ha).1, hr.lt⟩;have HGU : Hid (∀ V, Calls Tryz.prog 39 #[.int .i64 (q : Nat), .int .i64 2] V fun x w' => x = gvR (q : Nat) 2 ∧ V = w') := fun V => (qgiveUp_any (q : Nat) 2 V).mono (fun e w' ⟨e1, e2⟩ => ⟨e1, e2.symm⟩)
 rw [← hHC];rw [← hzn] at hk he;rw [← hzn] at hm;rw [ezn] at hlong;clear P1' hW1 hHC hAC hr ha hl hop hz hzn hq;have HTK : ∀ V, Rm (PY rb ab og w) rb va vc b (q + 512) vG G V → Calls Tryz.prog 58 #[.pointer (some ⟨rb, 0, none⟩), .int .i64 (zn : Nat)] V (TkA (PY rb ab og w) rb va vc b (q + 512) zn vG G V) := fun V hV => qtake_any hV (by have := HQL.out; omega) zn hznl
 have hsz : ¬ (1048576 : Int) < (zn : Int) := by omega
 rw [if_neg hsz, tk_place (by have := HQL.out; omega)] at hQ;rw [if_pos hk] at hQ;have hdl : (fd b (q + 512) zn).length = zn := fd_length _ _ _ (by omega);obtain ⟨d, hd⟩ : ∃ d, d = fd b (q + 512) zn := ⟨_, rfl⟩;rw [← hd] at hQ he hdl hm;simp only at hQ;rw [if_pos ht] at hQ;obtain ⟨pp, hpp⟩ : ∃ pp : Nat, pp = q + 512 + zn + padN zn := ⟨_, rfl⟩
 have HT : Hid (∀ V, Rm (PY rb ab og w) rb va vc b (q + 512) vG G V → Calls Tryz.prog 58 #[.pointer (some ⟨rb, 0, none⟩), .int .i64 (zn : Nat)] V fun e w' => ∃ a' c', e = .returned (.slice a' zn c') ∧ Hid (Sl (fun k => PY rb ab og w k ∨ V.heap.size ≤ k) (.slice a' zn c') d w' ∧ Rm (PY rb ab og w) rb va vc b pp vG G w' ∧ Fr (fun k => k = rb) V w')) := fun V hV => (HTK V hV).mono (fun e w' H => by
  rw [hpp, hd];rcases H with ⟨h1, _⟩ | ⟨_, a', c', h2, h3⟩
  ·omega
  ·exact ⟨a', c', h2, h3⟩)
 obtain ⟨aG, cG, hvG⟩ := ps_form P1.out.rm.gl;subst hvG;obtain ⟨HL, hHL⟩ : ∃ HL : List Value, HL = HC.toList := ⟨_, rfl⟩;have hHA : HC = HL.toArray := by rw [hHL]
 have HHL : Hid ((Tryz.prog.info? 89).map (·.size) = some HL.length) := by
  show _ = _;rw [HHI.out, hHL, Array.length_toList]
 have HHR : Hid (∀ V : World, V.heap[hb]? = some (.cells HC 89) → V.rangeAt hb 0 HL) := fun V hV j v hv => by
  rw [Nat.zero_add];exact cell_of hV j v (by rw [hHA]; simpa using hv)
 have hbl5 : q + 512 ≤ 140737488351232 := by have := P1.out.rm.bl; have := HQL.out; omega
 have hRl := fd_length b q 512 HQL.out;have HQ := tHid hQ;have b1 : ((h.typ.toNat : Int) == 103) = true := by rw [ht]; rfl
 obtain ⟨q5, hq5⟩ : ∃ q5 : Nat, q5 = q + 512 := ⟨_, rfl⟩;obtain ⟨l, hl0⟩ : ∃ l, l = (prs d 0 []).1 := ⟨_, rfl⟩;rw [← hl0] at hm;have hfit := prs_fit d he;rw [← hl0] at hfit;have hll : l.length ≤ 1048576 := by have := hfit.1; omega
 have hlk : ∀ x ∈ l, x.1.length ≤ 140737488351232 := fun x hx => by have := (hfit.2 x hx).1; omega
 obtain ⟨MG, hMG⟩ : ∃ MG, MG = mergeV G l := ⟨_, rfl⟩;rw [← hMG] at hm;have hml : MG.length ≤ 2000000 := by rw [hMG]; have := merge_lenP G l; omega
 have HPA : Hid (∀ {X : Nat → Prop} (a' : Option Addr) (c' : Nat) V, Sl X (.slice a' zn c') d V → Calls Tryz.prog 61 #[.slice a' zn c', .int .i64 (q5 : Nat)] V fun e w' => ∃ aN cN, e = .returned (.slice aN l.length cN) ∧ Hid (Nw V w' ∧ NewP V (.slice aN l.length cN) l w')) := fun a' c' V hV => (qparsed_any a' zn c' d V hV (by omega) q5 (by omega)).mono (fun e w' H => by
  rcases H with ⟨h1, _⟩ | ⟨_, v, h2, h3⟩
  ·exact absurd he h1
  ·obtain ⟨h4, o, h5, h6⟩ := h3.out;rw [← hl0] at h5;obtain ⟨aN, cN, ev, _⟩ := h5.form;subst ev;exact ⟨aN, cN, h2, h4, o, h5, h6⟩)
 have HME : Hid (∀ (aN : Option Addr) (cN : Nat) V, Ptt w rb ab hb va vc b (.slice aG G.length cG) G og vL A HC AC pp V → (∃ X, SlR RP X (.slice aN l.length cN) l V) → Calls Tryz.prog 60 #[.slice aG G.length cG, .slice aN l.length cN] V fun e w' => ∃ aM cM, e = .returned (.slice aM MG.length cM) ∧ Hid (Nw V w' ∧ NewP V (.slice aM MG.length cM) MG w')) := fun aN cN V hV hN => by
  obtain ⟨X, hX⟩ := hN;refine (merge_any V _ _ G l hV.rm.gl hX (by omega) (fun x hx => (List.mem_append.1 hx).elim (fun hx => hGk x hx) (fun hx => hlk x hx))).mono ?_;rintro e w' ⟨v, rfl, H⟩;obtain ⟨h4, o, h5, h6⟩ := H.out;rw [← hMG] at h5;obtain ⟨aM, cM, ev, _⟩ := h5.form;subst ev;exact ⟨aM, cM, rfl, h4, o, h5, h6⟩
 have HFE : Hid (∀ (aM : Option Addr) (cM : Nat) V, Calls Tryz.prog 59 #[.slice aM MG.length cM, .agg HL.toArray] V fun e w' => e = gvR (q : Nat) 2 ∧ Nw V w') := fun aM cM V => by
  rw [← hHA, HHC.out];refine (qfew_any aM MG.length cM (by omega) h (fd b q 512) hRl q V).mono ?_;rintro e w' (⟨h1, h2, h3⟩ | ⟨h1, h2, h3⟩)
  ·exact ⟨h2, h3⟩
  ·omega
 have HBAD : Hid (∀ V, Fr (PX rb ab og) w V → Alv rb va vc b (.slice aG G.length cG) V → Q (gvR (q : Nat) 2) V) := fun V hV hA => by
  rw [HQ.out, if_neg (fun hne => hne he), ← hl0, ← hMG, if_pos hm];exact ⟨by rw [Nat.add_zero]; rfl, hV, hA⟩
 clear hQ HTK hk ezn hznl hlong hd hdl hpp ht;clear hbl5 hRl hHL hHA;clear hll hlk hml hfit hGk hGl hl0 hMG hm he;have HQ5' := tHid hq5;clear hq5;go_enter Tryz.func38, Tryz.ntmps38;go_upto_region 1 with fail;rw [HW1.out];obtain ⟨z6, z8, z9⟩ := HCC.out W1 P1.out.hd;obtain ⟨_, r1, f1, _, _⟩ := P1.out.rm.cells;have hq5 := HQ5'.out;have hqi : (q : Int) + 512 = (q5 : Int) := by omega
 obtain ⟨W2, hW2⟩ : ∃ W2, W1.setCell ⟨rb, 1, none⟩ (.int .i64 (q5 : Nat)) = W2 := ⟨_, rfl⟩;have f2 : Fr (fun k => k = rb) W1 W2 := by rw [← hW2]; exact (Fr.refl _ _).setCell _ _ (.inl rfl)
 have P2 : Hid (Ptt w rb ab hb va vc b (.slice aG G.length cG) G og vL A HC AC (q + 512) W2) := P1.out.rd f2 (by
  rw [← hW2];exact (P1.out.rm.go (q + 512) HQL.out (q5 : Nat) (by rw [hq5])).1)
 have hqw : IntKind.i64.wrap (q5 : Int) = (q5 : Int) := by rw [IntKind.wrap_i64]; have := P1.out.rm.bl; have := HQL.out; omega
 have HQ5 := tHid hq5;have r2 : W2.cell? ⟨rb, 1, none⟩ = some (.int .i64 (q5 : Nat)) := by have := P2.out.rm.cells.2.1; rw [← hq5] at this; exact this
 clear hq5;go_upto_region 4 with fail
 (try rw [hW2])
 clear hW2 f2 r1 f1 hqi hqw z6 z8 z9 P1;obtain ⟨z6, z8, z9⟩ := HCC.out W2 P2.out.hd
 go_wp2_with fail
 go_at_call 58
 with_reducible refine (HT.out _ P2.out.rm).mono ?_
 rintro e w4 ⟨a', c', rfl, K4⟩;have P4 := tHid (P2.out.rd K4.out.2.2 K4.out.2.1);have DT := tHid K4.out.1;obtain ⟨z6, z8', z9'⟩ := HCC.out w4 P4.out.hd;clear K4 P2;go_upto_region 8 with fail;have P4d := tHid (P4.out.nw (Fr.refl _ _).drew);have DTd := tHid (DT.out.nw (Fr.refl _ _).drew);have gG : w4.drew.cell? ⟨rb, 2, none⟩ = some (.slice aG G.length cG) := P4d.out.rm.cells.2.2.2.1;refine wp_region_held_drew (S := (fun U => U.rangeAt hb 0 HL)) (by kernel_rfl) (HHR.out _ P4d.out.hd) (fun hHeld => ?_)
 refine tkH (i := 0) (v := ?_) rfl ?_ ?_;rotate_left
 ·intro U hSw; (go_simp <;> with_reducible rfl)
 try simp only [Act.put, nz1, nz2, nz3]
 refine tkH (i := 1) (v := ?_) rfl ?_ ?_;rotate_left
 ·intro U hSw; (go_simp <;> with_reducible rfl)
 try simp only [Act.put, nz1, nz2, nz3]
 refine tkH (i := 2) (v := ?_) rfl ?_ ?_;rotate_left
 ·intro U hSw; (go_simp <;> with_reducible rfl)
 try simp only [Act.put, nz1, nz2, nz3]
 refine tkH (i := 3) (v := ?_) rfl ?_ ?_;rotate_left
 ·intro U hSw; (go_simp <;> with_reducible rfl)
 try simp only [Act.put, nz1, nz2, nz3]
 refine tkH (i := 5) (v := ?_) rfl ?_ ?_;rotate_left
 ·intro U hSw; (go_simp <;> with_reducible rfl)
 try simp only [Act.put, nz1, nz2, nz3]
 refine tkH (i := 6) (v := ?_) rfl ?_ ?_;rotate_left
 ·intro U hSw; (go_simp <;> with_reducible rfl)
 try simp only [Act.put, nz1, nz2, nz3]
 refine wpAnyH_take (i := 9) (v := .agg HL.toArray) rfl (by kernel_rfl) (by kernel_rfl) (by kernel_rfl) (fun _ _ _ h => h) (yieldsIf_load_mid (by rfl) _ _ rfl hb 0 rfl HL _ (fun U hU => hU) Tryz.underlying89 rfl HHL.out) (by assumption) ?_;try simp only [Act.put, nz1, nz2, nz3]
 refine wpAnyH_ready (rs := [4, 7]) (by kernel_rfl) (by simp) ?_;refine AllReadyH.cons rfl (fun K hK => ?_) (AllReadyH.cons rfl (fun K hK => ?_) AllReadyH.nil)
 ·(
  rw [if_pos (by rfl)];go_simp;refine hK.out _ _ (HHR.out _ P4d.out.hd) (fun _ => ?_);clear hK K;try simp only [Act.put, nz1, nz2, nz3]
  refine wpAnyH_ready (rs := [7]) (by kernel_rfl) (by simp) ?_;refine AllReadyH.cons rfl (fun K hK => ?_) AllReadyH.nil;go_simp;go_at_call 61; (with_reducible refine (HPA.out _ _ _ DTd.out).mono ?_); rintro e w5 ⟨aN, cN, rfl, K5⟩
  (try go_wp2_with fail)
  have P5 := tHid (P4d.out.nw K5.out.1);have gG5 : w5.cell? ⟨rb, 2, none⟩ = some (.slice aG G.length cG) := P5.out.rm.cells.2.2.2.1;refine hK.out _ _ (HHR.out _ P5.out.hd) (fun _ => ?_);clear hK K;try simp only [Act.put, nz1, nz2, nz3]
  refine wpAnyH_ready (rs := [8]) (by kernel_rfl) (by simp) ?_;refine AllReadyH.cons rfl (fun K hK => ?_) AllReadyH.nil;go_simp;go_at_call 60; (with_reducible refine (HME.out _ _ _ P5.out (NewP.slr K5.out.2)).mono ?_); rintro e w6 ⟨aM, cM, rfl, K6⟩
  (try go_wp2_with fail)
  have P6 := tHid (P5.out.nw K6.out.1);refine hK.out _ _ (HHR.out _ P6.out.hd) (fun _ => ?_);clear hK K;try simp only [Act.put, nz1, nz2, nz3]
  refine wpAnyH_ready (rs := [10]) (by kernel_rfl) (by simp) ?_;refine AllReadyH.cons rfl (fun K hK => ?_) AllReadyH.nil;go_simp;go_at_call 59; (with_reducible refine (HFE.out _ _ _).mono ?_); rintro e w7 ⟨rfl, K7⟩
  (try dsimp only)
  exact ⟨rfl, HBAD.out _ (P6.out.nw K7).fr (P6.out.nw K7).rm.alv⟩
  )
 ·(
  go_simp;go_at_call 61; (with_reducible refine (HPA.out _ _ _ DTd.out).mono ?_); rintro e w5 ⟨aN, cN, rfl, K5⟩
  (try go_wp2_with fail)
  have P5 := tHid (P4d.out.nw K5.out.1);have gG5 : w5.cell? ⟨rb, 2, none⟩ = some (.slice aG G.length cG) := P5.out.rm.cells.2.2.2.1;refine hK.out _ _ (HHR.out _ P5.out.hd) (fun _ => ?_);clear hK K;try simp only [Act.put, nz1, nz2, nz3]
  refine wpAnyH_ready (rs := [4]) (by kernel_rfl) (by simp) ?_;refine AllReadyH.cons rfl (fun K hK => ?_) AllReadyH.nil;rw [if_pos (by rfl)];go_simp;refine hK.out _ _ (HHR.out _ P5.out.hd) (fun _ => ?_);clear hK K;try simp only [Act.put, nz1, nz2, nz3]
  refine wpAnyH_ready (rs := [8]) (by kernel_rfl) (by simp) ?_;refine AllReadyH.cons rfl (fun K hK => ?_) AllReadyH.nil;go_simp;go_at_call 60; (with_reducible refine (HME.out _ _ _ P5.out (NewP.slr K5.out.2)).mono ?_); rintro e w6 ⟨aM, cM, rfl, K6⟩
  (try go_wp2_with fail)
  have P6 := tHid (P5.out.nw K6.out.1);refine hK.out _ _ (HHR.out _ P6.out.hd) (fun _ => ?_);clear hK K;try simp only [Act.put, nz1, nz2, nz3]
  refine wpAnyH_ready (rs := [10]) (by kernel_rfl) (by simp) ?_;refine AllReadyH.cons rfl (fun K hK => ?_) AllReadyH.nil;go_simp;go_at_call 59; (with_reducible refine (HFE.out _ _ _).mono ?_); rintro e w7 ⟨rfl, K7⟩
  (try dsimp only)
  exact ⟨rfl, HBAD.out _ (P6.out.nw K7).fr (P6.out.nw K7).rm.alv⟩
  )
theorem qpass_g_ok (w : World) (q : Nat) (hq : q + 512 ≤ b.length) (h : Hr) (hr : Rm (PY rb ab og w) rb va vc b q vG G w) (th : Bool) (fr : Nat) (ha : w.heap[ab]? = some (.cells (ahC th fr vL A) 85)) (hl : OgR RP og vL A.loc w) (hne : rb ≠ ab) (hop : ∀ g, og = some g → g ≠ rb ∧ g ≠ ab) (hz : 0 ≤ h.size ∧ h.size ≤ 9223372036854775807) (hlong : ¬ (1048576 : Int) < h.size) (hk : q + 512 + h.size.toNat + padN h.size.toNat ≤ b.length) (ht : h.typ = 103#8) (hGl : G.length ≤ 1024) (hGk : KyB G) (he : (prs (fd b (q + 512) h.size.toNat) 0 []).2.2 = 0) (hm : ¬ 1024 < (mergeV G (prs (fd b (q + 512) h.size.toNat) 0 []).1).length) :
  Calls Tryz.prog 38 #[.pointer (some ⟨rb, 0, none⟩), .agg (hdC h (fd b q 512) q), .pointer (some ⟨ab, 0, none⟩)] w (PssA rb ab va vc b vG og th fr q (psR (b.drop q) h G A) w) := by
 refine asP fun Q hQ => ?_
 unfold psR at hQ;obtain ⟨AC, hAC⟩ : ∃ AC, AC = ahC th fr vL A := ⟨_, rfl⟩;rw [← hAC] at ha;obtain ⟨HC, hHC⟩ : ∃ HC, HC = hdC h (fd b q 512) q := ⟨_, rfl⟩;obtain ⟨hb, hhb⟩ : ∃ hb, w.heap.size = hb := ⟨_, rfl⟩;obtain ⟨W1, hW1⟩ : ∃ W1, w.alloc (.cells HC 89) = W1 := ⟨_, rfl⟩;have P1' : Ptt w rb ab hb va vc b vG G og vL A HC AC q W1 := by rw [← hW1, ← hhb]; exact pt_start hr ha hl hne hop
 obtain ⟨zn, hzn⟩ : ∃ zn : Nat, zn = h.size.toNat := ⟨_, rfl⟩;have ezn : h.size = (zn : Int) := by omega
 rw [← hzn, ezn] at hQ;have hznl : zn ≤ 9223372036854775807 := by omega
 have HCC : Hid (∀ V : World, V.heap[hb]? = some (.cells HC 89) → V.cell? ⟨hb, 6, none⟩ = some (.int .i64 (zn : Nat)) ∧ V.cell? ⟨hb, 8, none⟩ = some (.int .u8 h.typ.toNat) ∧ V.cell? ⟨hb, 526, none⟩ = some (.int .i64 (q : Nat))) := fun V hV => by
  rw [hHC] at hV;exact ⟨cell_of hV 6 _ (hdC_lo h _ q 6 _ (by rw [← ezn]; rfl)), cell_of hV 8 _ (hdC_lo h _ q 8 _ rfl), cell_of hV 526 _ (hdC_at h _ (fd_length b q 512 hq) q)⟩
 have HHI : Hid ((Tryz.prog.info? 89).map (·.size) = some HC.size) := by
  show _ = _;rw [hHC]; exact hd_info h _ (fd_length b q 512 hq) q
 have P1 := tHid P1';have HW1 := tHid hW1;have HHC := tHid hHC;have HAC := tHid hAC;have HQL := tHid hq;have HLT : Hid (ab < w.heap.size ∧ rb < w.heap.size) := ⟨(Array.getElem?_eq_some_iff.1 ha).1, hr.lt⟩;have HGU : Hid (∀ V, Calls Tryz.prog 39 #[.int .i64 (q : Nat), .int .i64 2] V fun x w' => x = gvR (q : Nat) 2 ∧ V = w') := fun V => (qgiveUp_any (q : Nat) 2 V).mono (fun e w' ⟨e1, e2⟩ => ⟨e1, e2.symm⟩)
 rw [← hHC];rw [← hzn] at hk he;rw [← hzn] at hm;rw [ezn] at hlong;clear P1' hW1 hHC hAC hr ha hl hop hz hzn hq;have HTK : ∀ V, Rm (PY rb ab og w) rb va vc b (q + 512) vG G V → Calls Tryz.prog 58 #[.pointer (some ⟨rb, 0, none⟩), .int .i64 (zn : Nat)] V (TkA (PY rb ab og w) rb va vc b (q + 512) zn vG G V) := fun V hV => qtake_any hV (by have := HQL.out; omega) zn hznl
 have hsz : ¬ (1048576 : Int) < (zn : Int) := by omega
 rw [if_neg hsz, tk_place (by have := HQL.out; omega)] at hQ;rw [if_pos hk] at hQ;have hdl : (fd b (q + 512) zn).length = zn := fd_length _ _ _ (by omega);obtain ⟨d, hd⟩ : ∃ d, d = fd b (q + 512) zn := ⟨_, rfl⟩;rw [← hd] at hQ he hdl hm;simp only at hQ;rw [if_pos ht] at hQ;obtain ⟨pp, hpp⟩ : ∃ pp : Nat, pp = q + 512 + zn + padN zn := ⟨_, rfl⟩
 have HT : Hid (∀ V, Rm (PY rb ab og w) rb va vc b (q + 512) vG G V → Calls Tryz.prog 58 #[.pointer (some ⟨rb, 0, none⟩), .int .i64 (zn : Nat)] V fun e w' => ∃ a' c', e = .returned (.slice a' zn c') ∧ Hid (Sl (fun k => PY rb ab og w k ∨ V.heap.size ≤ k) (.slice a' zn c') d w' ∧ Rm (PY rb ab og w) rb va vc b pp vG G w' ∧ Fr (fun k => k = rb) V w')) := fun V hV => (HTK V hV).mono (fun e w' H => by
  rw [hpp, hd];rcases H with ⟨h1, _⟩ | ⟨_, a', c', h2, h3⟩
  ·omega
  ·exact ⟨a', c', h2, h3⟩)
 obtain ⟨aG, cG, hvG⟩ := ps_form P1.out.rm.gl;subst hvG;obtain ⟨HL, hHL⟩ : ∃ HL : List Value, HL = HC.toList := ⟨_, rfl⟩;have hHA : HC = HL.toArray := by rw [hHL]
 have HHL : Hid ((Tryz.prog.info? 89).map (·.size) = some HL.length) := by
  show _ = _;rw [HHI.out, hHL, Array.length_toList]
 have HHR : Hid (∀ V : World, V.heap[hb]? = some (.cells HC 89) → V.rangeAt hb 0 HL) := fun V hV j v hv => by
  rw [Nat.zero_add];exact cell_of hV j v (by rw [hHA]; simpa using hv)
 have hbl5 : q + 512 ≤ 140737488351232 := by have := P1.out.rm.bl; have := HQL.out; omega
 have hRl := fd_length b q 512 HQL.out;have HQ := tHid hQ;have b1 : ((h.typ.toNat : Int) == 103) = true := by rw [ht]; rfl
 obtain ⟨q5, hq5⟩ : ∃ q5 : Nat, q5 = q + 512 := ⟨_, rfl⟩;obtain ⟨l, hl0⟩ : ∃ l, l = (prs d 0 []).1 := ⟨_, rfl⟩;rw [← hl0] at hm;have hfit := prs_fit d he;rw [← hl0] at hfit;have hll : l.length ≤ 1048576 := by have := hfit.1; omega
 have hlk : ∀ x ∈ l, x.1.length ≤ 140737488351232 := fun x hx => by have := (hfit.2 x hx).1; omega
 obtain ⟨MG, hMG⟩ : ∃ MG, MG = mergeV G l := ⟨_, rfl⟩;rw [← hMG] at hm;have hml : MG.length ≤ 2000000 := by rw [hMG]; have := merge_lenP G l; omega
 have HPA : Hid (∀ {X : Nat → Prop} (a' : Option Addr) (c' : Nat) V, Sl X (.slice a' zn c') d V → Calls Tryz.prog 61 #[.slice a' zn c', .int .i64 (q5 : Nat)] V fun e w' => ∃ aN cN, e = .returned (.slice aN l.length cN) ∧ Hid (Nw V w' ∧ NewP V (.slice aN l.length cN) l w')) := fun a' c' V hV => (qparsed_any a' zn c' d V hV (by omega) q5 (by omega)).mono (fun e w' H => by
  rcases H with ⟨h1, _⟩ | ⟨_, v, h2, h3⟩
  ·exact absurd he h1
  ·obtain ⟨h4, o, h5, h6⟩ := h3.out;rw [← hl0] at h5;obtain ⟨aN, cN, ev, _⟩ := h5.form;subst ev;exact ⟨aN, cN, h2, h4, o, h5, h6⟩)
 have HME : Hid (∀ (aN : Option Addr) (cN : Nat) V, Ptt w rb ab hb va vc b (.slice aG G.length cG) G og vL A HC AC pp V → (∃ X, SlR RP X (.slice aN l.length cN) l V) → Calls Tryz.prog 60 #[.slice aG G.length cG, .slice aN l.length cN] V fun e w' => ∃ aM cM, e = .returned (.slice aM MG.length cM) ∧ Hid (Nw V w' ∧ NewP V (.slice aM MG.length cM) MG w')) := fun aN cN V hV hN => by
  obtain ⟨X, hX⟩ := hN;refine (merge_any V _ _ G l hV.rm.gl hX (by omega) (fun x hx => (List.mem_append.1 hx).elim (fun hx => hGk x hx) (fun hx => hlk x hx))).mono ?_;rintro e w' ⟨v, rfl, H⟩;obtain ⟨h4, o, h5, h6⟩ := H.out;rw [← hMG] at h5;obtain ⟨aM, cM, ev, _⟩ := h5.form;subst ev;exact ⟨aM, cM, rfl, h4, o, h5, h6⟩
 have HFE : Hid (∀ (aM : Option Addr) (cM : Nat) V, Calls Tryz.prog 59 #[.slice aM MG.length cM, .agg HL.toArray] V fun e w' => e = .returned (.slice aM MG.length cM) ∧ Nw V w') := fun aM cM V => by
  rw [← hHA, HHC.out];refine (qfew_any aM MG.length cM (by omega) h (fd b q 512) hRl q V).mono ?_;rintro e w' (⟨h1, h2, h3⟩ | ⟨h1, h2, h3⟩)
  ·omega
  ·exact ⟨h2, h3⟩
 have HOK : Hid (∀ (aM : Option Addr) (cM : Nat) V U, Ptt w rb ab hb va vc b (.slice aG G.length cG) G og vL A HC AC pp V → V.setCell ⟨rb, 2, none⟩ (.slice aM MG.length cM) = U → (∃ o, OgR RP o (.slice aM MG.length cM) MG V ∧ ∀ g, o = some g → w.heap.size ≤ g ∧ og ≠ some g) → U.heap[hb]? = some (.cells HC 89) ∧ Q (.returned (.tuple #[])) U) := fun aM cM V U hV hU hN => by
  have k : Fr (fun k => k = rb) V U := by rw [← hU]; exact (Fr.refl _ _).setCell _ _ (.inl rfl)
  have hrow := row_setN hV.rm.row 2 (.slice aM MG.length cM);rw [hU] at hrow;obtain ⟨o, h1, h2⟩ := hN;have hab : ab < w.heap.size ∧ rb < w.heap.size := HLT.out;refine ⟨cell_kept k hV.hd hV.ne.2.1, ?_⟩;rw [HQ.out, if_neg (fun hne => hne he), ← hl0, ← hMG, if_neg hm];have e1 : q + (512 + zn + padN zn) = pp := by rw [hpp]; omega
  have har : U.heap[ab]? = some (.cells AC 85) := cell_kept k hV.ar (fun e => hV.ne.1 e.symm);rw [HAC.out] at har;refine ⟨.slice aM MG.length cM, vL, og, rfl, hV.fr.trans (k.mono (fun i hi => .inl (.inl hi))), har, ?_, hV.lo.kept k (fun g hg e => (hV.op g hg).1 e), .inl rfl, .inr (((h1.kept k (fun g hg e => by have := (h2 g hg).1; omega)).slr rpOk).mono (fun g hg e => by have hg' : g < w.heap.size := hg; have := (h2 g e).1; omega))⟩;rw [e1];have sz := geP hV.fr;have sz2 := geP k;refine ⟨hrow, ?_, ?_, .inl rfl, hV.rm.pl, hV.rm.bl⟩
  ·exact (hV.rm.sl.kept k (fun i hi => .inl hi)).mono (fun g hg => hg.elim .inl (fun hg => .inr (hg.elim .inl (fun hg => .inr (hg.elim .inl (fun hg => .inr (by omega)))))))
  ·have h3 : OgR RP o (.slice aM MG.length cM) MG U := h1.kept k (fun g hg e => by have := (h2 g hg).1; omega);refine (h3.slr rpOk).mono (fun g hg e => ?_);have h4 := h2 g e;have h5 := h3.lt g e;rcases hg with rfl | rfl | hg | hg
   ·omega
   ·omega
   ·exact h4.2 hg
   ·omega
 clear hQ HTK hk ezn hznl hlong hd hdl hpp ht;clear hbl5 hRl hHL hHA;clear hll hlk hml hfit hGk hGl hl0 hMG hm he;have HQ5' := tHid hq5;clear hq5;go_enter Tryz.func38, Tryz.ntmps38;go_upto_region 1 with fail;rw [HW1.out];obtain ⟨z6, z8, z9⟩ := HCC.out W1 P1.out.hd;obtain ⟨_, r1, f1, _, _⟩ := P1.out.rm.cells;have hq5 := HQ5'.out;have hqi : (q : Int) + 512 = (q5 : Int) := by omega
 obtain ⟨W2, hW2⟩ : ∃ W2, W1.setCell ⟨rb, 1, none⟩ (.int .i64 (q5 : Nat)) = W2 := ⟨_, rfl⟩;have f2 : Fr (fun k => k = rb) W1 W2 := by rw [← hW2]; exact (Fr.refl _ _).setCell _ _ (.inl rfl)
 have P2 : Hid (Ptt w rb ab hb va vc b (.slice aG G.length cG) G og vL A HC AC (q + 512) W2) := P1.out.rd f2 (by
  rw [← hW2];exact (P1.out.rm.go (q + 512) HQL.out (q5 : Nat) (by rw [hq5])).1)
 have hqw : IntKind.i64.wrap (q5 : Int) = (q5 : Int) := by rw [IntKind.wrap_i64]; have := P1.out.rm.bl; have := HQL.out; omega
 have HQ5 := tHid hq5;have r2 : W2.cell? ⟨rb, 1, none⟩ = some (.int .i64 (q5 : Nat)) := by have := P2.out.rm.cells.2.1; rw [← hq5] at this; exact this
 clear hq5;go_upto_region 4 with fail
 (try rw [hW2])
 clear hW2 f2 r1 f1 hqi hqw z6 z8 z9 P1;obtain ⟨z6, z8, z9⟩ := HCC.out W2 P2.out.hd
 go_wp2_with fail
 go_at_call 58
 with_reducible refine (HT.out _ P2.out.rm).mono ?_
 rintro e w4 ⟨a', c', rfl, K4⟩;have P4 := tHid (P2.out.rd K4.out.2.2 K4.out.2.1);have DT := tHid K4.out.1;obtain ⟨z6, z8', z9'⟩ := HCC.out w4 P4.out.hd;clear K4 P2;go_upto_region 8 with fail;have P4d := tHid (P4.out.nw (Fr.refl _ _).drew);have DTd := tHid (DT.out.nw (Fr.refl _ _).drew);have gG : w4.drew.cell? ⟨rb, 2, none⟩ = some (.slice aG G.length cG) := P4d.out.rm.cells.2.2.2.1;refine wp_region_held_drew (S := (fun U => U.rangeAt hb 0 HL)) (by kernel_rfl) (HHR.out _ P4d.out.hd) (fun hHeld => ?_)
 refine tkH (i := 0) (v := ?_) rfl ?_ ?_;rotate_left
 ·intro U hSw; (go_simp <;> with_reducible rfl)
 try simp only [Act.put, nz1, nz2, nz3]
 refine tkH (i := 1) (v := ?_) rfl ?_ ?_;rotate_left
 ·intro U hSw; (go_simp <;> with_reducible rfl)
 try simp only [Act.put, nz1, nz2, nz3]
 refine tkH (i := 2) (v := ?_) rfl ?_ ?_;rotate_left
 ·intro U hSw; (go_simp <;> with_reducible rfl)
 try simp only [Act.put, nz1, nz2, nz3]
 refine tkH (i := 3) (v := ?_) rfl ?_ ?_;rotate_left
 ·intro U hSw; (go_simp <;> with_reducible rfl)
 try simp only [Act.put, nz1, nz2, nz3]
 refine tkH (i := 5) (v := ?_) rfl ?_ ?_;rotate_left
 ·intro U hSw; (go_simp <;> with_reducible rfl)
 try simp only [Act.put, nz1, nz2, nz3]
 refine tkH (i := 6) (v := ?_) rfl ?_ ?_;rotate_left
 ·intro U hSw; (go_simp <;> with_reducible rfl)
 try simp only [Act.put, nz1, nz2, nz3]
 refine wpAnyH_take (i := 9) (v := .agg HL.toArray) rfl (by kernel_rfl) (by kernel_rfl) (by kernel_rfl) (fun _ _ _ h => h) (yieldsIf_load_mid (by rfl) _ _ rfl hb 0 rfl HL _ (fun U hU => hU) Tryz.underlying89 rfl HHL.out) (by assumption) ?_;try simp only [Act.put, nz1, nz2, nz3]
 refine wpAnyH_ready (rs := [4, 7]) (by kernel_rfl) (by simp) ?_;refine AllReadyH.cons rfl (fun K hK => ?_) (AllReadyH.cons rfl (fun K hK => ?_) AllReadyH.nil)
 ·(
  rw [if_pos (by rfl)];go_simp;refine hK.out _ _ (HHR.out _ P4d.out.hd) (fun _ => ?_);clear hK K;try simp only [Act.put, nz1, nz2, nz3]
  refine wpAnyH_ready (rs := [7]) (by kernel_rfl) (by simp) ?_;refine AllReadyH.cons rfl (fun K hK => ?_) AllReadyH.nil;go_simp;go_at_call 61; (with_reducible refine (HPA.out _ _ _ DTd.out).mono ?_); rintro e w5 ⟨aN, cN, rfl, K5⟩
  (try go_wp2_with fail)
  have P5 := tHid (P4d.out.nw K5.out.1);have gG5 : w5.cell? ⟨rb, 2, none⟩ = some (.slice aG G.length cG) := P5.out.rm.cells.2.2.2.1;refine hK.out _ _ (HHR.out _ P5.out.hd) (fun _ => ?_);clear hK K;try simp only [Act.put, nz1, nz2, nz3]
  refine wpAnyH_ready (rs := [8]) (by kernel_rfl) (by simp) ?_;refine AllReadyH.cons rfl (fun K hK => ?_) AllReadyH.nil;go_simp;go_at_call 60; (with_reducible refine (HME.out _ _ _ P5.out (NewP.slr K5.out.2)).mono ?_); rintro e w6 ⟨aM, cM, rfl, K6⟩
  (try go_wp2_with fail)
  have P6 := tHid (P5.out.nw K6.out.1);refine hK.out _ _ (HHR.out _ P6.out.hd) (fun _ => ?_);clear hK K;try simp only [Act.put, nz1, nz2, nz3]
  refine wpAnyH_ready (rs := [10]) (by kernel_rfl) (by simp) ?_;refine AllReadyH.cons rfl (fun K hK => ?_) AllReadyH.nil;go_simp;go_at_call 59; (with_reducible refine (HFE.out _ _ _).mono ?_); rintro e w7 ⟨rfl, K7⟩
  (try go_wp2_with fail)
  have P7 := tHid (P6.out.nw K7);have gG7 : w7.cell? ⟨rb, 2, none⟩ = some (.slice aG G.length cG) := P7.out.rm.cells.2.2.2.1;have fz7 := frz_of P7.out.rm.row 2;refine hK.out _ _ (HHR.out _ P7.out.hd) (fun _ => ?_);clear hK K;try simp only [Act.put, nz1, nz2, nz3]
  refine tkH (i := 11) (v := ?_) rfl ?_ ?_;rotate_left
  ·intro U hSw; (go_simp <;> with_reducible rfl)
  try simp only [Act.put, nz1, nz2, nz3]
  refine tkH (i := 12) (v := ?_) rfl ?_ ?_;rotate_left
  ·intro U hSw; (go_simp <;> with_reducible rfl)
  try simp only [Act.put, nz1, nz2, nz3]
  refine wpAnyH_ready (rs := [13]) (by kernel_rfl) (by simp) ?_;refine AllReadyH.cons rfl (fun K hK => ?_) AllReadyH.nil;rw [if_pos (by rfl)];go_simp;obtain ⟨W8, hW8⟩ : ∃ W8, w7.setCell ⟨rb, 2, none⟩ (.slice aM MG.length cM) = W8 := ⟨_, rfl⟩;have FIN := HOK.out _ _ _ W8 P7.out hW8 (np_fit K6.out.2 P5.out K7)
  (try rw [hW8])
  refine hK.out _ _ (HHR.out _ FIN.1) (fun _ => ?_);clear hK K;refine wpAnyH_done (by kernel_rfl) ?_ _
  go_wp2_with fail
  go_end0
  exact FIN.2
  )
 ·(
  go_simp;go_at_call 61; (with_reducible refine (HPA.out _ _ _ DTd.out).mono ?_); rintro e w5 ⟨aN, cN, rfl, K5⟩
  (try go_wp2_with fail)
  have P5 := tHid (P4d.out.nw K5.out.1);have gG5 : w5.cell? ⟨rb, 2, none⟩ = some (.slice aG G.length cG) := P5.out.rm.cells.2.2.2.1;refine hK.out _ _ (HHR.out _ P5.out.hd) (fun _ => ?_);clear hK K;try simp only [Act.put, nz1, nz2, nz3]
  refine wpAnyH_ready (rs := [4]) (by kernel_rfl) (by simp) ?_;refine AllReadyH.cons rfl (fun K hK => ?_) AllReadyH.nil;rw [if_pos (by rfl)];go_simp;refine hK.out _ _ (HHR.out _ P5.out.hd) (fun _ => ?_);clear hK K;try simp only [Act.put, nz1, nz2, nz3]
  refine wpAnyH_ready (rs := [8]) (by kernel_rfl) (by simp) ?_;refine AllReadyH.cons rfl (fun K hK => ?_) AllReadyH.nil;go_simp;go_at_call 60; (with_reducible refine (HME.out _ _ _ P5.out (NewP.slr K5.out.2)).mono ?_); rintro e w6 ⟨aM, cM, rfl, K6⟩
  (try go_wp2_with fail)
  have P6 := tHid (P5.out.nw K6.out.1);refine hK.out _ _ (HHR.out _ P6.out.hd) (fun _ => ?_);clear hK K;try simp only [Act.put, nz1, nz2, nz3]
  refine wpAnyH_ready (rs := [10]) (by kernel_rfl) (by simp) ?_;refine AllReadyH.cons rfl (fun K hK => ?_) AllReadyH.nil;go_simp;go_at_call 59; (with_reducible refine (HFE.out _ _ _).mono ?_); rintro e w7 ⟨rfl, K7⟩
  (try go_wp2_with fail)
  have P7 := tHid (P6.out.nw K7);have gG7 : w7.cell? ⟨rb, 2, none⟩ = some (.slice aG G.length cG) := P7.out.rm.cells.2.2.2.1;have fz7 := frz_of P7.out.rm.row 2;refine hK.out _ _ (HHR.out _ P7.out.hd) (fun _ => ?_);clear hK K;try simp only [Act.put, nz1, nz2, nz3]
  refine tkH (i := 11) (v := ?_) rfl ?_ ?_;rotate_left
  ·intro U hSw; (go_simp <;> with_reducible rfl)
  try simp only [Act.put, nz1, nz2, nz3]
  refine tkH (i := 12) (v := ?_) rfl ?_ ?_;rotate_left
  ·intro U hSw; (go_simp <;> with_reducible rfl)
  try simp only [Act.put, nz1, nz2, nz3]
  refine wpAnyH_ready (rs := [13]) (by kernel_rfl) (by simp) ?_;refine AllReadyH.cons rfl (fun K hK => ?_) AllReadyH.nil;rw [if_pos (by rfl)];go_simp;obtain ⟨W8, hW8⟩ : ∃ W8, w7.setCell ⟨rb, 2, none⟩ (.slice aM MG.length cM) = W8 := ⟨_, rfl⟩;have FIN := HOK.out _ _ _ W8 P7.out hW8 (np_fit K6.out.2 P5.out K7)
  (try rw [hW8])
  refine hK.out _ _ (HHR.out _ FIN.1) (fun _ => ?_);clear hK K;refine wpAnyH_done (by kernel_rfl) ?_ _
  go_wp2_with fail
  go_end0
  exact FIN.2
  )
end Go.Proofs.YtlenihpbhlfcoaaGreatDoor

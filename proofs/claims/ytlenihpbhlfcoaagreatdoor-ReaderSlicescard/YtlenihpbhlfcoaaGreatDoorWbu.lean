import Derived.Test.YtlenihpbhlfcoaaGreatDoorWbs
set_option maxHeartbeats 8000000
set_option maxRecDepth 100000
set_option linter.unusedSimpArgs false
set_option linter.unusedVariables false
namespace Go.Proofs.YtlenihpbhlfcoaaGreatDoor
open Go.RowKit Go.Deep
variable {rb : Nat} {va : Option Addr} {vc : Nat} {b : List By}
theorem results_c2i {fn : Func} {p t : Tmp} (h : fn.results = #[.cell p 36, .tmp t]) (tmps : Array Value) (w : World) (qb : Nat) (C : Array Value) (hp : tmps.getD p undef = .pointer (some ⟨qb, 0, none⟩)) (hrow : w.heap[qb]? = some (.cells C 36)) (hi : (Tryz.prog.info? 36).map (·.size) = some C.size) : (results fn tmps).run Tryz.prog w = .ok (.tuple #[.agg C, tmps.getD t undef]) w := by
 have hl := run_loadVar_row (P := Tryz.prog) w qb 36 36 C (0, 0) _ hrow Tryz.underlying36 rfl hi;have hp' : tmps[p]?.getD undef = .pointer (some ⟨qb, 0, none⟩) := by simpa using hp
 simp [results, h, hp', asAddr, hl]
theorem Nx.on {Z : Nat → Prop} {w V U : World} {ab ib p : Nat} {vG : Value} {G : List Pr} {A : Ah} {fo : Option Nat} {vL : Value} {og : Option Nat} (h : Nx Z w rb ab ib va vc b p vG G A fo vL og V) {L : Nat} {g : Bool} {G' : List Pr} {A' : Ah} {vG' vL' : Value} {og' : Option Nat} (f : Fr (PX rb ab og) V U)
  (ha : U.heap[ab]? = some (.cells (ahC (if g = true then fo.isSome else true) (if g = true then ((fo.getD 0 : Nat) : Int) else (if fo.isSome = true then ((fo.getD 0 : Nat) : Int) else (p : Int))) vL' A') 85))
  (hr : Rm (PY rb ab og' U) rb va vc b (p + L) vG' G' U) (hl : OgR RP og' vL' A'.loc U) (ho : og' = og ∨ ∃ k, og' = some k ∧ V.heap.size ≤ k) (hv : (vG' = vG ∧ G' = G) ∨ SlR RP (fun k => k < V.heap.size) vG' G' U) (hG : OkG G') (hA : OkA A') :
  Nx Z w rb ab ib va vc b (p + L) vG' G' A' (if g = true then fo else some (fo.getD p)) vL' og' U := by
 have hlt : ab < V.heap.size := (Array.getElem?_eq_some_iff.1 h.ar).1;have hli : ib < V.heap.size := (Array.getElem?_eq_some_iff.1 h.it).1;have hle := h.le;have hsz : w.heap.size ≤ V.heap.size := ge_of h.fr;refine ⟨h.fr.then f (fun i hi => ?_), hr, ?_, cell_kept f h.it (fun e => ?_), hl, (fun k hk => ?_), h.le, hG, hA, h.bi.kept f (fun i hi => ?_), ?_, h.zk⟩
 ·rcases hi with hi | hi | hi
  ·exact .inl hi
  ·exact .inr (by omega)
  ·exact .inr (h.op i hi).1
 ·cases g with
  | true => exact ha
  | false =>
   cases fo with
   | none => exact ha
   | some q => exact ha
 ·rcases e with e | e | e
  ·omega
  ·omega
  ·exact (h.op ib e).2.2 rfl
 ·rcases ho with ho | ⟨k', ho, hk'⟩
  ·exact h.op k (by rw [← ho]; exact hk)
  ·rw [ho] at hk;injection hk with hk;subst hk;exact ⟨by omega, by omega, by omega⟩
 ·rcases hi with hi | hi | hi
  ·exact .inl hi
  ·exact .inr (by omega)
  ·exact .inr (h.op i hi).1
 ·have hs := ge_of f;rcases hv with ⟨e1, e2⟩ | hv
  ·subst e1 e2;refine (h.vi.kept f (fun g hg => ?_)).mono (fun g hg => ?_)
   ·rcases hg with hg | hg | hg
    ·exact .inr (.inr (.inl hg))
    ·exact .inr (.inr (.inr (.inl hg)))
    ·exact .inr (.inr (.inr (.inr (.inl hg))))
   ·rcases hg with hg | hg | hg | hg | hg | hg
    ·exact .inl hg
    ·exact .inr (.inl hg)
    ·exact .inr (.inr (.inl hg))
    ·exact .inr (.inr (.inr (.inl hg)))
    ·rcases ho with ho | ⟨k', ho, hk'⟩
     ·exact .inr (.inr (.inr (.inr (.inl (by rw [← ho]; exact hg)))))
     ·rw [ho] at hg;injection hg with hg;exact .inr (.inr (.inr (.inr (.inr (by omega)))))
    ·exact .inr (.inr (.inr (.inr (.inr (by omega)))))
  ·refine (hv.both hr.gl).mono (fun g hg => ?_);rcases hg with hg | hg | hg
   ·exact .inl (by have := h.zk g hg; show g < V.heap.size; omega)
   ·exact .inl (by show g < V.heap.size; omega)
   ·exact .inr hg
theorem Nx.bad {Z : Nat → Prop} {w V U : World} {ab ib p : Nat} {vG : Value} {G : List Pr} {A : Ah} {fo : Option Nat} {vL : Value} {og : Option Nat} (h : Nx Z w rb ab ib va vc b p vG G A fo vL og V) (f : Fr (PX rb ab og) V U) (ha : Alv rb va vc b vG U) :
  Fr (fun k => k = rb) w U ∧ Alv rb va vc b vG U ∧ SlR RP (fun k => k = rb ∨ U.heap.size ≤ k) vG G U ∧ OkG G := by
 have hle := h.le;have hs := ge_of f;refine ⟨h.fr.then f (fun i hi => ?_), ha, ?_, h.ok⟩
 ·rcases hi with hi | hi | hi
  ·exact .inl hi
  ·exact .inr (by omega)
  ·exact .inr (h.op i hi).1
 ·refine (h.rm.gl.kept f (fun g hg => ?_)).mono (fun g hg => ?_)
  ·rcases hg with hg | hg | hg
   ·exact .inl hg
   ·exact .inr (.inl hg)
   ·exact .inr (.inr (.inl hg))
  ·rcases hg with hg | hg
   ·exact .inl hg
   ·exact .inr (.inr (.inr (by omega)))
theorem Nx.end_ {Z : Nat → Prop} {w V U : World} {ab ib p q : Nat} {vG : Value} {G : List Pr} {A : Ah} {fo : Option Nat} {vL : Value} {og : Option Nat} (h : Nx Z w rb ab ib va vc b p vG G A fo vL og V) (f : Fr (fun k => k = rb) V U) (hr : U.heap[rb]? = some (.cells #[.slice va b.length vc, .int .i64 (q : Nat), vG, .int .i64 0] 51)) (hq : q ≤ b.length) (C : Array Value) :
  Fr (fun k => k = rb) w (U.setRow ib C) ∧ RL rb va vc b q vG G (U.setRow ib C) ∧ SlR RP Z vG G (U.setRow ib C) := by
 have hle := h.le;have fo : Fr (fun k => k = ib) U (U.setRow ib C) := (Fr.refl _ _).setRow ib _ (.inl rfl);have s1 := ge_of h.fr;have s2 := ge_of f;have s3 := ge_of fo;refine ⟨(h.fr.trans f).then fo (fun i hi => .inr (by omega)), ⟨?_, ?_, ?_, .inl rfl, hq, h.rm.bl⟩, ((h.vi.kept f (fun i hi => .inr (.inr (.inl hi)))).kept fo (fun i hi => .inr (.inl hi))).mono (fun g hg => .inl hg)⟩
 ·exact cell_kept fo hr (by omega)
 ·refine ((h.bi.kept f (fun i hi => .inl hi)).kept fo (fun i hi => .inr (by omega))).mono (fun g hg => ?_);exact hg.elim .inl (fun hg => .inr (by omega))
 ·refine ((h.vi.kept f (fun i hi => .inr (.inr (.inl hi)))).kept fo (fun i hi => .inr (.inl hi))).mono (fun g hg => ?_);rcases hg with hg | hg
  ·exact .inr (.inr (.inl hg))
  ·exact .inr (.inr (.inr (.inr (.inr (by omega)))))
theorem qnext_any (w : World) (p0 : Nat) (vG0 : Value) (G0 : List Pr) (hr : RL rb va vc b p0 vG0 G0 w) (hG : OkG G0) (B : Nat) (hE : EnvB B w) (hB : B ≤ w.heap.size ∧ B ≤ rb) (Z : Nat → Prop) (hz : SlR RP Z vG0 G0 w) (hZ : ∀ k, Z k → k < w.heap.size) :
  Calls Tryz.prog 26 #[.pointer (some ⟨rb, 0, none⟩)] w (NxA Z rb va vc b (nx b p0 G0 ah0 none) w) := by
 refine asP fun Q hQ => ?_
 obtain ⟨R0, hR0⟩ : ∃ R0, nx b p0 G0 ah0 none = R0 := ⟨_, rfl⟩;rw [hR0] at hQ;have hpl := hr.pl;have hbl := hr.bl;have hlt := Rm.lt hr;obtain ⟨ib, hib⟩ : ∃ ib, w.heap.size = ib := ⟨_, rfl⟩;obtain ⟨ab, hab⟩ : ∃ ab, ib + 1 = ab := ⟨_, rfl⟩;have HS := tHid (nx_start hr hG hz hZ);obtain ⟨W1, hW1⟩ : ∃ W1, (w.alloc (.cells ziC 36)).alloc (.cells (ahC false 0 (.slice none 0 0) ah0) 85) = W1 := ⟨_, rfl⟩;rw [hW1, hib, hab] at HS;have HR0 := tHid hR0;have HW1 := tHid hW1;unfold ziC ahC at HW1;have HQ := tHid hQ;clear hQ hR0 hW1;go_enter Tryz.func26, Tryz.ntmps26
 go_wp2_with fail
 go_loopg [5, 6] b.length (fun kx v5 v6 wr => ∃ (p : Nat) (vG : Value) (G : List Pr) (A : Ah) (fo : Option Nat) (vL : Value) (og : Option Nat), b.length ≤ p + kx ∧ p ≤ b.length ∧ Hid (Nx Z w rb ab ib va vc b p vG G A fo vL og wr ∧ nx b p G A fo = R0))
 case atStart =>
  exact ⟨p0, vG0, G0, ah0, none, .slice none 0 0, none, by omega, hpl, (by have h := HS.out; rw [← HW1.out] at h; exact h), HR0.out⟩
 case round =>
  obtain ⟨p, vG, G, A, fo, vL, og, hkx, hp, HX⟩ := hrel;have c0 : wr.cell? ⟨rb, 0, none⟩ = some (.slice va b.length vc) := cell_of HX.out.1.rm.row 0 _ rfl;have c1 : wr.cell? ⟨rb, 1, none⟩ = some (.int .i64 (p : Nat)) := cell_of HX.out.1.rm.row 1 _ rfl;by_cases hlt2 : p < b.length
  ·have hltr : (p : Int) < (b.length : Int) := by omega
   go_upto_region 2 with fail
   go_quiet (fail)
   go_upto_region 3 with fail
   obtain ⟨V, hV⟩ : ∃ V, wr.drewN nq = V := ⟨_, rfl⟩;have HXV : Hid (Nx Z w rb ab ib va vc b p vG G A fo vL og V) := HX.out.1.nw (by rw [← hV]; exact (Fr.refl _ _).drewN _);have HXR := tHid HX.out.2;rw [hV];clear hV c0 c1 HX;have hdl : (b.drop p).length = b.length - p := List.length_drop;have hdn : ¬ b.drop p = [] := fun h => by rw [h] at hdl; simp only [List.length_nil] at hdl; omega
   have HBAD : Hid (∀ U (a E : Nat), Nw V U → R0 = .bad a E G → Q (gvR (a : Nat) (E : Nat)) U) := fun U a E k h => by
    have h1 := HXV.out.nw k;rw [HQ.out, h];exact ⟨rfl, vG, h1.fr, h1.rm.alv, h1.out, h1.ok⟩
   have HREC : Hid (∀ U, Nw V U → Calls Tryz.prog 33 #[.pointer (some ⟨rb, 0, none⟩)] U (RcA b p U)) := fun U k => qrecord_any (HXV.out.nw k).rm
   go_wp2_with fail
   go_at_call 33
   with_reducible refine (HREC.out _ (Fr.refl _ _)).mono ?_
   rintro e w2 (⟨h1, rfl, k2⟩ | ⟨h1, rfl, k2⟩)
   ·have hc : cor (b.drop p) G A = .bad (b.drop p).length 4 := by
     unfold cor;rw [if_neg hdn, if_pos (by omega)]
    have hR := HXR.out;rw [nx_bad hc] at hR;have HZ := tHid (HBAD.out w2 b.length 4 k2 (by rw [← hR, hdl]; congr 1; omega))
    go_wp2_with fail
    exact ⟨rfl, HZ.out⟩
   have hfd : fd (b.drop p) 0 512 = fd b p 512 := by unfold fd; rw [List.drop_zero]
   have hRl := fd_length b p 512 (by omega);obtain ⟨R, hR⟩ : ∃ R, fd b p 512 = R := ⟨_, rfl⟩;rw [hR] at hfd hRl;rw [hR];have HFD := tHid hR;clear hR;obtain ⟨W3, e3⟩ : ∃ W3, (w2.alloc (.cells Tryz.zeroCells58 58)).setRow w2.heap.size (rc R) = W3 := ⟨_, rfl⟩;have k3 : Nw w2 W3 := by rw [← e3]; exact ((Fr.refl _ _).alloc _).setRow _ _ (.inr (Nat.le_refl _))
   have ROW3 : Hid (W3.heap[w2.heap.size]? = some (.cells (rc R) 58)) := by rw [← e3]; exact setRow_heap _ _ _ _ 58 _ (newHeap _ _)
   have HN3 : Hid ((Tryz.prog.info? 58).map (·.size) = some (rc R).size ∧ (Tryz.zeroCells58 : Array Value).size = (rc R).size ∧ (rc R).all (·.oneCell') = true) := ⟨rc_info R hRl, by rw [zrec_rc, rc_size, rc_size, zrec_length, hRl], rc_one R⟩;have HK3 := tHid (k2.trans k3);have E3 := tHid e3;clear e3 k3 k2;obtain ⟨qb, hqb⟩ : ∃ qb, w2.heap.size = qb := ⟨_, rfl⟩;rw [hqb] at ROW3 E3;have HZE : Hid (∀ U, Calls Tryz.prog 34 #[.agg (rc R)] U fun e w' => e = .returned (.bool (decide (R = zrec))) ∧ Nw U w') := fun U => zero_any R hRl U
   by_cases hzr : R = zrec
   ·rw [show decide (R = zrec) = true from decide_eq_true hzr] at HZE;have hc : cor (b.drop p) G A = .fin := by
     unfold cor;rw [if_neg hdn, if_neg (by omega), hfd, if_pos hzr]
    clear hzr;go_upto_region 4 with (first
     | (refine wpList_store_row rfl 58 _ _ rfl w2.heap.size (rc R) (by first | rfl | simp [Act.eval]) (by first | rfl | simp [Act.eval]) 58 _ (newHeap w2 _) HN3.out.1 HN3.out.2.1 HN3.out.2.2 ?_; rw [hqb]; rw [E3.out]))
    go_wp2_with (first
     | (refine wpList_load_row rfl 58 _ rfl qb (by first | rfl | simp [Act.eval]) 58 _ (0, 0) _ ROW3.out Tryz.underlying58 rfl HN3.out.1 ?_))
    go_at_call 34
    with_reducible refine (HZE.out _).mono ?_
    rintro e w4 ⟨rfl, k4⟩;have HXE := tHid (HXV.out.nw (HK3.out.trans k4));have hR := HXR.out;rw [nx_fin hc] at hR;clear k4 HXV HK3 HXR HREC HBAD;go_upto_region 9 with fail
    (try rw [nx_fin hc] at hR)
    cases fo with
    | none =>
     have a0 : w4.cell? ⟨ab, 0, none⟩ = some (.bool false) := cell_of HXE.out.ar 0 _ rfl;obtain ⟨W5, e5⟩ : ∃ W5, w4.setRow ib ziC = W5 := ⟨_, rfl⟩;have ROW5 : Hid (W5.heap[ib]? = some (.cells ziC 36)) := by rw [← e5]; exact setRow_heap _ _ _ _ 36 _ HXE.out.it
     have HZ0 : Hid ((ziC : Array Value).all (·.oneCell') = true) := by show _ = _; simp [ziC, Value.oneCell']
     have HEND : Hid (Q (.returned (.tuple #[.agg ziC, .bool false])) W5) := by
      rw [HQ.out, ← hR, ← e5];exact ⟨vG, rfl, (HXE.out.end_ (Fr.refl _ _) HXE.out.rm.row HXE.out.rm.pl ziC).1, (HXE.out.end_ (Fr.refl _ _) HXE.out.rm.row HXE.out.rm.pl ziC).2.1, HXE.out.ok, (HXE.out.end_ (Fr.refl _ _) HXE.out.rm.row HXE.out.rm.pl ziC).2.2⟩
     have HIT := tHid HXE.out.it
     go_wp2_with (first
      | (refine wpList_buildTo rfl 36 _ rfl _ rfl ziC (by kernel_rfl) ?_)
      | (refine wpList_store_row rfl 36 _ _ rfl ib ziC (by first | rfl | simp [Act.eval]) (by first | rfl | simp [Act.eval]) 36 _ HIT.out ziI rfl HZ0.out ?_; rw [e5]))
     (try simp only [Exit.inBlock, Exit.then])
     refine bodyPost_ret (results_c2i rfl _ _ ib ziC rfl ROW5.out ziI) rfl ?_;exact HEND.out
    | some f =>
     have a0 : w4.cell? ⟨ab, 0, none⟩ = some (.bool true) := cell_of HXE.out.ar 0 _ rfl;have a1 : w4.cell? ⟨ab, 1, none⟩ = some (.int .i64 (f : Nat)) := cell_of HXE.out.ar 1 _ rfl;have HZ : Hid (Q (gvR (f : Nat) (160 : Nat)) w4) := by
      rw [HQ.out, ← hR];exact ⟨rfl, vG, HXE.out.fr, HXE.out.rm.alv, HXE.out.out, HXE.out.ok⟩
     go_wp2_with fail
     go_at_call 39
     with_reducible refine (qgiveUp_any _ _ _).mono ?_
     rintro e w5 ⟨rfl, rfl⟩
     go_wp2_with fail
     exact ⟨rfl, HZ.out⟩
   ·rw [show decide (R = zrec) = false from decide_eq_false hzr] at HZE;go_upto_region 4 with (first
     | (refine wpList_store_row rfl 58 _ _ rfl w2.heap.size (rc R) (by first | rfl | simp [Act.eval]) (by first | rfl | simp [Act.eval]) 58 _ (newHeap w2 _) HN3.out.1 HN3.out.2.1 HN3.out.2.2 ?_; rw [hqb]; rw [E3.out]))
    go_wp2_with (first
     | (refine wpList_load_row rfl 58 _ rfl qb (by first | rfl | simp [Act.eval]) 58 _ (0, 0) _ ROW3.out Tryz.underlying58 rfl HN3.out.1 ?_))
    go_at_call 34
    with_reducible refine (HZE.out _).mono ?_
    rintro e w4 ⟨rfl, k4⟩;have HKV := tHid (HK3.out.trans k4);have HXW := tHid (HXV.out.nw HKV.out);have ROW4 := tHid (Nw.heap k4 ROW3.out);clear k4 HK3 HXV HREC HZE E3 ROW3;obtain ⟨CRl, hCR⟩ : ∃ CRl, (rc R).toList = CRl := ⟨_, rfl⟩;have hCA : rc R = CRl.toArray := by rw [← hCR]
    have HKEY : Hid (∀ U, Nw w4 U → (U.cell? ⟨rb, 1, none⟩ = some (.int .i64 (p : Nat)) ∧ U.rangeAt qb 0 CRl) ∧ Nw w4 U) := fun U k => ⟨⟨cell_of (HXW.out.nw k).rm.row 1 _ rfl, fun j v hv => by
     rw [Nat.zero_add];refine cell_of (Nw.heap k ROW4.out) j v ?_;rw [hCA]; simpa using hv⟩, k⟩
    have HINF : Hid ((Tryz.prog.info? 58).map (·.size) = some CRl.length) := by
     have h := HN3.out.1;rw [hCA] at h;show _ = _;rw [h, List.size_toArray]
    have HDD : Hid (∀ U, Calls Tryz.prog 35 #[.agg CRl.toArray, .int .i64 (p : Nat)] U (DdA R p U)) := fun U => by
     rw [← hCA];exact qdecoded_any R hRl p (by omega) U
    obtain ⟨HC, hHC⟩ : ∃ HC, hdC (decH R) R p = HC := ⟨_, rfl⟩;have HHI : Hid ((Tryz.prog.info? 89).map (·.size) = some HC.size) := by show _ = _; rw [← hHC]; exact hd_info _ R hRl p
    have HH1 : Hid (HC.all (·.oneCell') = true) := by show _ = _; rw [← hHC]; exact hdC_one _ R p
    have HH2 : Hid ((Tryz.zeroCells89 : Array Value).size = HC.size) := by show _ = _; rw [← hHC, hdC_size _ R hRl p]; exact zh_size
    have HFI : Hid (∀ U g, Nw w4 U → w4.heap.size ≤ g → U.heap[g]? = some (.cells Tryz.zeroCells89 89) → (U.setRow g HC).heap[g]? = some (.cells HC 89) ∧ Nw w4 (U.setRow g HC) ∧ w4.heap.size ≤ g) := fun U g k hg hrow =>
     ⟨setRow_heap _ _ _ _ 89 _ hrow, k.then ((Fr.refl _ _).setRow g _ (.inl rfl) : Fr (fun i => i = g) U _) (fun i hi => .inr (by omega)), hg⟩
    have HBD : Hid (∀ U, decE R ≠ 0 → Nw w4 U → Q (gvR ((p + decP R : Nat) : Int) (decE R : Nat)) U) := fun U h k => by
     have hc : cor (b.drop p) G A = .bad (decP R) (decE R) := by
      unfold cor;rw [if_neg hdn, if_neg (by omega), hfd, if_neg hzr, if_pos h]
     have hR := HXR.out;rw [nx_bad hc] at hR;exact HBAD.out U _ _ (HKV.out.trans k) hR.symm
    have HCO : Hid (decE R = 0 → cor (b.drop p) G A = if isTl (decH R).typ = true then psR (b.drop p) (decH R) G A else enR (b.drop p) (decH R) G A) := fun h => by
     unfold cor;rw [if_neg hdn, if_neg (by omega), hfd, if_neg hzr, if_neg (fun q => q h)]
    have HHC : Hid (HC = hdC (decH R) R p) := hHC.symm;clear hHC hCR hCA;go_upto_region 5 with fail;go_cut [6] from 21 to 26 (fun v6 wy => ∃ h2 wx, v6 = .pointer (some ⟨h2, 0, none⟩) ∧ wy = wx ∧ Hid (wx.heap[h2]? = some (.cells HC 89) ∧ Nw w4 wx ∧ w4.heap.size ≤ h2 ∧ decE R = 0))
    case first =>
     have KEY := HKEY;have k0 : Nw w4 w4.drew := (Fr.refl _ _).drew;refine wp_region_held_drew (S := fun U => (U.cell? ⟨rb, 1, none⟩ = some (.int .i64 (p : Nat)) ∧ U.rangeAt qb 0 CRl) ∧ Nw w4 U) (by kernel_rfl) (KEY.out _ k0) (fun hHeld => ?_);refine wpAnyH_take (i := 0) (oi := ⟨some 21, .load 58 (.tmp 5), 58, "reader.go:98", #[], none⟩) (v := .agg CRl.toArray) rfl (by kernel_rfl) (by kernel_rfl) (by kernel_rfl) (fun _ _ _ h => h) (yieldsIf_load_mid (by rfl) _ _ rfl qb 0 rfl CRl _ (fun U hU => hU.1.2) Tryz.underlying58 rfl HINF.out) (by assumption) ?_
     try simp only [Act.put, nz1, nz2, nz3]
     refine tkH (i := 1) (oi := ⟨some 22, .move (.tmp 0), 42, "reader.go:98", #[], none⟩) (v := ?_) rfl ?_ ?_;rotate_left
     ·intro U hSw; obtain ⟨⟨s0, s1⟩, _⟩ := hSw; (go_simp <;> with_reducible rfl)
     try simp only [Act.put, nz1, nz2, nz3]
     refine tkH (i := 2) (oi := ⟨some 23, .nilCheck (.tmp 22), 0, "reader.go:98", #[⟨1, .data⟩], none⟩) (v := ?_) rfl ?_ ?_;rotate_left
     ·intro U hSw; obtain ⟨⟨s0, s1⟩, _⟩ := hSw; (go_simp <;> with_reducible rfl)
     try simp only [Act.put, nz1, nz2, nz3]
     refine tkH (i := 3) (oi := ⟨some 24, .fieldAddr 51 (.tmp 23) 1, 0, "reader.go:98", #[⟨2, .data⟩], none⟩) (v := ?_) rfl ?_ ?_;rotate_left
     ·intro U hSw; obtain ⟨⟨s0, s1⟩, _⟩ := hSw; (go_simp <;> with_reducible rfl)
     try simp only [Act.put, nz1, nz2, nz3]
     refine tkH (i := 4) (oi := ⟨some 25, .load 3 (.tmp 24), 3, "reader.go:98", #[⟨3, .data⟩], none⟩) (v := ?_) rfl ?_ ?_;rotate_left
     ·intro U hSw; obtain ⟨⟨s0, s1⟩, _⟩ := hSw; (go_simp <;> with_reducible rfl)
     try simp only [Act.put, nz1, nz2, nz3]
     refine wpAnyH_ready (rs := [5, 6]) (by kernel_rfl) (by simp) ?_;refine AllReadyH.cons (o := ⟨some 26, .call ⟨.value (.func 35), #[.tmp 21, .tmp 25], #[58, 3]⟩, 89, "reader.go:98", #[⟨0, .data⟩, ⟨4, .data⟩], none⟩) rfl (fun K hK => ?_) (AllReadyH.cons (o := ⟨some 6, .alloc 89, 0, "reader.go:98", #[], none⟩) rfl (fun K hK => ?_) AllReadyH.nil)
     ·(
      go_simp;go_at_call 35; (with_reducible refine (HDD.out _).mono ?_); rintro e w5 (⟨h1, rfl, k5⟩ | ⟨h1, rfl, k5⟩)
      ·(try go_wp2_with fail)
       exact ⟨rfl, HBD.out _ h1 ((k0).trans k5)⟩
      (try go_wp2_with fail)
      rw [← HHC.out];have k5N := (k0).trans k5;refine hK.out _ _ (KEY.out _ k5N) (fun _ => ?_);clear hK K;try simp only [Act.put, nz1, nz2, nz3]
      refine wpAnyH_ready (rs := [6]) (by kernel_rfl) (by simp) ?_;refine AllReadyH.cons (o := ⟨some 6, .alloc 89, 0, "reader.go:98", #[], none⟩) rfl (fun K hK => ?_) AllReadyH.nil;rw [if_pos (by rfl)];go_simp;have k6N := k5N.trans ((Fr.refl (fun _ => False) _).alloc (.cells Tryz.zeroCells89 89));have k6R : (w5.alloc (.cells Tryz.zeroCells89 89)).heap[w5.heap.size]? = some (.cells Tryz.zeroCells89 89) := newHeap w5 _;refine hK.out _ _ (KEY.out _ k6N) (fun _ => ?_);clear hK K;try simp only [Act.put, nz1, nz2, nz3]
      refine wpAnyH_ready (rs := [7]) (by kernel_rfl) (by simp) ?_;refine AllReadyH.cons (o := ⟨none, .store 89 (.tmp 6) (.tmp 26), 0, "reader.go:98", #[⟨6, .data⟩, ⟨5, .data⟩, ⟨5, .chain⟩, ⟨0, .phase⟩, ⟨1, .phase⟩, ⟨2, .phase⟩, ⟨3, .phase⟩, ⟨4, .phase⟩, ⟨5, .phase⟩, ⟨6, .phase⟩], none⟩) rfl (fun K hK => ?_) AllReadyH.nil;rw [if_pos (by rfl)];obtain ⟨FR, FN, FG⟩ := HFI.out _ w5.heap.size k6N (Fr.size k5N) k6R;refine wp_store_row 89 _ _ rfl w5.heap.size HC (by first | rfl | simp [Act.eval]) (by first | rfl | simp [Act.eval]) 89 _ k6R HHI.out HH2.out HH1.out ?_
      refine hK.out _ _ (KEY.out _ FN) (fun _ => ?_);clear hK K;refine wpAnyH_done (by kernel_rfl) ?_ _
      go_wp2_with fail
      go_meet
      exact ⟨_, _, rfl, rfl, FR, FN, FG, h1⟩
      )
     ·(
      rw [if_pos (by rfl)];go_simp;have k6N : Nw w4 (w4.alloc (.cells Tryz.zeroCells89 89)).drew := ((Fr.refl (fun _ => False) w4).alloc (.cells Tryz.zeroCells89 89)).drew;have k6R : ((w4.alloc (.cells Tryz.zeroCells89 89)).drew).heap[w4.heap.size]? = some (.cells Tryz.zeroCells89 89) := newHeap w4 _;refine hK.out _ _ (KEY.out _ k6N) (fun _ => ?_);clear hK K;try simp only [Act.put, nz1, nz2, nz3]
      refine wpAnyH_ready (rs := [5]) (by kernel_rfl) (by simp) ?_;refine AllReadyH.cons (o := ⟨some 26, .call ⟨.value (.func 35), #[.tmp 21, .tmp 25], #[58, 3]⟩, 89, "reader.go:98", #[⟨0, .data⟩, ⟨4, .data⟩], none⟩) rfl (fun K hK => ?_) AllReadyH.nil;go_simp;go_at_call 35; (with_reducible refine (HDD.out _).mono ?_); rintro e w5 (⟨h1, rfl, k5⟩ | ⟨h1, rfl, k5⟩)
      ·(try go_wp2_with fail)
       exact ⟨rfl, HBD.out _ h1 ((k6N).trans k5)⟩
      (try go_wp2_with fail)
      rw [← HHC.out];have k5N := (k6N).trans k5;have k5R := Nw.heap k5 k6R;refine hK.out _ _ (KEY.out _ k5N) (fun _ => ?_);clear hK K;try simp only [Act.put, nz1, nz2, nz3]
      refine wpAnyH_ready (rs := [7]) (by kernel_rfl) (by simp) ?_;refine AllReadyH.cons (o := ⟨none, .store 89 (.tmp 6) (.tmp 26), 0, "reader.go:98", #[⟨6, .data⟩, ⟨5, .data⟩, ⟨5, .chain⟩, ⟨0, .phase⟩, ⟨1, .phase⟩, ⟨2, .phase⟩, ⟨3, .phase⟩, ⟨4, .phase⟩, ⟨5, .phase⟩, ⟨6, .phase⟩], none⟩) rfl (fun K hK => ?_) AllReadyH.nil;rw [if_pos (by rfl)];obtain ⟨FR, FN, FG⟩ := HFI.out _ w4.heap.size k5N (Nat.le_refl _) k5R;refine wp_store_row 89 _ _ rfl w4.heap.size HC (by first | rfl | simp [Act.eval]) (by first | rfl | simp [Act.eval]) 89 _ k5R HHI.out HH2.out HH1.out ?_
      refine hK.out _ _ (KEY.out _ FN) (fun _ => ?_);clear hK K;refine wpAnyH_done (by kernel_rfl) ?_ _
      go_wp2_with fail
      go_meet
      exact ⟨_, _, rfl, rfl, FR, FN, FG, h1⟩
      )
    case rest =>
    obtain ⟨h2, wx, rfl, hwx, HG⟩ := hcut;have hwx' := hwx.symm;subst hwx';clear hwx;obtain ⟨g1, g2, g3, g4⟩ := HG.out;have HXX := tHid (HXW.out.nw g2);have HKX := tHid (HKV.out.trans g2);have ROWH := tHid g1;have hcor := HCO.out g4;obtain ⟨u1, u2, u3', u4⟩ := dec_bnd g4;have HTL : Hid (∀ U, Calls Tryz.prog 36 #[.agg HC] U fun e w' => e = .returned (.bool (isTl (decH R).typ)) ∧ Nw U w') := fun U => by rw [HHC.out]; exact qtells_any _ R p U
    clear HG g1 g2 g3 HDD HFI HBD HCO HKEY HINF ROW4 HXW HKV HN3 HH2 HBAD HS HR0;go_upto_region 6 with fail
    go_wp2_with (first
     | (refine wpList_load_row rfl 89 _ rfl h2 (by first | rfl | simp [Act.eval]) 89 _ (0, 0) _ ROWH.out Tryz.underlying89 rfl HHI.out ?_))
    go_at_call 36
    with_reducible refine (HTL.out _).mono ?_
    rintro e w6 ⟨rfl, k6⟩;have HX6 := tHid (HXX.out.nw k6);have ROW6 := tHid (Nw.heap k6 ROWH.out);clear k6 HXX HKX ROWH HTL;by_cases htl : isTl (decH R).typ = true
    ·rw [htl];rw [if_pos htl] at hcor;have HPS : Hid (Calls Tryz.prog 38 #[.pointer (some ⟨rb, 0, none⟩), .agg HC, .pointer (some ⟨ab, 0, none⟩)] w6 (PssA rb ab va vc b vG og fo.isSome (fo.getD 0) p (psR (b.drop p) (decH R) G A) w6)) := by
      have h := qpass_any w6 p (by omega) (decH R) HX6.out.rm fo.isSome (fo.getD 0) HX6.out.ar HX6.out.lo (by have := HX6.out.le; omega) (fun g hg => ⟨by have := HX6.out.op g hg; have := HX6.out.le; omega, (HX6.out.op g hg).2.1⟩) u3' htl HX6.out.ok.len (kyB_g HX6.out.ok) HX6.out.oa.len;rw [HFD.out, ← HHC.out] at h;exact h
     have HR := tHid HXR.out;have HOKX : Hid (∀ L g G' A', psR (b.drop p) (decH R) G A = .on L g G' A' → OkG G' ∧ OkA A') := fun L g G' A' h => psR_ok h HX6.out.ok HX6.out.oa
     go_upto_region 8 with fail
     go_wp2_with (first
      | (refine wpList_load_row rfl 89 _ rfl h2 (by first | rfl | simp [Act.eval]) 89 _ (0, 0) _ ROW6.out Tryz.underlying89 rfl HHI.out ?_))
     go_at_call 38
     with_reducible refine HPS.out.mono ?_
     rintro e w7 HA;cases hps : psR (b.drop p) (decH R) G A with
     | fin => rw [hps] at HA; exact HA.elim
     | got y L => rw [hps] at HA; exact HA.elim
     | bad pl E =>
      rw [hps] at HA hcor;obtain ⟨rfl, f1, f2⟩ := HA;have HZ : Hid (Q (gvR ((p + pl : Nat) : Int) (E : Nat)) w7) := by
       have hR := HR.out;rw [nx_bad hcor] at hR;rw [HQ.out, ← hR];exact ⟨rfl, vG, HX6.out.bad f1 f2⟩
      go_wp2_with fail
      exact ⟨rfl, HZ.out⟩
     | on L g G' A' =>
      have hok := HOKX.out L g G' A' hps;rw [hps] at HA hcor;obtain ⟨vG', vL', og', rfl, KA⟩ := HA;obtain ⟨f1, f2, f3, f4, f5, f6⟩ := KA.out;have hX7 := tHid (HX6.out.on f1 f2 f3 f4 f5 (f6.imp (fun e => ⟨e.1, by have e2 := e.2; subst e2; exact psR_same hps⟩) id) hok.1 hok.2);have hcn := cor_on hcor;have hR := HR.out;rw [nx_on hcor] at hR;have hR7 := tHid hR;clear KA f1 f2 f3 f4 f5 f6 hR HR HX6 HPS HOKX hok
      go_wp2_with fail
      go_roundg (b.length - (p + L))
      case measure => omega
      case rel => exact ⟨p + L, vG', G', A', _, vL', og', by omega, by omega, hX7.out, hR7.out⟩
    ·rw [show isTl (decH R).typ = false by rw [Bool.not_eq_true] at htl; exact htl];rw [if_neg htl] at hcor;have HPS : Hid (Calls Tryz.prog 37 #[.pointer (some ⟨rb, 0, none⟩), .agg HC, .agg (ahC fo.isSome ((fo.getD 0 : Nat) : Int) vL A)] w6 (EnA rb va vc b vG G p (if fo.isSome = true then fo.getD 0 else p) (enR (b.drop p) (decH R) G A) w6)) := by
      have h := qentry_any w6 p (by omega) (decH R) HX6.out.rl A fo.isSome (fo.getD 0) vL (HX6.out.lo.slr rpOk) HX6.out.ok.len HX6.out.oa.len (kyB_of HX6.out.ok HX6.out.oa) (vlB_of HX6.out.ok HX6.out.oa) u1 u2 u3' (by omega) (path_size HX6.out.ok HX6.out.oa _ u4) B (hE.fr HX6.out.fr hB.1 (fun k hk => by rw [hk]; exact hB.2)) ⟨by have := ge_of HX6.out.fr; omega, hB.2⟩;rw [HFD.out, ← HHC.out] at h;exact h
     have hfo : (if fo.isSome = true then fo.getD 0 else p) = fo.getD p := by cases fo <;> rfl
     rw [hfo] at HPS;have HR := tHid HXR.out;have HAR := tHid HX6.out.ar;obtain ⟨AC, hAC⟩ : ∃ AC, ahC fo.isSome ((fo.getD 0 : Nat) : Int) vL A = AC := ⟨_, rfl⟩;have HAI : Hid ((Tryz.prog.info? 85).map (·.size) = some AC.size) := by
      show _ = _;have q1 : (Tryz.prog.info? 85).map (·.size) = some 7 := by kernel_rfl
      rw [← hAC]; exact q1
     rw [hAC] at HPS HAR;clear hAC;go_upto_region 7 with fail
     go_wp2_with (first
      | (refine wpList_load_row rfl 89 _ rfl h2 (by first | rfl | simp [Act.eval]) 89 _ (0, 0) _ ROW6.out Tryz.underlying89 rfl HHI.out ?_)
      | (refine wpList_load_row rfl 85 _ rfl ab (by first | rfl | simp [Act.eval]) 85 _ (0, 0) _ HAR.out Tryz.underlying85 rfl HAI.out ?_))
     go_at_call 37
     with_reducible refine HPS.out.mono ?_
     rintro e w7 HA;cases hps : enR (b.drop p) (decH R) G A with
     | fin => rw [hps] at HA; exact HA.elim
     | on L g G' A' => rw [hps] at HA; exact HA.elim
     | bad pl E =>
      rw [hps] at HA hcor;obtain ⟨rfl, f1, f2⟩ := HA;have HZ : Hid (Q (gvR ((p + pl : Nat) : Int) (E : Nat)) w7) := by
       have hR := HR.out;rw [nx_bad hcor] at hR;rw [HQ.out, ← hR];exact ⟨rfl, vG, HX6.out.bad (f1.mono (fun i hi => by first | exact .inl hi | exact .inl (.inl hi))) f2⟩
      go_wp2_with fail
      exact ⟨rfl, HZ.out⟩
     | got y L =>
      have hnx := (enR_plc hps).2.2.1;rw [hps] at HA hcor;obtain ⟨vM, vP, rfl, KA⟩ := HA;obtain ⟨f1, f2, f3, f4, f5⟩ := KA.out;have it7 : w7.heap[ib]? = some (.cells ziC 36) := cell_kept f1 HX6.out.it (by have := HX6.out.le; omega);obtain ⟨CI, hCI⟩ : ∃ CI, icC y y.size (fo.getD p) p (p + y.data) (p + L) vM vP = CI := ⟨_, rfl⟩;rw [hCI];obtain ⟨W8, e8⟩ : ∃ W8, w7.setRow ib CI = W8 := ⟨_, rfl⟩;have ROW8 : Hid (W8.heap[ib]? = some (.cells CI 36)) := by rw [← e8]; exact setRow_heap _ _ _ _ 36 _ it7
      have HII : Hid ((Tryz.prog.info? 36).map (·.size) = some CI.size) := by show _ = _; rw [← hCI]; exact icI
      have HI2 : Hid ((ziC : Array Value).size = CI.size) := by show _ = _; rw [← hCI]; rfl
      have HI1 : Hid (CI.all (·.oneCell') = true) := by
       show _ = _;obtain ⟨a, n, c, rfl⟩ := f5;obtain ⟨⟨aM, nM, cM, rfl⟩, _⟩ := f3;rw [← hCI]; simp [icC, Value.oneCell']
      have HEND : Hid (Q (.returned (.tuple #[.agg CI, .bool true])) W8) := by
       have hR := HR.out;rw [nx_got hcor] at hR;have h8 := HX6.out.end_ f1 f2.row f2.pl CI;have fo8 : Fr (fun k => k = ib) w7 (w7.setRow ib CI) := (Fr.refl _ _).setRow ib _ (.inl rfl);have s6 := ge_of HX6.out.fr;rw [HQ.out, ← hR, ← e8];refine ⟨vM, vP, vG, ?_, h8.1, h8.2.1, HX6.out.ok, (f3.item fo8 (fun k hk => hk) it7).base s6, ?_, f5, h8.2.2⟩
       ·rw [← hCI];show _ = Ending.returned (.tuple #[.agg (icC (plI y p fo) (plI y p fo).size (plI y p fo).frm (plI y p fo).head (plI y p fo).data (plI y p fo).next vM vP), .bool true]);have e : (plI y p fo).next = p + L := by show p + y.next = p + L; rw [hnx]
        rw [e];rfl
       ·obtain ⟨og8, p1, p2⟩ := f4;exact ⟨og8, p1.kept fo8 (fun g hg hgo => og_item p1 (by decide) it7 g hg hgo), fun g hg => Nat.le_trans s6 (p2 g hg)⟩
      have HIT := tHid it7;clear KA f1 f2 f3 f4 f5 HX6 HPS HR it7 hCI
      go_wp2_with (first
       | (refine wpList_store_row rfl 36 _ _ rfl ib CI (by first | rfl | simp [Act.eval]) (by first | rfl | simp [Act.eval]) 36 _ HIT.out HII.out HI2.out HI1.out ?_; rw [e8]))
      (try simp only [Exit.inBlock, Exit.then])
      refine bodyPost_ret (results_c2i rfl _ _ ib CI rfl ROW8.out HII.out) rfl ?_;exact HEND.out
  ·have hltr : ¬ (p : Int) < (b.length : Int) := by omega
   have hc : cor (b.drop p) G A = .fin := by
    unfold cor;rw [if_pos (List.drop_eq_nil_of_le (by omega))]
   go_upto_region 2 with fail
   go_quiet (fail)
   have HXE : Hid (Nx Z w rb ab ib va vc b p vG G A fo vL og (wr.drewN nq)) := HX.out.1.nw ((Fr.refl _ _).drewN _);have hR := HX.out.2;obtain ⟨V, hV⟩ : ∃ V, wr.drewN nq = V := ⟨_, rfl⟩;rw [hV] at HXE;rw [hV];clear hV;rw [nx_fin hc] at hR;go_upto_region 9 with fail
   (try rw [nx_fin hc] at hR)
   cases fo with
   | none =>
    have a0 : V.cell? ⟨ab, 0, none⟩ = some (.bool false) := cell_of HXE.out.ar 0 _ rfl;obtain ⟨W5, e5⟩ : ∃ W5, V.setRow ib ziC = W5 := ⟨_, rfl⟩;have ROW5 : Hid (W5.heap[ib]? = some (.cells ziC 36)) := by rw [← e5]; exact setRow_heap _ _ _ _ 36 _ HXE.out.it
    have HZ0 : Hid ((ziC : Array Value).all (·.oneCell') = true) := by show _ = _; simp [ziC, Value.oneCell']
    have HEND : Hid (Q (.returned (.tuple #[.agg ziC, .bool false])) W5) := by
     rw [HQ.out, ← hR, ← e5];exact ⟨vG, rfl, (HXE.out.end_ (Fr.refl _ _) HXE.out.rm.row HXE.out.rm.pl ziC).1, (HXE.out.end_ (Fr.refl _ _) HXE.out.rm.row HXE.out.rm.pl ziC).2.1, HXE.out.ok, (HXE.out.end_ (Fr.refl _ _) HXE.out.rm.row HXE.out.rm.pl ziC).2.2⟩
    have HIT := tHid HXE.out.it
    go_wp2_with (first
     | (refine wpList_buildTo rfl 36 _ rfl _ rfl ziC (by kernel_rfl) ?_)
     | (refine wpList_store_row rfl 36 _ _ rfl ib ziC (by first | rfl | simp [Act.eval]) (by first | rfl | simp [Act.eval]) 36 _ HIT.out ziI rfl HZ0.out ?_; rw [e5]))
    (try simp only [Exit.inBlock, Exit.then])
    refine bodyPost_ret (results_c2i rfl _ _ ib ziC rfl ROW5.out ziI) rfl ?_;exact HEND.out
   | some f =>
    have a0 : V.cell? ⟨ab, 0, none⟩ = some (.bool true) := cell_of HXE.out.ar 0 _ rfl;have a1 : V.cell? ⟨ab, 1, none⟩ = some (.int .i64 (f : Nat)) := cell_of HXE.out.ar 1 _ rfl;have HZ : Hid (Q (gvR (f : Nat) (160 : Nat)) V) := by
     rw [HQ.out, ← hR];exact ⟨rfl, vG, HXE.out.fr, HXE.out.rm.alv, HXE.out.out, HXE.out.ok⟩
    go_wp2_with fail
    go_at_call 39
    with_reducible refine (qgiveUp_any _ _ _).mono ?_
    rintro e w5 ⟨rfl, rfl⟩
    go_wp2_with fail
    exact ⟨rfl, HZ.out⟩
end Go.Proofs.YtlenihpbhlfcoaaGreatDoor

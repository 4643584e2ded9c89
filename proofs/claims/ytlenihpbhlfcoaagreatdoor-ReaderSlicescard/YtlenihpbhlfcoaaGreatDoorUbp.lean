import Derived.Test.YtlenihpbhlfcoaaGreatDoorUbn
set_option maxHeartbeats 8000000
set_option maxRecDepth 100000
set_option linter.unusedSimpArgs false
set_option linter.unusedVariables false
namespace Go.Proofs.YtlenihpbhlfcoaaGreatDoor
open Go.RowKit Go.Deep
variable {rb ab : Nat} {va : Option Addr} {vc : Nat} {b : List By} {vG : Value} {G : List Pr} {og : Option Nat} {vL : Value} {A : Ah}
theorem geP {w V : World} {X : Nat → Prop} (h : Fr X w V) : w.heap.size ≤ V.heap.size := h.size
theorem merge_lenP (b a : List Pr) : (mergeV b a).length ≤ b.length + a.length := by
 have h : ∀ (r out : List Pr), (mrg r out).length ≤ r.length + out.length := fun r => by
  induction r with
  | nil => intro out; simp [mrg]
  | cons x r ih =>
   intro out;rw [mrg];split
   ·have := ih (insP x out);rw [insP_len] at this;simp only [List.length_cons]; omega
   ·have := ih out;simp only [List.length_cons]; omega
 have := h (b ++ a) [];rw [List.length_append, List.length_nil] at this;unfold mergeV;omega
theorem prt_fit (q : List Pr) (h : ∀ x ∈ q, lng x ≠ 0) : q.length ≤ (prt q).length ∧ ∀ x ∈ q, x.1.length + x.2.length ≤ (prt q).length := by
 induction q with
 | nil => exact ⟨Nat.le_refl _, fun x hx => by cases hx⟩
 | cons y r ih =>
  obtain ⟨h1, h2⟩ := ih (fun x hx => h x (List.mem_cons_of_mem _ hx));have h3 := rec1_len y (h y (List.mem_cons_self ..));have h4 : y.1.length + y.2.length + 3 ≤ lng y := by
   rcases lng_spec y with ⟨h0, _⟩ | ⟨e, _, _, h5, _⟩
   ·exact absurd h0 (h y (List.mem_cons_self ..))
   ·omega
  rw [prt, List.length_append, h3];refine ⟨by simp only [List.length_cons]; omega, fun x hx => ?_⟩;rcases List.mem_cons.1 hx with rfl | hx
  ·omega
  ·have := h2 x hx; omega
theorem prs_fit (d : Bs) (h : (prs d 0 []).2.2 = 0) : (prs d 0 []).1.length ≤ d.length ∧ ∀ x ∈ (prs d 0 []).1, x.1.length ≤ d.length ∧ x.2.length ≤ d.length := by
 have h1 := (prs_errno d 0 []).2.2.2 h;obtain ⟨m, hm⟩ : ∃ m, m = (prs d 0 []).1 := ⟨_, rfl⟩;have hp : prs d 0 [] = (m, 0, 0) := by
  rw [hm];apply Prod.ext
  ·rfl
  ·apply Prod.ext
   ·exact h1
   ·exact h
 obtain ⟨q, e1, e2, e3, _⟩ := prs_back d 0 [] m (Nat.zero_le _) hp;rw [List.nil_append] at e1;subst e1;obtain ⟨f1, f2⟩ := prt_fit m (fun x hx => (e2 x hx).2);rw [← hm];exact ⟨by omega, fun x hx => by have := f2 x hx; omega⟩
def PX (rb ab : Nat) (og : Option Nat) (k : Nat) : Prop := k = rb ∨ k = ab ∨ og = some k
def PY (rb ab : Nat) (og : Option Nat) (w : World) (k : Nat) : Prop := k = rb ∨ k = ab ∨ og = some k ∨ w.heap.size ≤ k
theorem NewP.slr {w V : World} {v : Value} {P : List Pr} (h : NewP w v P V) : ∃ X, SlR RP X v P V := by
 obtain ⟨og, h2, _⟩ := h;exact ⟨_, h2.slr rpOk⟩
def PssA (rb ab : Nat) (va : Option Addr) (vc : Nat) (b : List By) (vG : Value) (og : Option Nat) (th : Bool) (fr q : Nat) (o : Out) (w : World) (e : Ending) (w' : World) : Prop :=
 match o with
 | .bad pl E => e = gvR ((q + pl : Nat) : Int) (E : Nat) ∧ Fr (PX rb ab og) w w' ∧ Alv rb va vc b vG w'
 | .on L g G' A' => ∃ vG' vL' og', e = .returned (.tuple #[]) ∧ Hid (Fr (PX rb ab og) w w' ∧ w'.heap[ab]? = some (.cells (ahC (if g = true then th else true) (if g = true then (fr : Int) else (if th = true then (fr : Int) else (q : Int))) vL' A') 85) ∧ Rm (PY rb ab og' w') rb va vc b (q + L) vG' G' w' ∧ OgR RP og' vL' A'.loc w' ∧ (og' = og ∨ ∃ g, og' = some g ∧ w.heap.size ≤ g) ∧ ((vG' = vG ∧ g = false) ∨ SlR RP (fun k => k < w.heap.size) vG' G' w'))
 | _ => False
structure Ptt (w : World) (rb ab hb : Nat) (va : Option Addr) (vc : Nat) (b : List By) (vG : Value) (G : List Pr) (og : Option Nat) (vL : Value) (A : Ah) (HC AC : Array Value) (p : Nat) (V : World) : Prop where
 fr : Fr (PX rb ab og) w V
 hd : V.heap[hb]? = some (.cells HC 89)
 ar : V.heap[ab]? = some (.cells AC 85)
 rm : Rm (PY rb ab og w) rb va vc b p vG G V
 lo : OgR RP og vL A.loc V
 ne : rb ≠ ab ∧ hb ≠ rb ∧ hb ≠ ab
 op : ∀ g, og = some g → g ≠ rb ∧ g ≠ ab
section
variable {w V U : World} {hb p : Nat} {HC AC : Array Value}
theorem og_type {α : Type} {R : RT α} {og : Option Nat} {v : Value} {l : List α} {V : World} {o T : Nat} {C : Array Value} (h : OgR R og v l V) (hT : R.T ≠ T) (ho : V.heap[o]? = some (.cells C T)) : ∀ g, og = some g → ¬ g = o := by
 intro g hg he;subst hg he;obtain ⟨xs, _, _, _, _, hs⟩ := h;have hs' : V.heap[g]? = some (.cells (flatR R xs).toArray R.T) := hs;rw [ho] at hs';injection hs' with hs';injection hs' with _ e;exact hT e.symm
theorem Ptt.nw (h : Ptt w rb ab hb va vc b vG G og vL A HC AC p V) (k : Nw V U) : Ptt w rb ab hb va vc b vG G og vL A HC AC p U :=
 ⟨h.fr.trans k.any, Nw.heap k h.hd, Nw.heap k h.ar, h.rm.nw k, h.lo.nw k, h.ne, h.op⟩
theorem Ptt.rd (h : Ptt w rb ab hb va vc b vG G og vL A HC AC p V) {p' : Nat} (k : Fr (fun k => k = rb) V U) (hr : Rm (PY rb ab og w) rb va vc b p' vG G U) : Ptt w rb ab hb va vc b vG G og vL A HC AC p' U :=
 ⟨h.fr.trans (k.mono (fun i hi => .inl (.inl hi))), cell_kept k h.hd h.ne.2.1, cell_kept k h.ar (fun e => h.ne.1 e.symm), hr, h.lo.kept k (fun g hg e => (h.op g hg).1 e), h.ne, h.op⟩
theorem Ptt.st (h : Ptt w rb ab hb va vc b vG G og vL A HC AC p V) (j : Nat) (v : Value) : Ptt w rb ab hb va vc b vG G og vL A HC (AC.setIfInBounds j v) p (V.setCell ⟨ab, j, none⟩ v) := by
 have k : Fr (fun k => k = ab) V (V.setCell ⟨ab, j, none⟩ v) := (Fr.refl _ _).setCell _ _ (.inl rfl);exact ⟨h.fr.trans (k.mono (fun i hi => .inl (.inr (.inl hi)))), cell_kept k h.hd h.ne.2.2, row_setN h.ar j v, h.rm.keep k h.ne.1 (fun i hi => .inr (.inl hi)), h.lo.kept k (fun g hg e => (h.op g hg).2 e), h.ne, h.op⟩
theorem pt_start {q : Nat} (hr : Rm (PY rb ab og w) rb va vc b q vG G w) (ha : w.heap[ab]? = some (.cells AC 85)) (hl : OgR RP og vL A.loc w) (hne : rb ≠ ab) (hop : ∀ g, og = some g → g ≠ rb ∧ g ≠ ab) : Ptt w rb ab w.heap.size va vc b vG G og vL A HC AC q (w.alloc (.cells HC 89)) := by
 have k : Nw w (w.alloc (.cells HC 89)) := (Fr.refl _ _).alloc _;have h1 := hr.lt;have h2 : ab < w.heap.size := (Array.getElem?_eq_some_iff.1 ha).1;exact ⟨k.any, newHeap _ _, Nw.heap k ha, hr.nw k, hl.nw k, ⟨hne, by omega, by omega⟩, hop⟩
theorem np_fit {U U' : World} {v : Value} {MG : List Pr} (h : NewP V v MG U) (P : Ptt w rb ab hb va vc b vG G og vL A HC AC p V) (k : Nw U U') : ∃ o, OgR RP o v MG U' ∧ ∀ g, o = some g → w.heap.size ≤ g ∧ og ≠ some g := by
 obtain ⟨o, h1, h2⟩ := h;refine ⟨o, h1.nw k, fun g hg => ⟨by have := h2 g hg; have := geP P.fr; omega, fun e => ?_⟩⟩;have := h2 g hg;have := P.lo.lt g e;omega
theorem Ptt.ry (h : Ptt w rb ab hb va vc b vG G og vL A HC AC p V) : Rm (PY rb ab og V) rb va vc b p vG G V :=
 ⟨h.rm.row, h.rm.sl.mono (fun g hg => hg.elim .inl (fun hg => .inr (hg.elim .inl (fun hg => .inr (hg.elim .inl (fun hg => .inr (by have := geP h.fr; omega))))))), h.rm.gl.mono (fun g hg => hg.elim .inl (fun hg => .inr (hg.elim .inl (fun hg => .inr (hg.elim .inl (fun hg => .inr (by have := geP h.fr; omega))))))), .inl rfl, h.rm.pl, h.rm.bl⟩
end
theorem qpass_long (w : World) (q : Nat) (hq : q + 512 ≤ b.length) (h : Hr) (hr : Rm (PY rb ab og w) rb va vc b q vG G w) (th : Bool) (fr : Nat) (ha : w.heap[ab]? = some (.cells (ahC th fr vL A) 85)) (hl : OgR RP og vL A.loc w) (hne : rb ≠ ab) (hop : ∀ g, og = some g → g ≠ rb ∧ g ≠ ab) (hz : 0 ≤ h.size ∧ h.size ≤ 9223372036854775807) (hlong : (1048576 : Int) < h.size) :
  Calls Tryz.prog 38 #[.pointer (some ⟨rb, 0, none⟩), .agg (hdC h (fd b q 512) q), .pointer (some ⟨ab, 0, none⟩)] w (PssA rb ab va vc b vG og th fr q (psR (b.drop q) h G A) w) := by
 refine asP fun Q hQ => ?_
 unfold psR at hQ;obtain ⟨AC, hAC⟩ : ∃ AC, AC = ahC th fr vL A := ⟨_, rfl⟩;rw [← hAC] at ha;obtain ⟨HC, hHC⟩ : ∃ HC, HC = hdC h (fd b q 512) q := ⟨_, rfl⟩;obtain ⟨hb, hhb⟩ : ∃ hb, w.heap.size = hb := ⟨_, rfl⟩;obtain ⟨W1, hW1⟩ : ∃ W1, w.alloc (.cells HC 89) = W1 := ⟨_, rfl⟩;have P1' : Ptt w rb ab hb va vc b vG G og vL A HC AC q W1 := by rw [← hW1, ← hhb]; exact pt_start hr ha hl hne hop
 obtain ⟨zn, hzn⟩ : ∃ zn : Nat, zn = h.size.toNat := ⟨_, rfl⟩;have ezn : h.size = (zn : Int) := by omega
 rw [← hzn, ezn] at hQ;have hznl : zn ≤ 9223372036854775807 := by omega
 have HCC : Hid (∀ V : World, V.heap[hb]? = some (.cells HC 89) → V.cell? ⟨hb, 6, none⟩ = some (.int .i64 (zn : Nat)) ∧ V.cell? ⟨hb, 8, none⟩ = some (.int .u8 h.typ.toNat) ∧ V.cell? ⟨hb, 526, none⟩ = some (.int .i64 (q : Nat))) := fun V hV => by
  rw [hHC] at hV;exact ⟨cell_of hV 6 _ (hdC_lo h _ q 6 _ (by rw [← ezn]; rfl)), cell_of hV 8 _ (hdC_lo h _ q 8 _ rfl), cell_of hV 526 _ (hdC_at h _ (fd_length b q 512 hq) q)⟩
 have HHI : Hid ((Tryz.prog.info? 89).map (·.size) = some HC.size) := by
  show _ = _;rw [hHC]; exact hd_info h _ (fd_length b q 512 hq) q
 have P1 := tHid P1';have HW1 := tHid hW1;have HHC := tHid hHC;have HAC := tHid hAC;have HQL := tHid hq;have HLT : Hid (ab < w.heap.size ∧ rb < w.heap.size) := ⟨(Array.getElem?_eq_some_iff.1 ha).1, hr.lt⟩;have HGU : Hid (∀ V, Calls Tryz.prog 39 #[.int .i64 (q : Nat), .int .i64 2] V fun x w' => x = gvR (q : Nat) 2 ∧ V = w') := fun V => (qgiveUp_any (q : Nat) 2 V).mono (fun e w' ⟨e1, e2⟩ => ⟨e1, e2.symm⟩)
 rw [← hHC];clear P1' hW1 hHC hAC hr ha hl hop hz hzn hq;rw [if_pos (by rw [← ezn]; exact hlong)] at hQ;have HZ : Hid (∀ V, Fr (PX rb ab og) w V → Alv rb va vc b vG V → Q (gvR (q : Nat) 2) V) := fun V hV hA => by
  rw [hQ]; exact ⟨by rw [Nat.add_zero]; rfl, hV, hA⟩
 have hgt : (1048576 : Int) < (zn : Int) := by rw [← ezn]; exact hlong
 clear hQ hlong ezn hznl;go_enter Tryz.func38, Tryz.ntmps38;go_upto_region 1 with fail;rw [HW1.out];obtain ⟨z6, z8, z9⟩ := HCC.out W1 P1.out.hd
 go_wp2_with (first | (go_at_call 39; (with_reducible refine (HGU.out _).mono ?_); rintro e w2 ⟨rfl, rfl⟩))
 exact ⟨rfl, HZ.out _ P1.out.fr P1.out.rm.alv⟩
theorem qpass_short (w : World) (q : Nat) (hq : q + 512 ≤ b.length) (h : Hr) (hr : Rm (PY rb ab og w) rb va vc b q vG G w) (th : Bool) (fr : Nat) (ha : w.heap[ab]? = some (.cells (ahC th fr vL A) 85)) (hl : OgR RP og vL A.loc w) (hne : rb ≠ ab) (hop : ∀ g, og = some g → g ≠ rb ∧ g ≠ ab) (hz : 0 ≤ h.size ∧ h.size ≤ 9223372036854775807) (hlong : ¬ (1048576 : Int) < h.size) (hk : ¬ q + 512 + h.size.toNat + padN h.size.toNat ≤ b.length) :
  Calls Tryz.prog 38 #[.pointer (some ⟨rb, 0, none⟩), .agg (hdC h (fd b q 512) q), .pointer (some ⟨ab, 0, none⟩)] w (PssA rb ab va vc b vG og th fr q (psR (b.drop q) h G A) w) := by
 refine asP fun Q hQ => ?_
 unfold psR at hQ;obtain ⟨AC, hAC⟩ : ∃ AC, AC = ahC th fr vL A := ⟨_, rfl⟩;rw [← hAC] at ha;obtain ⟨HC, hHC⟩ : ∃ HC, HC = hdC h (fd b q 512) q := ⟨_, rfl⟩;obtain ⟨hb, hhb⟩ : ∃ hb, w.heap.size = hb := ⟨_, rfl⟩;obtain ⟨W1, hW1⟩ : ∃ W1, w.alloc (.cells HC 89) = W1 := ⟨_, rfl⟩;have P1' : Ptt w rb ab hb va vc b vG G og vL A HC AC q W1 := by rw [← hW1, ← hhb]; exact pt_start hr ha hl hne hop
 obtain ⟨zn, hzn⟩ : ∃ zn : Nat, zn = h.size.toNat := ⟨_, rfl⟩;have ezn : h.size = (zn : Int) := by omega
 rw [← hzn, ezn] at hQ;have hznl : zn ≤ 9223372036854775807 := by omega
 have HCC : Hid (∀ V : World, V.heap[hb]? = some (.cells HC 89) → V.cell? ⟨hb, 6, none⟩ = some (.int .i64 (zn : Nat)) ∧ V.cell? ⟨hb, 8, none⟩ = some (.int .u8 h.typ.toNat) ∧ V.cell? ⟨hb, 526, none⟩ = some (.int .i64 (q : Nat))) := fun V hV => by
  rw [hHC] at hV;exact ⟨cell_of hV 6 _ (hdC_lo h _ q 6 _ (by rw [← ezn]; rfl)), cell_of hV 8 _ (hdC_lo h _ q 8 _ rfl), cell_of hV 526 _ (hdC_at h _ (fd_length b q 512 hq) q)⟩
 have HHI : Hid ((Tryz.prog.info? 89).map (·.size) = some HC.size) := by
  show _ = _;rw [hHC]; exact hd_info h _ (fd_length b q 512 hq) q
 have P1 := tHid P1';have HW1 := tHid hW1;have HHC := tHid hHC;have HAC := tHid hAC;have HQL := tHid hq;have HLT : Hid (ab < w.heap.size ∧ rb < w.heap.size) := ⟨(Array.getElem?_eq_some_iff.1 ha).1, hr.lt⟩;have HGU : Hid (∀ V, Calls Tryz.prog 39 #[.int .i64 (q : Nat), .int .i64 2] V fun x w' => x = gvR (q : Nat) 2 ∧ V = w') := fun V => (qgiveUp_any (q : Nat) 2 V).mono (fun e w' ⟨e1, e2⟩ => ⟨e1, e2.symm⟩)
 rw [← hHC];rw [← hzn] at hk;rw [ezn] at hlong;clear P1' hW1 hHC hAC hr ha hl hop hz hzn hq;have HTK : ∀ V, Rm (PY rb ab og w) rb va vc b (q + 512) vG G V → Calls Tryz.prog 58 #[.pointer (some ⟨rb, 0, none⟩), .int .i64 (zn : Nat)] V (TkA (PY rb ab og w) rb va vc b (q + 512) zn vG G V) := fun V hV => qtake_any hV (by have := HQL.out; omega) zn hznl
 have hsz : ¬ (1048576 : Int) < (zn : Int) := by omega
 rw [if_neg hsz, tk_place (by have := HQL.out; omega)] at hQ;rw [if_neg hk] at hQ;have HZ : Hid (∀ V, Fr (PX rb ab og) w V → Alv rb va vc b vG V → Q (gvR (b.length : Nat) 4) V) := fun V hV hA => by
  rw [hQ];refine ⟨?_, hV, hA⟩;have := HQL.out;have e : q + (b.length - q) = b.length := by omega
  rw [List.length_drop, e]; rfl
 have HT : Hid (∀ V, Rm (PY rb ab og w) rb va vc b (q + 512) vG G V → Calls Tryz.prog 58 #[.pointer (some ⟨rb, 0, none⟩), .int .i64 (zn : Nat)] V fun e w' => e = gvR (b.length : Nat) 4 ∧ Nw V w') := fun V hV => (HTK V hV).mono (fun e w' H => by
  rcases H with ⟨_, h2, h3⟩ | ⟨h1, _⟩
  ·exact ⟨h2, h3⟩
  ·omega)
 clear hQ HTK hk ezn hznl hlong;go_enter Tryz.func38, Tryz.ntmps38;go_upto_region 1 with fail;rw [HW1.out];obtain ⟨z6, z8, z9⟩ := HCC.out W1 P1.out.hd;obtain ⟨_, r1, f1, _, _⟩ := P1.out.rm.cells;obtain ⟨q5, hq5⟩ : ∃ q5 : Nat, q5 = q + 512 := ⟨_, rfl⟩;have hqi : (q : Int) + 512 = (q5 : Int) := by omega
 obtain ⟨W2, hW2⟩ : ∃ W2, W1.setCell ⟨rb, 1, none⟩ (.int .i64 (q5 : Nat)) = W2 := ⟨_, rfl⟩;have f2 : Fr (fun k => k = rb) W1 W2 := by rw [← hW2]; exact (Fr.refl _ _).setCell _ _ (.inl rfl)
 have P2 : Hid (Ptt w rb ab hb va vc b vG G og vL A HC AC (q + 512) W2) := P1.out.rd f2 (by
  rw [← hW2];exact (P1.out.rm.go (q + 512) HQL.out (q5 : Nat) (by rw [hq5])).1)
 have hqw : IntKind.i64.wrap (q5 : Int) = (q5 : Int) := by rw [IntKind.wrap_i64]; have := P1.out.rm.bl; have := HQL.out; omega
 have HQ5 := tHid hq5;have r2 : W2.cell? ⟨rb, 1, none⟩ = some (.int .i64 (q5 : Nat)) := by have := P2.out.rm.cells.2.1; rw [← hq5] at this; exact this
 clear hq5;go_upto_region 4 with fail
 (try rw [hW2])
 clear hW2 f2 r1 f1 hqi hqw z6 z8 z9 P1;obtain ⟨z6, z8, z9⟩ := HCC.out W2 P2.out.hd
 go_wp2_with fail
 go_at_call 58
 with_reducible refine (HT.out _ P2.out.rm).mono ?_
 rintro e w4 ⟨rfl, K4⟩
 go_wp2_with fail
 exact ⟨rfl, HZ.out _ (P2.out.nw K4).fr (P2.out.nw K4).rm.alv⟩
theorem qpass_name (w : World) (q : Nat) (hq : q + 512 ≤ b.length) (h : Hr) (hr : Rm (PY rb ab og w) rb va vc b q vG G w) (th : Bool) (fr : Nat) (ha : w.heap[ab]? = some (.cells (ahC th fr vL A) 85)) (hl : OgR RP og vL A.loc w) (hne : rb ≠ ab) (hop : ∀ g, og = some g → g ≠ rb ∧ g ≠ ab) (hz : 0 ≤ h.size ∧ h.size ≤ 9223372036854775807) (hlong : ¬ (1048576 : Int) < h.size) (hk : q + 512 + h.size.toNat + padN h.size.toNat ≤ b.length) (ht : h.typ = 76#8) :
  Calls Tryz.prog 38 #[.pointer (some ⟨rb, 0, none⟩), .agg (hdC h (fd b q 512) q), .pointer (some ⟨ab, 0, none⟩)] w (PssA rb ab va vc b vG og th fr q (psR (b.drop q) h G A) w) := by
 refine asP fun Q hQ => ?_
 unfold psR at hQ;obtain ⟨AC, hAC⟩ : ∃ AC, AC = ahC th fr vL A := ⟨_, rfl⟩;rw [← hAC] at ha;obtain ⟨HC, hHC⟩ : ∃ HC, HC = hdC h (fd b q 512) q := ⟨_, rfl⟩;obtain ⟨hb, hhb⟩ : ∃ hb, w.heap.size = hb := ⟨_, rfl⟩;obtain ⟨W1, hW1⟩ : ∃ W1, w.alloc (.cells HC 89) = W1 := ⟨_, rfl⟩;have P1' : Ptt w rb ab hb va vc b vG G og vL A HC AC q W1 := by rw [← hW1, ← hhb]; exact pt_start hr ha hl hne hop
 obtain ⟨zn, hzn⟩ : ∃ zn : Nat, zn = h.size.toNat := ⟨_, rfl⟩;have ezn : h.size = (zn : Int) := by omega
 rw [← hzn, ezn] at hQ;have hznl : zn ≤ 9223372036854775807 := by omega
 have HCC : Hid (∀ V : World, V.heap[hb]? = some (.cells HC 89) → V.cell? ⟨hb, 6, none⟩ = some (.int .i64 (zn : Nat)) ∧ V.cell? ⟨hb, 8, none⟩ = some (.int .u8 h.typ.toNat) ∧ V.cell? ⟨hb, 526, none⟩ = some (.int .i64 (q : Nat))) := fun V hV => by
  rw [hHC] at hV;exact ⟨cell_of hV 6 _ (hdC_lo h _ q 6 _ (by rw [← ezn]; rfl)), cell_of hV 8 _ (hdC_lo h _ q 8 _ rfl), cell_of hV 526 _ (hdC_at h _ (fd_length b q 512 hq) q)⟩
 have HHI : Hid ((Tryz.prog.info? 89).map (·.size) = some HC.size) := by
  show _ = _;rw [hHC]; exact hd_info h _ (fd_length b q 512 hq) q
 have P1 := tHid P1';have HW1 := tHid hW1;have HHC := tHid hHC;have HAC := tHid hAC;have HQL := tHid hq;have HLT : Hid (ab < w.heap.size ∧ rb < w.heap.size) := ⟨(Array.getElem?_eq_some_iff.1 ha).1, hr.lt⟩;have HGU : Hid (∀ V, Calls Tryz.prog 39 #[.int .i64 (q : Nat), .int .i64 2] V fun x w' => x = gvR (q : Nat) 2 ∧ V = w') := fun V => (qgiveUp_any (q : Nat) 2 V).mono (fun e w' ⟨e1, e2⟩ => ⟨e1, e2.symm⟩)
 rw [← hHC];rw [← hzn] at hk;rw [ezn] at hlong;clear P1' hW1 hHC hAC hr ha hl hop hz hzn hq;have HTK : ∀ V, Rm (PY rb ab og w) rb va vc b (q + 512) vG G V → Calls Tryz.prog 58 #[.pointer (some ⟨rb, 0, none⟩), .int .i64 (zn : Nat)] V (TkA (PY rb ab og w) rb va vc b (q + 512) zn vG G V) := fun V hV => qtake_any hV (by have := HQL.out; omega) zn hznl
 have hsz : ¬ (1048576 : Int) < (zn : Int) := by omega
 rw [if_neg hsz, tk_place (by have := HQL.out; omega)] at hQ;rw [if_pos hk] at hQ;obtain ⟨d, hd⟩ : ∃ d, d = fd b (q + 512) zn := ⟨_, rfl⟩;rw [← hd] at hQ;simp only at hQ;rw [if_neg (by rw [ht]; decide), if_neg (by rw [ht]; decide), if_pos ht] at hQ;obtain ⟨TXD, hTX⟩ : ∃ TXD, TXD = str (txt d) := ⟨_, rfl⟩;rw [← hTX] at hQ;obtain ⟨pp, hpp⟩ : ∃ pp : Nat, pp = q + 512 + zn + padN zn := ⟨_, rfl⟩
 have HT : Hid (∀ V, Rm (PY rb ab og w) rb va vc b (q + 512) vG G V → Calls Tryz.prog 58 #[.pointer (some ⟨rb, 0, none⟩), .int .i64 (zn : Nat)] V fun e w' => ∃ a' c', e = .returned (.slice a' zn c') ∧ Hid (Sl (fun k => PY rb ab og w k ∨ V.heap.size ≤ k) (.slice a' zn c') d w' ∧ Rm (PY rb ab og w) rb va vc b pp vG G w' ∧ Fr (fun k => k = rb) V w')) := fun V hV => (HTK V hV).mono (fun e w' H => by
  rw [hpp, hd];rcases H with ⟨h1, _⟩ | ⟨_, a', c', h2, h3⟩
  ·omega
  ·exact ⟨a', c', h2, h3⟩)
 have HTE : Hid (∀ {X : Nat → Prop} (a' : Option Addr) (c' : Nat) V, Sl X (.slice a' zn c') d V → Calls Tryz.prog 62 #[.slice a' zn c'] V fun e w' => e = .returned (.string TXD) ∧ Nw V w') := fun a' c' V hV => by
  rw [hTX]; exact text_any V a' zn c' d hV
 have HOK : Hid (∀ V, Ptt w rb ab hb va vc b vG G og vL A HC (ahC true (if th = true then (fr : Int) else (q : Int)) vL { A with name := some TXD }) pp V → Q (.returned (.tuple #[])) V) := fun V hV => by
  rw [hQ];have e1 : q + (512 + zn + padN zn) = pp := by rw [hpp]; omega
  refine ⟨vG, vL, og, rfl, hV.fr, hV.ar, ?_, hV.lo, .inl rfl, .inl ⟨rfl, rfl⟩⟩;rw [e1]; exact hV.ry
 have b1 : ((h.typ.toNat : Int) == 103) = false := by rw [ht]; rfl
 have b2 : ((h.typ.toNat : Int) == 120) = false := by rw [ht]; rfl
 have b3 : ((h.typ.toNat : Int) == 76) = true := by rw [ht]; rfl
 clear hQ HTK hk ezn hznl hlong hTX hpp hd ht;go_enter Tryz.func38, Tryz.ntmps38;go_upto_region 1 with fail;rw [HW1.out];obtain ⟨z6, z8, z9⟩ := HCC.out W1 P1.out.hd;obtain ⟨_, r1, f1, _, _⟩ := P1.out.rm.cells;obtain ⟨q5, hq5⟩ : ∃ q5 : Nat, q5 = q + 512 := ⟨_, rfl⟩;have hqi : (q : Int) + 512 = (q5 : Int) := by omega
 obtain ⟨W2, hW2⟩ : ∃ W2, W1.setCell ⟨rb, 1, none⟩ (.int .i64 (q5 : Nat)) = W2 := ⟨_, rfl⟩;have f2 : Fr (fun k => k = rb) W1 W2 := by rw [← hW2]; exact (Fr.refl _ _).setCell _ _ (.inl rfl)
 have P2 : Hid (Ptt w rb ab hb va vc b vG G og vL A HC AC (q + 512) W2) := P1.out.rd f2 (by
  rw [← hW2];exact (P1.out.rm.go (q + 512) HQL.out (q5 : Nat) (by rw [hq5])).1)
 have hqw : IntKind.i64.wrap (q5 : Int) = (q5 : Int) := by rw [IntKind.wrap_i64]; have := P1.out.rm.bl; have := HQL.out; omega
 have HQ5 := tHid hq5;have r2 : W2.cell? ⟨rb, 1, none⟩ = some (.int .i64 (q5 : Nat)) := by have := P2.out.rm.cells.2.1; rw [← hq5] at this; exact this
 clear hq5;go_upto_region 4 with fail
 (try rw [hW2])
 clear hW2 f2 r1 f1 hqi hqw z6 z8 z9 P1;obtain ⟨z6, z8, z9⟩ := HCC.out W2 P2.out.hd
 go_wp2_with fail
 go_at_call 58
 with_reducible refine (HT.out _ P2.out.rm).mono ?_
 rintro e w4 ⟨a', c', rfl, K4⟩;have P4 := tHid (P2.out.rd K4.out.2.2 K4.out.2.1);have DT := tHid K4.out.1;obtain ⟨z6, z8', z9'⟩ := HCC.out w4 P4.out.hd;have P4r := P4.out.ar;rw [HAC.out] at P4r;have n1 : w4.cell? ⟨ab, 3, none⟩ = some (.string (nS A.name)) := cell_of P4r 3 _ rfl;have n2 : w4.cell? ⟨ab, 4, none⟩ = some (.bool (nB A.name)) := cell_of P4r 4 _ rfl;clear K4 P2;go_upto_region 12 with fail;go_upto_region 15 with (first
  | (go_at_call 62; (with_reducible refine (HTE.out _ _ _ DT.out).mono ?_); rintro e w5 ⟨rfl, K5⟩; have P5 := tHid (P4.out.nw K5); have m1 := cell_of (Nw.heap K5 P4r) 3 (.string (nS A.name)) rfl; have m2 := cell_of (Nw.heap K5 P4r) 4 (.bool (nB A.name)) rfl; have g1 := frz_of P5.out.ar 3; have g2 := frz_of P5.out.ar 4))
 obtain ⟨W6, hW6⟩ : ∃ W6, (w5.setCell ⟨ab, 3, none⟩ (.string TXD)).setCell ⟨ab, 4, none⟩ (.bool true) = W6 := ⟨_, rfl⟩;have P6 : Hid (Ptt w rb ab hb va vc b vG G og vL A HC (ahC th fr vL { A with name := some TXD }) pp W6) := by
  rw [← hW6];have := (P5.out.st 3 (.string TXD)).st 4 (.bool true);rw [HAC.out] at this;exact this
 rw [hW6];clear hW6 P5 m1 m2 g1 g2 K5 n1 n2 P4 P4r DT z6 z8' z9';obtain ⟨_, _, y9⟩ := HCC.out W6 P6.out.hd;have y0 : W6.cell? ⟨ab, 0, none⟩ = some (.bool th) := cell_of P6.out.ar 0 _ rfl;have y1 : W6.cell? ⟨ab, 1, none⟩ = some (.int .i64 (fr : Nat)) := cell_of P6.out.ar 1 _ rfl;have y2 := frz_of P6.out.ar 0;have y3 := frz_of P6.out.ar 1;cases th with
 | true =>
  have HF := tHid (HOK.out W6 P6.out);clear HOK
  go_wp2_with fail
  go_end0
  exact HF.out
 | false =>
  obtain ⟨W7, hW7⟩ : ∃ W7, W7 = W6 := ⟨_, rfl⟩;have HF : Hid (∀ V, Ptt w rb ab hb va vc b vG G og vL A HC (ahC true (q : Int) vL { A with name := some TXD }) pp V → Q (.returned (.tuple #[])) V) := fun V hV => HOK.out V hV
  clear HOK hW7;go_upto_region 16 with fail
  go_region
  go_end0
  have P8 := (((P6.out.st 0 (.bool true)).st 1 (.int .i64 (q : Nat))).nw (Fr.refl _ _).drew);exact HF.out _ P8
theorem qpass_link (w : World) (q : Nat) (hq : q + 512 ≤ b.length) (h : Hr) (hr : Rm (PY rb ab og w) rb va vc b q vG G w) (th : Bool) (fr : Nat) (ha : w.heap[ab]? = some (.cells (ahC th fr vL A) 85)) (hl : OgR RP og vL A.loc w) (hne : rb ≠ ab) (hop : ∀ g, og = some g → g ≠ rb ∧ g ≠ ab) (hz : 0 ≤ h.size ∧ h.size ≤ 9223372036854775807) (hlong : ¬ (1048576 : Int) < h.size) (hk : q + 512 + h.size.toNat + padN h.size.toNat ≤ b.length) (ht : h.typ = 75#8) :
  Calls Tryz.prog 38 #[.pointer (some ⟨rb, 0, none⟩), .agg (hdC h (fd b q 512) q), .pointer (some ⟨ab, 0, none⟩)] w (PssA rb ab va vc b vG og th fr q (psR (b.drop q) h G A) w) := by
 refine asP fun Q hQ => ?_
 unfold psR at hQ;obtain ⟨AC, hAC⟩ : ∃ AC, AC = ahC th fr vL A := ⟨_, rfl⟩;rw [← hAC] at ha;obtain ⟨HC, hHC⟩ : ∃ HC, HC = hdC h (fd b q 512) q := ⟨_, rfl⟩;obtain ⟨hb, hhb⟩ : ∃ hb, w.heap.size = hb := ⟨_, rfl⟩;obtain ⟨W1, hW1⟩ : ∃ W1, w.alloc (.cells HC 89) = W1 := ⟨_, rfl⟩;have P1' : Ptt w rb ab hb va vc b vG G og vL A HC AC q W1 := by rw [← hW1, ← hhb]; exact pt_start hr ha hl hne hop
 obtain ⟨zn, hzn⟩ : ∃ zn : Nat, zn = h.size.toNat := ⟨_, rfl⟩;have ezn : h.size = (zn : Int) := by omega
 rw [← hzn, ezn] at hQ;have hznl : zn ≤ 9223372036854775807 := by omega
 have HCC : Hid (∀ V : World, V.heap[hb]? = some (.cells HC 89) → V.cell? ⟨hb, 6, none⟩ = some (.int .i64 (zn : Nat)) ∧ V.cell? ⟨hb, 8, none⟩ = some (.int .u8 h.typ.toNat) ∧ V.cell? ⟨hb, 526, none⟩ = some (.int .i64 (q : Nat))) := fun V hV => by
  rw [hHC] at hV;exact ⟨cell_of hV 6 _ (hdC_lo h _ q 6 _ (by rw [← ezn]; rfl)), cell_of hV 8 _ (hdC_lo h _ q 8 _ rfl), cell_of hV 526 _ (hdC_at h _ (fd_length b q 512 hq) q)⟩
 have HHI : Hid ((Tryz.prog.info? 89).map (·.size) = some HC.size) := by
  show _ = _;rw [hHC]; exact hd_info h _ (fd_length b q 512 hq) q
 have P1 := tHid P1';have HW1 := tHid hW1;have HHC := tHid hHC;have HAC := tHid hAC;have HQL := tHid hq;have HLT : Hid (ab < w.heap.size ∧ rb < w.heap.size) := ⟨(Array.getElem?_eq_some_iff.1 ha).1, hr.lt⟩;have HGU : Hid (∀ V, Calls Tryz.prog 39 #[.int .i64 (q : Nat), .int .i64 2] V fun x w' => x = gvR (q : Nat) 2 ∧ V = w') := fun V => (qgiveUp_any (q : Nat) 2 V).mono (fun e w' ⟨e1, e2⟩ => ⟨e1, e2.symm⟩)
 rw [← hHC];rw [← hzn] at hk;rw [ezn] at hlong;clear P1' hW1 hHC hAC hr ha hl hop hz hzn hq;have HTK : ∀ V, Rm (PY rb ab og w) rb va vc b (q + 512) vG G V → Calls Tryz.prog 58 #[.pointer (some ⟨rb, 0, none⟩), .int .i64 (zn : Nat)] V (TkA (PY rb ab og w) rb va vc b (q + 512) zn vG G V) := fun V hV => qtake_any hV (by have := HQL.out; omega) zn hznl
 have hsz : ¬ (1048576 : Int) < (zn : Int) := by omega
 rw [if_neg hsz, tk_place (by have := HQL.out; omega)] at hQ;rw [if_pos hk] at hQ;obtain ⟨d, hd⟩ : ∃ d, d = fd b (q + 512) zn := ⟨_, rfl⟩;rw [← hd] at hQ;simp only at hQ;rw [if_neg (by rw [ht]; decide), if_neg (by rw [ht]; decide), if_neg (by rw [ht]; decide)] at hQ;obtain ⟨TXD, hTX⟩ : ∃ TXD, TXD = str (txt d) := ⟨_, rfl⟩;rw [← hTX] at hQ;obtain ⟨pp, hpp⟩ : ∃ pp : Nat, pp = q + 512 + zn + padN zn := ⟨_, rfl⟩
 have HT : Hid (∀ V, Rm (PY rb ab og w) rb va vc b (q + 512) vG G V → Calls Tryz.prog 58 #[.pointer (some ⟨rb, 0, none⟩), .int .i64 (zn : Nat)] V fun e w' => ∃ a' c', e = .returned (.slice a' zn c') ∧ Hid (Sl (fun k => PY rb ab og w k ∨ V.heap.size ≤ k) (.slice a' zn c') d w' ∧ Rm (PY rb ab og w) rb va vc b pp vG G w' ∧ Fr (fun k => k = rb) V w')) := fun V hV => (HTK V hV).mono (fun e w' H => by
  rw [hpp, hd];rcases H with ⟨h1, _⟩ | ⟨_, a', c', h2, h3⟩
  ·omega
  ·exact ⟨a', c', h2, h3⟩)
 have HTE : Hid (∀ {X : Nat → Prop} (a' : Option Addr) (c' : Nat) V, Sl X (.slice a' zn c') d V → Calls Tryz.prog 62 #[.slice a' zn c'] V fun e w' => e = .returned (.string TXD) ∧ Nw V w') := fun a' c' V hV => by
  rw [hTX]; exact text_any V a' zn c' d hV
 have HOK : Hid (∀ V, Ptt w rb ab hb va vc b vG G og vL A HC (ahC true (if th = true then (fr : Int) else (q : Int)) vL { A with link := some TXD }) pp V → Q (.returned (.tuple #[])) V) := fun V hV => by
  rw [hQ];have e1 : q + (512 + zn + padN zn) = pp := by rw [hpp]; omega
  refine ⟨vG, vL, og, rfl, hV.fr, hV.ar, ?_, hV.lo, .inl rfl, .inl ⟨rfl, rfl⟩⟩;rw [e1]; exact hV.ry
 have b1 : ((h.typ.toNat : Int) == 103) = false := by rw [ht]; rfl
 have b2 : ((h.typ.toNat : Int) == 120) = false := by rw [ht]; rfl
 have b3 : ((h.typ.toNat : Int) == 76) = false := by rw [ht]; rfl
 have b4 : ((h.typ.toNat : Int) == 75) = true := by rw [ht]; rfl
 clear hQ HTK hk ezn hznl hlong hTX hpp hd ht;go_enter Tryz.func38, Tryz.ntmps38;go_upto_region 1 with fail;rw [HW1.out];obtain ⟨z6, z8, z9⟩ := HCC.out W1 P1.out.hd;obtain ⟨_, r1, f1, _, _⟩ := P1.out.rm.cells;obtain ⟨q5, hq5⟩ : ∃ q5 : Nat, q5 = q + 512 := ⟨_, rfl⟩;have hqi : (q : Int) + 512 = (q5 : Int) := by omega
 obtain ⟨W2, hW2⟩ : ∃ W2, W1.setCell ⟨rb, 1, none⟩ (.int .i64 (q5 : Nat)) = W2 := ⟨_, rfl⟩;have f2 : Fr (fun k => k = rb) W1 W2 := by rw [← hW2]; exact (Fr.refl _ _).setCell _ _ (.inl rfl)
 have P2 : Hid (Ptt w rb ab hb va vc b vG G og vL A HC AC (q + 512) W2) := P1.out.rd f2 (by
  rw [← hW2];exact (P1.out.rm.go (q + 512) HQL.out (q5 : Nat) (by rw [hq5])).1)
 have hqw : IntKind.i64.wrap (q5 : Int) = (q5 : Int) := by rw [IntKind.wrap_i64]; have := P1.out.rm.bl; have := HQL.out; omega
 have HQ5 := tHid hq5;have r2 : W2.cell? ⟨rb, 1, none⟩ = some (.int .i64 (q5 : Nat)) := by have := P2.out.rm.cells.2.1; rw [← hq5] at this; exact this
 clear hq5;go_upto_region 4 with fail
 (try rw [hW2])
 clear hW2 f2 r1 f1 hqi hqw z6 z8 z9 P1;obtain ⟨z6, z8, z9⟩ := HCC.out W2 P2.out.hd
 go_wp2_with fail
 go_at_call 58
 with_reducible refine (HT.out _ P2.out.rm).mono ?_
 rintro e w4 ⟨a', c', rfl, K4⟩;have P4 := tHid (P2.out.rd K4.out.2.2 K4.out.2.1);have DT := tHid K4.out.1;obtain ⟨z6, z8', z9'⟩ := HCC.out w4 P4.out.hd;have P4r := P4.out.ar;rw [HAC.out] at P4r;have n1 : w4.cell? ⟨ab, 5, none⟩ = some (.string (nS A.link)) := cell_of P4r 5 _ rfl;have n2 : w4.cell? ⟨ab, 6, none⟩ = some (.bool (nB A.link)) := cell_of P4r 6 _ rfl;clear K4 P2;go_upto_region 14 with fail;go_upto_region 15 with (first
  | (go_at_call 62; (with_reducible refine (HTE.out _ _ _ DT.out).mono ?_); rintro e w5 ⟨rfl, K5⟩; have P5 := tHid (P4.out.nw K5); have m1 := cell_of (Nw.heap K5 P4r) 5 (.string (nS A.link)) rfl; have m2 := cell_of (Nw.heap K5 P4r) 6 (.bool (nB A.link)) rfl; have g1 := frz_of P5.out.ar 5; have g2 := frz_of P5.out.ar 6))
 obtain ⟨W6, hW6⟩ : ∃ W6, (w5.setCell ⟨ab, 5, none⟩ (.string TXD)).setCell ⟨ab, 6, none⟩ (.bool true) = W6 := ⟨_, rfl⟩;have P6 : Hid (Ptt w rb ab hb va vc b vG G og vL A HC (ahC th fr vL { A with link := some TXD }) pp W6) := by
  rw [← hW6];have := (P5.out.st 5 (.string TXD)).st 6 (.bool true);rw [HAC.out] at this;exact this
 rw [hW6];clear hW6 P5 m1 m2 g1 g2 K5 n1 n2 P4 P4r DT z6 z8' z9';obtain ⟨_, _, y9⟩ := HCC.out W6 P6.out.hd;have y0 : W6.cell? ⟨ab, 0, none⟩ = some (.bool th) := cell_of P6.out.ar 0 _ rfl;have y1 : W6.cell? ⟨ab, 1, none⟩ = some (.int .i64 (fr : Nat)) := cell_of P6.out.ar 1 _ rfl;have y2 := frz_of P6.out.ar 0;have y3 := frz_of P6.out.ar 1;cases th with
 | true =>
  have HF := tHid (HOK.out W6 P6.out);clear HOK
  go_wp2_with fail
  go_end0
  exact HF.out
 | false =>
  obtain ⟨W7, hW7⟩ : ∃ W7, W7 = W6 := ⟨_, rfl⟩;have HF : Hid (∀ V, Ptt w rb ab hb va vc b vG G og vL A HC (ahC true (q : Int) vL { A with link := some TXD }) pp V → Q (.returned (.tuple #[])) V) := fun V hV => HOK.out V hV
  clear HOK hW7;go_upto_region 16 with fail
  go_region
  go_end0
  have P8 := (((P6.out.st 0 (.bool true)).st 1 (.int .i64 (q : Nat))).nw (Fr.refl _ _).drew);exact HF.out _ P8
end Go.Proofs.YtlenihpbhlfcoaaGreatDoor

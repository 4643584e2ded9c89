import Derived.Test.YtlenihpbhlfcoaaGreatDoorUbk
set_option maxHeartbeats 8000000
set_option maxRecDepth 100000
set_option linter.unusedSimpArgs false
set_option linter.unusedVariables false
namespace Go.Proofs.YtlenihpbhlfcoaaGreatDoor
open Go.RowKit Go.Deep
variable {Y : Nat → Prop} {rb : Nat} {va : Option Addr} {vc : Nat} {b : List By} {vG : Value} {G : List Pr}
def icC (x : It) (sz : Int) (fr hd da ne : Nat) (vM vP : Value) : Array Value := #[.string x.name, .int .i64 (x.kind : Nat), .int .u32 (x.mode : Nat), .int .u32 (x.uid : Nat), .int .u32 (x.gid : Nat), .int .i64 x.time, .int .i32 (x.nano : Nat), .string x.user, .string x.group, .string x.link, .int .i64 sz, .int .u8 x.typ.toNat, .int .i64 x.form, .int .u8 x.htyp.toNat, .int .i64 (fr : Nat), .int .i64 (hd : Nat), .int .i64 (da : Nat), .int .i64 (ne : Nat), .int .i64 (x.held : Nat), .bool x.sparse, vM, vP]
theorem icI {x : It} {sz : Int} {fr hd da ne : Nat} {vM vP : Value} : (Tryz.prog.info? 36).map (·.size) = some (icC x sz fr hd da ne vM vP).size := by
 have q1 : (Tryz.prog.info? 36).map (·.size) = some 22 := by kernel_rfl
 exact q1
def boR (s : List By) (h : Hr) (P : List Pr) (x : It) (z : Nat) : Out :=
 if isOl h = true then
  if roE (fd s 0 512) ≠ 0 then .bad 0 (roE (fd s 0 512)) else
  match omR s 512 (decide ((fd s 0 512).getD 482 0 ≠ 0#8)) (rgL (rdO (fd s 0 512) 4 386 []).1) with
  | .bad p e => .bad p e
  | .ok l o => bdR s h P x l ((szN (((fd s 0 512).drop 483).take 12)).1 : Int) o
 else bdR s h P x [] (z : Int) 512
def MpN (w : World) (v : Value) (l : List Rg) (V : World) : Prop := (∃ a n c, v = .slice a n c) ∧ ∃ og, OgR RG og v l V ∧ ∀ g, og = some g → w.heap.size ≤ g
def BoA (Y : Nat → Prop) (rb : Nat) (va : Option Addr) (vc : Nat) (b : List By) (vG : Value) (G : List Pr) (xb q fr : Nat) (vP : Value) (o : Out) (w : World) (e : Ending) (w' : World) : Prop :=
 match o with
 | .bad pl E => e = gvR ((q + pl : Nat) : Int) (E : Nat) ∧ Fr (fun k => k = rb ∨ k = xb) w w' ∧ Alv rb va vc b vG w'
 | .got y L => ∃ vM wh, e = .returned (.int .i64 wh) ∧ (y.kind = 2 → y.size = wh) ∧ (y.kind ≠ 2 → y.size = 0) ∧ Hid (Fr (fun k => k = rb ∨ k = xb) w w' ∧ Rm Y rb va vc b (q + L) vG G w' ∧ w'.heap[xb]? = some (.cells (icC y 0 fr q (q + y.data) 0 vM vP) 36) ∧ MpN w vM y.map w')
 | _ => False
structure Bod (Y : Nat → Prop) (rb : Nat) (va : Option Addr) (vc : Nat) (b : List By) (vG : Value) (G : List Pr) (w1 : World) (xb hb sb : Nat) (CH : Array Value) (vP : Value) (q p : Nat) (IC : Array Value) (V : World) : Prop where
 fr : Fr (fun k => k = rb ∨ k = xb) w1 V
 hd : V.heap[hb]? = some (.cells CH 89)
 sy : V.heap[sb]? = some (.cells #[vP, .int .i64 (q : Nat)] 121)
 rm : Rm Y rb va vc b p vG G V
 it : V.heap[xb]? = some (.cells IC 36)
 ne : rb ≠ xb ∧ hb ≠ rb ∧ hb ≠ xb ∧ sb ≠ rb ∧ sb ≠ xb
 yx : Y xb
section
variable {w1 : World} {xb hb sb : Nat} {CH : Array Value} {vP : Value} {q p : Nat} {IC : Array Value} {V U : World}
theorem Bod.nw (h : Bod Y rb va vc b vG G w1 xb hb sb CH vP q p IC V) (k : Nw V U) : Bod Y rb va vc b vG G w1 xb hb sb CH vP q p IC U :=
 ⟨h.fr.trans k.any, Nw.heap k h.hd, Nw.heap k h.sy, h.rm.nw k, Nw.heap k h.it, h.ne, h.yx⟩
theorem Bod.rd (h : Bod Y rb va vc b vG G w1 xb hb sb CH vP q p IC V) {p' : Nat} (k : Fr (fun k => k = rb) V U) (hr : Rm Y rb va vc b p' vG G U) : Bod Y rb va vc b vG G w1 xb hb sb CH vP q p' IC U :=
 ⟨h.fr.trans (k.mono (fun i hi => .inl (.inl hi))), cell_kept k h.hd h.ne.2.1, cell_kept k h.sy h.ne.2.2.2.1, hr, cell_kept k h.it (fun e => h.ne.1 e.symm), h.ne, h.yx⟩
theorem Bod.st (h : Bod Y rb va vc b vG G w1 xb hb sb CH vP q p IC V) (j : Nat) (v : Value) : Bod Y rb va vc b vG G w1 xb hb sb CH vP q p (IC.setIfInBounds j v) (V.setCell ⟨xb, j, none⟩ v) := by
 have k : Fr (fun k => k = xb) V (V.setCell ⟨xb, j, none⟩ v) := (Fr.refl _ _).setCell _ _ (.inl rfl);exact ⟨h.fr.trans (k.mono (fun i hi => .inl (.inr hi))), cell_kept k h.hd h.ne.2.2.1, cell_kept k h.sy h.ne.2.2.2.2, h.rm.keep k h.ne.1 (fun i hi => by subst hi; exact h.yx), row_setN h.it j v, h.ne, h.yx⟩
theorem Bod.c (h : Bod Y rb va vc b vG G w1 xb hb sb CH vP q p IC V) (j : Nat) (v : Value) (hv : IC[j]? = some v) : V.cell? ⟨xb, j, none⟩ = some v ∧ V.frozen? ⟨xb, j, none⟩ = false := ⟨cell_of h.it j v hv, frz_of h.it j⟩
theorem Bod.s (h : Bod Y rb va vc b vG G w1 xb hb sb CH vP q p IC V) : V.cell? ⟨sb, 0, none⟩ = some vP ∧ V.cell? ⟨sb, 1, none⟩ = some (.int .i64 (q : Nat)) ∧ V.cell? ⟨rb, 1, none⟩ = some (.int .i64 (p : Nat)) := ⟨cell_of h.sy 0 _ rfl, cell_of h.sy 1 _ rfl, h.rm.cells.2.1⟩
end
theorem bs_start {w : World} {xb : Nat} {CH : Array Value} {vP : Value} {q p : Nat} {IC : Array Value} (hr : Rm Y rb va vc b p vG G w) (hi : w.heap[xb]? = some (.cells IC 36)) (hne : rb ≠ xb) (hy : Y xb) :
  Bod Y rb va vc b vG G w xb w.heap.size (w.heap.size + 1) CH vP q p IC ((w.alloc (.cells CH 89)).alloc (.cells #[vP, .int .i64 (q : Nat)] 121)) := by
 have k : Nw w ((w.alloc (.cells CH 89)).alloc (.cells #[vP, .int .i64 (q : Nat)] 121)) := ((Fr.refl _ _).alloc _).alloc _;have h1 := hr.lt;have h2 : xb < w.heap.size := (Array.getElem?_eq_some_iff.1 hi).1;refine ⟨k.any, ?_, ?_, hr.nw k, Nw.heap k hi, ⟨hne, by omega, by omega, by omega, by omega⟩, hy⟩
 ·exact Nw.heap ((Fr.refl _ _).alloc _) (newHeap _ _)
 ·have e : (w.alloc (.cells CH 89)).heap.size = w.heap.size + 1 := by simp
  rw [← e]; exact newHeap _ _
theorem tk_place {b : List By} {q o z : Nat} (hq : q ≤ b.length) : tkR (b.drop q) o z = if q + o + z + padN z ≤ b.length then some (fd b (q + o) z, o + z + padN z) else none := by
 unfold tkR;rw [List.length_drop, fd_drop];by_cases h : q + o + z + padN z ≤ b.length
 ·rw [if_pos h, if_pos (by omega)]
 ·rw [if_neg h, if_neg (by omega)]
theorem qbody_plain {X : Nat → Prop} (w : World) (q : Nat) (hq : q + 512 ≤ b.length) (h : Hr) (hr : Rm Y rb va vc b (q + 512) vG G w) (vP : Value) (P : List Pr) (hP : SlR RP X vP P w) (hlen : P.length ≤ 1000000000) (xb fr z : Nat) (hX : ∀ k, k = rb ∨ k = xb → X k) (x : It) (hsp : x.sparse = false) (hhe : x.held ≤ 9223372036854775807) (hmp : x.map = [])
  (hi : w.heap[xb]? = some (.cells (icC x 0 fr q 0 0 (.slice none 0 0) vP) 36)) (hne : rb ≠ xb) (hy : Y xb) (ho : isOl h = false) (hm : hasM x.kind P = false) :
  Calls Tryz.prog 57 #[.pointer (some ⟨rb, 0, none⟩), .pointer (some ⟨xb, 0, none⟩), .agg (hdC h (fd b q 512) q), .agg #[vP, .int .i64 (q : Nat)], .int .i64 (z : Nat)] w (BoA Y rb va vc b vG G xb q fr vP (boR (b.drop q) h P x z) w) := by
 have hOut : boR (b.drop q) h P x z = if q + 512 + x.held + padN x.held ≤ b.length then .got { x with data := 512, next := 512 + x.held + padN x.held, size := if x.kind = 2 then (z : Int) else 0 } (512 + x.held + padN x.held) else .bad (b.length - q) 4 := by
  unfold boR;rw [if_neg (by rw [ho]; simp)];unfold bdR;rw [tk_place (by omega)];by_cases hk : q + 512 + x.held + padN x.held ≤ b.length
  ·rw [if_pos hk, if_pos hk];simp only;rw [if_neg (by rw [ho]; simp), if_neg (by rw [hm]; simp)]
  ·rw [if_neg hk, if_neg hk];simp only [List.length_drop]
 refine asP fun Q hQ => ?_
 rw [hOut] at hQ;obtain ⟨CHh, hCHh⟩ : ∃ CHh : List Value, CHh = h.C.toList := ⟨_, rfl⟩;have hCA : h.C = CHh.toArray := by rw [hCHh]
 obtain ⟨HC, hHC⟩ : ∃ HC, HC = hdC h (fd b q 512) q := ⟨_, rfl⟩;have HRG : Hid (∀ V : World, V.heap[w.heap.size]? = some (.cells HC 89) → V.rangeAt w.heap.size 0 CHh) := fun V hV j v hv => by
  rw [Nat.zero_add];refine cell_of hV j v ?_;rw [hHC];exact hdC_lo h _ q j v (by rw [hCA]; simpa using hv)
 have HCHI : Hid ((Tryz.prog.info? 62).map (·.size) = some CHh.length) := by
  show _ = _;rw [hCHh, Array.length_toList]; kernel_rfl
 obtain ⟨a, c, rfl⟩ := ps_form hP;have HB1' : Bod Y rb va vc b vG G w xb w.heap.size (w.heap.size + 1) HC (.slice a P.length c) q (q + 512) _ _ := bs_start hr hi hne hy;obtain ⟨W1, hW1⟩ : ∃ W1, (w.alloc (.cells HC 89)).alloc (.cells #[.slice a P.length c, .int .i64 (q : Nat)] 121) = W1 := ⟨_, rfl⟩;rw [hW1] at HB1';have HB1 := tHid HB1';have HW1 := tHid hW1;have HOLD : Hid (∀ V, Calls Tryz.prog 91 #[.agg CHh.toArray] V fun e w' => e = .returned (.bool false) ∧ Nw V w') := fun V => by
  rw [← hCA, ← ho]; exact qisOld_any h V
 have HPk : ∀ V, Fr (fun k => k = rb ∨ k = xb) w V → SlR RP X (.slice a P.length c) P V := fun V hV => hP.kept hV hX
 have HHM : Hid (∀ V, Fr (fun k => k = rb ∨ k = xb) w V → Calls Tryz.prog 93 #[.agg #[.slice a P.length c, .int .i64 (q : Nat)], .int .i64 (x.kind : Nat)] V fun e w' => e = .returned (.bool false) ∧ Nw V w') := fun V hV => by
  rw [← hm]; exact qshasMap_any _ P q x.kind V (HPk V hV) hlen
 have HTK : ∀ V, Rm Y rb va vc b (q + 512) vG G V → Calls Tryz.prog 58 #[.pointer (some ⟨rb, 0, none⟩), .int .i64 (x.held : Nat)] V (TkA Y rb va vc b (q + 512) x.held vG G V) := fun V hV => qtake_any hV (by omega) x.held hhe
 have s1 : (w.heap.size + 1) = w.heap.size + 1 := rfl;obtain ⟨hb, hhb⟩ : ∃ hb, w.heap.size = hb := ⟨_, rfl⟩;obtain ⟨sb, hsb⟩ : ∃ sb, w.heap.size + 1 = sb := ⟨_, rfl⟩;rw [hhb] at HRG;have HNB : Hid (w.heap.size = hb ∧ hb + 1 = sb ∧ w.heap.size + 1 = sb) := ⟨hhb, by omega, hsb⟩;rw [hsb, hhb] at HB1;rw [← hHC];clear s1 HB1' hW1 hi hr hHC hCHh hP HPk;rw [hCA] at *;by_cases hk : q + 512 + x.held + padN x.held ≤ b.length
 ·rw [if_pos hk] at hQ;have HOK : Hid (∀ V, Bod Y rb va vc b vG G w xb hb sb HC (.slice a P.length c) q (q + 512 + x.held + padN x.held) (icC x 0 fr q (q + 512) 0 (.slice none 0 0) (.slice a P.length c)) V → Q (.returned (.int .i64 (z : Nat))) V) := fun V hV => by
   rw [hQ];have e1 : q + (512 + x.held + padN x.held) = q + 512 + x.held + padN x.held := by omega
   refine ⟨.slice none 0 0, z, rfl, fun h2 => by show (if x.kind = 2 then (z : Int) else 0) = _; rw [if_pos h2], fun h2 => by show (if x.kind = 2 then (z : Int) else 0) = _; rw [if_neg h2], hV.fr, ?_, hV.it, ⟨none, 0, 0, rfl⟩, none, ⟨rfl, hmp⟩, fun g hg => by cases hg⟩;rw [e1]; exact hV.rm
  have HT : Hid (∀ V, Rm Y rb va vc b (q + 512) vG G V → Calls Tryz.prog 58 #[.pointer (some ⟨rb, 0, none⟩), .int .i64 (x.held : Nat)] V fun e w' => ∃ a' c', e = .returned (.slice a' x.held c') ∧ Hid (Rm Y rb va vc b (q + 512 + x.held + padN x.held) vG G w' ∧ Fr (fun k => k = rb) V w')) := fun V hV => (HTK V hV).mono (fun e w' H => by
   rcases H with ⟨h1, _⟩ | ⟨_, a', c', h2, h3⟩
   ·omega
   ·exact ⟨a', c', h2, h3.out.2⟩)
  clear hQ HTK hOut hk hsp hhe hmp hX;go_enter Tryz.func57, Tryz.ntmps57;go_upto_region 1 with fail;rw [HW1.out, HNB.out.2.1];clear hhb hsb;go_upto_region 5 with (first
   | (refine wpList_load_mid rfl 62 _ rfl hb 0 (by first | rfl | simp [Act.eval]) CHh _ (HRG.out _ HB1.out.hd) Tryz.underlying62 rfl HCHI.out ?_)
   | (go_at_call 91; (with_reducible refine (HOLD.out _).mono ?_); rintro e w2 ⟨rfl, K2⟩))
  have B2 := tHid (HB1.out.nw K2);clear K2 HOLD;obtain ⟨c1, f1⟩ := B2.out.c 16 (.int .i64 (0 : Nat)) rfl;have c2 : w2.cell? ⟨rb, 1, none⟩ = some (.int .i64 ((q + 512 : Nat) : Int)) := B2.out.s.2.2;obtain ⟨D, hD⟩ : ∃ D : Nat, D = q + 512 := ⟨_, rfl⟩;rw [← hD] at c2;obtain ⟨W3, hW3⟩ : ∃ W3, w2.setCell ⟨xb, 16, none⟩ (.int .i64 (D : Nat)) = W3 := ⟨_, rfl⟩;have B3 : Hid (Bod Y rb va vc b vG G w xb hb sb HC (.slice a P.length c) q (q + 512) (icC x 0 fr q D 0 (.slice none 0 0) (.slice a P.length c)) W3) := by
   rw [← hW3];exact B2.out.st 16 (.int .i64 (D : Nat))
  have HD := tHid hD;clear hD;go_upto_region 6 with fail
  (try rw [hW3])
  clear hW3 B2 c1 f1 c2;obtain ⟨c3, f3⟩ := B3.out.c 18 (.int .i64 (x.held : Nat)) rfl
  go_wp2_with fail
  go_at_call 58
  with_reducible refine (HT.out _ B3.out.rm).mono ?_
  rintro e w4 ⟨a', c', rfl, K4⟩;have B4 := tHid (B3.out.rd K4.out.2 K4.out.1);clear K4 c3 f3 B3 HT;rw [HD.out] at B4
  have KEY : Hid (∀ U, Bod Y rb va vc b vG G w xb hb sb HC (.slice a P.length c) q (q + 512 + x.held + padN x.held) (icC x 0 fr q (q + 512) 0 (.slice none 0 0) (.slice a P.length c)) U → U.cell? ⟨sb, 0, none⟩ = some (.slice a P.length c) ∧ U.cell? ⟨sb, 1, none⟩ = some (.int .i64 (q : Nat)) ∧ U.cell? ⟨xb, 1, none⟩ = some (.int .i64 (x.kind : Nat)) ∧ Hid (Bod Y rb va vc b vG G w xb hb sb HC (.slice a P.length c) q (q + 512 + x.held + padN x.held) (icC x 0 fr q (q + 512) 0 (.slice none 0 0) (.slice a P.length c)) U)) := fun U hU => ⟨hU.s.1, hU.s.2.1, (hU.c 1 (.int .i64 (x.kind : Nat)) rfl).1, hU⟩
  have B4d := tHid (B4.out.nw (Fr.refl _ _).drew);go_upto_region 7 with fail
  go_region_held3 (fun U => U.cell? ⟨sb, 0, none⟩ = some (.slice a P.length c) ∧ U.cell? ⟨sb, 1, none⟩ = some (.int .i64 (q : Nat)) ∧ U.cell? ⟨xb, 1, none⟩ = some (.int .i64 (x.kind : Nat)) ∧ Hid (Bod Y rb va vc b vG G w xb hb sb HC (.slice a P.length c) q (q + 512 + x.held + padN x.held) (icC x 0 fr q (q + 512) 0 (.slice none 0 0) (.slice a P.length c)) U))
   (first | exact KEY.out _ B5.out | exact KEY.out _ B4d.out | exact KEY.out _ B4.out)
   (first
    | (go_at_call 93; (with_reducible refine (HHM.out _ B4d.out.fr).mono ?_); rintro e w5 ⟨rfl, K5⟩; have B5 := tHid (B4d.out.nw K5))
    | (go_at_call 93; (with_reducible refine (HHM.out _ B4.out.fr).mono ?_); rintro e w5 ⟨rfl, K5⟩; have B5 := tHid (B4.out.nw K5)))
  go_wp2_with fail
  exact HOK.out _ B5.out
 ·rw [if_neg hk] at hQ;have HBAD : Hid (∀ V, Fr (fun k => k = rb ∨ k = xb) w V → Alv rb va vc b vG V → Q (gvR (b.length : Nat) 4) V) := fun V hV hA => by
   rw [hQ];refine ⟨?_, hV, hA⟩;have : q + (b.length - q) = b.length := by omega
   rw [this]; rfl
  have HT : Hid (∀ V, Rm Y rb va vc b (q + 512) vG G V → Calls Tryz.prog 58 #[.pointer (some ⟨rb, 0, none⟩), .int .i64 (x.held : Nat)] V fun e w' => e = gvR (b.length : Nat) 4 ∧ Nw V w') := fun V hV => (HTK V hV).mono (fun e w' H => by
   rcases H with ⟨_, h2, h3⟩ | ⟨h1, _⟩
   ·exact ⟨h2, h3⟩
   ·omega)
  clear hQ HTK hOut hk hsp hhe hmp hX HHM;go_enter Tryz.func57, Tryz.ntmps57;go_upto_region 1 with fail;rw [HW1.out, HNB.out.2.1];clear hhb hsb;go_upto_region 5 with (first
   | (refine wpList_load_mid rfl 62 _ rfl hb 0 (by first | rfl | simp [Act.eval]) CHh _ (HRG.out _ HB1.out.hd) Tryz.underlying62 rfl HCHI.out ?_)
   | (go_at_call 91; (with_reducible refine (HOLD.out _).mono ?_); rintro e w2 ⟨rfl, K2⟩))
  have B2 := tHid (HB1.out.nw K2);clear K2 HOLD;obtain ⟨c1, f1⟩ := B2.out.c 16 (.int .i64 (0 : Nat)) rfl;have c2 : w2.cell? ⟨rb, 1, none⟩ = some (.int .i64 ((q + 512 : Nat) : Int)) := B2.out.s.2.2;obtain ⟨D, hD⟩ : ∃ D : Nat, D = q + 512 := ⟨_, rfl⟩;rw [← hD] at c2;obtain ⟨W3, hW3⟩ : ∃ W3, w2.setCell ⟨xb, 16, none⟩ (.int .i64 (D : Nat)) = W3 := ⟨_, rfl⟩;have B3 : Hid (Bod Y rb va vc b vG G w xb hb sb HC (.slice a P.length c) q (q + 512) (icC x 0 fr q D 0 (.slice none 0 0) (.slice a P.length c)) W3) := by
   rw [← hW3];exact B2.out.st 16 (.int .i64 (D : Nat))
  have HD := tHid hD;clear hD;go_upto_region 6 with fail
  (try rw [hW3])
  clear hW3 B2 c1 f1 c2;obtain ⟨c3, f3⟩ := B3.out.c 18 (.int .i64 (x.held : Nat)) rfl
  go_wp2_with fail
  go_at_call 58
  with_reducible refine (HT.out _ B3.out.rm).mono ?_
  rintro e w4 ⟨rfl, K4⟩
  go_wp2_with fail
  exact ⟨rfl, HBAD.out _ (B3.out.nw K4).fr (B3.out.nw K4).rm.alv⟩
end Go.Proofs.YtlenihpbhlfcoaaGreatDoor

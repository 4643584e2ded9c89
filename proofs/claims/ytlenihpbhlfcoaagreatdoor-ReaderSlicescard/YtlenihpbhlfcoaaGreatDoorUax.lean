import Derived.Test.YtlenihpbhlfcoaaGreatDoorUaw
set_option maxHeartbeats 8000000
set_option maxRecDepth 100000
set_option linter.unusedSimpArgs false
set_option linter.unusedVariables false
namespace Go.Proofs.YtlenihpbhlfcoaaGreatDoor
open Go.RowKit
theorem hcSize (h : Hr) : (Tryz.prog.info? 62).map (·.size) = some h.C.size := by
 exact (by kernel_rfl : (Tryz.prog.info? 62).map (·.size) = some 14)
theorem fm_cases (z : Int) : (∃ f : Nat, isF f ∧ z = f) ∨ (z ≠ 1 ∧ z ≠ 2 ∧ z ≠ 3) := by
 by_cases h1 : z = 1
 ·exact .inl ⟨1, .inl rfl, h1⟩
 ·by_cases h2 : z = 2
  ·exact .inl ⟨2, .inr (.inl rfl), h2⟩
  ·by_cases h3 : z = 3
   ·exact .inl ⟨3, .inr (.inr rfl), h3⟩
   ·exact .inr ⟨h1, h2, h3⟩
theorem cell_alloc {w : World} {g j : Nat} {v : Value} (o : Obj) (h : w.cell? ⟨g, j, none⟩ = some v) : (w.alloc o).cell? ⟨g, j, none⟩ = some v := by
 have hg : g < w.heap.size := by
  apply Classical.byContradiction
  intro hn;have : w.heap[g]? = none := Array.getElem?_eq_none (by omega);simp [World.cell?, this] at h
 have e : (w.alloc o).heap[g]? = w.heap[g]? := by
  show (w.heap.push _)[g]? = _;rw [Array.getElem?_push, if_neg (by omega)]
 unfold World.cell? at *;rw [e]; exact h
theorem fP_one (f : Nat) : (fP f).oneCell' = true := by
 unfold fP;split <;> rfl
theorem frz_of {w : World} {g : Nat} {a : Array Value} {T : Nat} (h : w.heap[g]? = some (.cells a T)) (j : Nat) : w.frozen? ⟨g, j, none⟩ = false := by
 simp [World.frozen?, h]
def zF : Array Value := #[.int .i64 0, .int .i64 0, .nilFunc]
theorem cell_set3 {w : World} {g k j : Nat} {v a b c : Value} (hne : g ≠ k) (h : w.cell? ⟨k, j, none⟩ = some v) : (((w.setCell ⟨g, 0, none⟩ a).setCell ⟨g, 1, none⟩ b).setCell ⟨g, 2, none⟩ c).cell? ⟨k, j, none⟩ = some v := by
 have hk : k < w.heap.size := by
  apply Classical.byContradiction
  intro hn;have : w.heap[k]? = none := Array.getElem?_eq_none (by omega);simp [World.cell?, this] at h
 have f1 : Fr (fun i => i = g) w (w.setCell ⟨g, 0, none⟩ a) := (Fr.refl _ _).setCell ⟨g, 0, none⟩ a (.inl rfl);have f2 : Fr (fun i => i = g) w ((w.setCell ⟨g, 0, none⟩ a).setCell ⟨g, 1, none⟩ b) := f1.setCell ⟨g, 1, none⟩ b (.inl rfl);have f : Fr (fun i => i = g) w (((w.setCell ⟨g, 0, none⟩ a).setCell ⟨g, 1, none⟩ b).setCell ⟨g, 2, none⟩ c) := f2.setCell ⟨g, 2, none⟩ c (.inl rfl);have e := f.block k hk (fun q => hne q.symm);unfold World.cell? at *;rw [e]; exact h
structure LkO (h : Hr) (hb qb fb : Nat) (k : Bool) (C : Array Value) (w U : World) : Prop where
 nw : Nw w U
 blk : U.heap[fb]? = some (.cells C 72)
 one : k = true → isF h.fm ∧ h.form = h.fm ∧ C = #[.int .i64 h.fm, .int .i64 (fE h.fm : Nat), fP h.fm]
 no : k = false → h.fm = 0
theorem LkO.mk1 {h : Hr} {hb qb : Nat} {k : Bool} {C : Array Value} {w V : World} (hN : Nw w V) (h1 : k = true → isF h.fm ∧ h.form = h.fm ∧ C = #[.int .i64 h.fm, .int .i64 (fE h.fm : Nat), fP h.fm]) (h0 : k = false → h.fm = 0) : LkO h hb qb V.heap.size k C w (V.alloc (.cells C 72)) := ⟨hN.alloc _, newHeap _ _, h1, h0⟩
theorem set3_blk {w : World} {g : Nat} {a b c x y z : Value} {T : Nat} (h : w.heap[g]? = some (.cells #[x, y, z] T)) : (((w.setCell ⟨g, 0, none⟩ a).setCell ⟨g, 1, none⟩ b).setCell ⟨g, 2, none⟩ c).heap[g]? = some (.cells #[a, b, c] T) := by
 simp only [World.setCell, Array.getElem?_modify, h];simp
theorem LkO.mk2 {h : Hr} {hb qb : Nat} {k : Bool} {a b c x y z : Value} {w V : World} (hN : Nw w V) (hq : V.heap[w.heap.size]? = some (.cells #[x, y, z] 72)) (h1 : k = true → isF h.fm ∧ h.form = h.fm ∧ #[a, b, c] = #[.int .i64 h.fm, .int .i64 (fE h.fm : Nat), fP h.fm]) (h0 : k = false → h.fm = 0) : LkO h hb qb w.heap.size k #[a, b, c] w (((V.setCell ⟨w.heap.size, 0, none⟩ a).setCell ⟨w.heap.size, 1, none⟩ b).setCell ⟨w.heap.size, 2, none⟩ c) :=
 ⟨((hN.setCell ⟨w.heap.size, 0, none⟩ a (.inr (Nat.le_refl _))).setCell ⟨w.heap.size, 1, none⟩ b (.inr (Nat.le_refl _))).setCell ⟨w.heap.size, 2, none⟩ c (.inr (Nat.le_refl _)), set3_blk hq, h1, h0⟩
section
theorem encode_any (h : Hr) (ok : h.Ok) (w : World) :
  Calls Tryz.prog 21 #[.agg h.C] w fun e w' => e = .returned (.tuple #[.agg (rc (encR h)), .int .i64 (encE h : Nat)]) ∧ Nw w w' := by
 refine asP fun P hP => ?_
 have HF : Hid (∀ W b E, Nw w W → encR h = b → encE h = E → P (.returned (.tuple #[.agg (rc b), .int .i64 (E : Nat)])) W) := fun W b E hW hb hE => by rw [hP, ← hb, ← hE]; exact ⟨rfl, hW⟩
 clear hP;obtain ⟨hb, hhb⟩ : ∃ hb, w.heap.size = hb := ⟨_, rfl⟩;obtain ⟨qb, hqb⟩ : ∃ qb, hb + 1 = qb := ⟨_, rfl⟩;obtain ⟨W1, hW1⟩ : ∃ W1, (w.alloc (.cells h.C 62)).alloc (.cells Tryz.zeroCells58 58) = W1 := ⟨_, rfl⟩;have s1 : (w.alloc (.cells h.C 62)).heap.size = w.heap.size + 1 := by simp
 have hN1 : Nw w W1 := by rw [← hW1]; exact ((Fr.refl _ _).alloc _).alloc _
 have hH1 : HcH hb h W1 := by rw [← hW1, ← hhb]; exact Nw.heap ((Fr.refl _ _).alloc _) (newHeap _ _)
 have hQ1 : RcH qb zrec W1 := by
  rw [← hW1, ← hqb, ← hhb, ← s1];unfold RcH;rw [← zrec_rc];exact newHeap _ _
 have z0 : W1.drew.cell? ⟨hb, 0, none⟩ = some (.int .i64 h.form) := cell_of hH1 0 _ rfl;obtain ⟨ky, kx, hky, hkx⟩ : ∃ (ky : List UInt8) (kx : ByteArray), (if h.form = 1 then str (mg 1) else if h.form = 2 then str (mg 2) else if h.form = 3 then str (mg 3) else eS) = kx ∧ kx = ⟨⟨ky⟩⟩ := ⟨_, _, rfl, rfl⟩;obtain ⟨kb, hkb⟩ : ∃ kb, (mF ky).isSome = kb := ⟨_, rfl⟩;have hlk : ky.length ≤ 140737488351232 := by
  have : ky = kx.data.toList := by rw [hkx]
  rw [this, ← hky];split
  ·decide
  ·split
   ·decide
   ·split <;> decide
 have hmv : ∃ C, (mF ky).elim fZ fV = .agg C ∧ (kb = true → isF h.fm ∧ h.form = h.fm ∧ C = #[.int .i64 h.fm, .int .i64 (fE h.fm : Nat), fP h.fm]) ∧ (kb = false → h.fm = 0) ∧ ∃ (a b : Int) (G : Value), C = #[.int .i64 a, .int .i64 b, G] ∧ G.oneCell' = true := by
  have hk2 : ky = kx.data.toList := by rw [hkx]
  rcases fm_cases h.form with ⟨f, hf, e⟩ | ⟨e1, e2, e3⟩
  ·have hfm : h.fm = f := by
    unfold Hr.fm;rcases hf with rfl | rfl | rfl <;> rw [e] <;> rfl
   have hkk : mF ky = some f := by
    rw [hk2, ← hky, e];rcases hf with rfl | rfl | rfl <;> decide
   rw [hkk] at hkb;refine ⟨#[.int .i64 f, .int .i64 (fE f : Nat), fP f], by rw [hkk]; rfl, fun _ => by rw [hfm]; exact ⟨hf, e, rfl⟩, (fun q => by rw [q] at hkb; cases hkb), _, _, _, rfl, fP_one f⟩
  ·have hkk : mF ky = none := by
    rw [hk2, ← hky, if_neg e1, if_neg e2, if_neg e3];decide
   rw [hkk] at hkb;refine ⟨zF, by rw [hkk]; rfl, (fun q => by rw [q] at hkb; cases hkb), fun _ => ?_, _, _, _, rfl, rfl⟩;unfold Hr.fm;rw [if_neg e1, if_neg e2, if_neg e3]
 obtain ⟨C, hC, hC1, hC0, c0, c1, G, rfl, hone⟩ := hmv;have hG : ∀ a w m, (store a G m).run Tryz.prog w = stored Tryz.prog w a G m := fun a w m => run_store Tryz.prog w a G m hone
 have HFM : Hid (∀ V mb, Nw W1 V → V.heap.size = mb → Calls Tryz.prog 27 #[] V fun e w1 => e = .returned (.map (some mb)) ∧ w1.cell? ⟨hb, 0, none⟩ = some (.int .i64 h.form) ∧ (Instr.lookup 74 (.map (some mb)) (.string kx) true).run Tryz.prog w1 = .ok (.tuple #[.agg #[.int .i64 c0, .int .i64 c1, G], .bool kb]) w1 ∧ (∀ o, (Instr.lookup 74 (.map (some mb)) (.string kx) true).run Tryz.prog (w1.alloc o) = .ok (.tuple #[.agg #[.int .i64 c0, .int .i64 c1, G], .bool kb]) (w1.alloc o)) ∧ Hid (Nw V w1)) := fun V mb hV hmb => by
  subst hmb;refine (forms_any V).mono ?_;rintro e w1 ⟨rfl, k1, k2⟩;have hl := fun U (hU : Nw w1 U) => (k2.nw hU).look mfOk ky hlk
  have hl' : ∀ U, Nw w1 U → (Instr.lookup 74 (.map (some V.heap.size)) (.string kx) true).run Tryz.prog U = .ok (.tuple #[.agg #[.int .i64 c0, .int .i64 c1, G], .bool kb]) U := fun U hU => by
   have := hl U hU;rw [hkx, ← hC, ← hkb];exact this
  exact ⟨rfl, cell_of (Nw.heap (hV.trans k1) hH1) 0 _ rfl, hl' _ (Fr.refl _ _), fun o => hl' _ ((Fr.refl _ _).alloc o), k1⟩
 have HFM1 := tHid (HFM.out W1.drew W1.heap.size ((Fr.refl _ _).drew) rfl)
 have HFM2 : Hid (Calls Tryz.prog 27 #[] (W1.alloc (.cells #[.int .i64 0, .int .i64 0, .nilFunc] 72)).drew fun e w1 => (e = .returned (.map (some (W1.heap.size + 1))) ∧ w1.cell? ⟨hb, 0, none⟩ = some (.int .i64 h.form) ∧ (Instr.lookup 74 (.map (some (W1.heap.size + 1))) (.string kx) true).run Tryz.prog w1 = .ok (.tuple #[.agg #[.int .i64 c0, .int .i64 c1, G], .bool kb]) w1) ∧ (w1.cell? ⟨W1.heap.size, 0, none⟩ = some (.int .i64 0) ∧ w1.cell? ⟨W1.heap.size, 1, none⟩ = some (.int .i64 0) ∧ w1.cell? ⟨W1.heap.size, 2, none⟩ = some .nilFunc ∧ w1.frozen? ⟨W1.heap.size, 0, none⟩ = false ∧ w1.frozen? ⟨W1.heap.size, 1, none⟩ = false ∧ w1.frozen? ⟨W1.heap.size, 2, none⟩ = false) ∧ Hid (Nw W1 w1 ∧ w1.heap[W1.heap.size]? = some (.cells #[.int .i64 0, .int .i64 0, .nilFunc] 72))) := by
  have kA : Nw W1 (W1.alloc (.cells #[.int .i64 0, .int .i64 0, .nilFunc] 72)).drew := ((Fr.refl _ _).alloc _).drew;refine (HFM.out _ (W1.heap.size + 1) kA (by simp)).mono ?_;rintro e w1 ⟨rfl, k1, k2, k3, K1⟩;have qh : w1.heap[W1.heap.size]? = some (.cells #[.int .i64 0, .int .i64 0, .nilFunc] 72) := Nw.heap K1.out (newHeap W1 _);exact ⟨⟨rfl, k1, k2⟩, ⟨cell_of qh 0 _ rfl, cell_of qh 1 _ rfl, cell_of qh 2 _ rfl, frz_of qh 0, frz_of qh 1, frz_of qh 2⟩, kA.trans K1.out, qh⟩
 have HMO : Hid (∀ V, V.cell? ⟨hb, 0, none⟩ = some (.int .i64 h.form) → Calls Tryz.prog 28 #[.int .i64 h.form] V fun e w1 => e = .returned (.string kx) ∧ w1 = V) := fun V _ => by
  have t := magicOf_any h.form V;rw [hky] at t;exact t.mono (fun e w1 ⟨q1, q2⟩ => ⟨q1, q2.symm⟩)
 have HW1 := tHid hW1;have HN1 := tHid hN1;have HH1 := tHid hH1;have HQ1 := tHid hQ1;have HC1 := tHid hC1;have HC0 := tHid hC0;have HNE : Hid (W1.heap.size ≠ hb) := by have := (Array.getElem?_eq_some_iff.1 hH1).1; show W1.heap.size ≠ hb; omega
 clear hW1 hN1 hH1 hQ1 s1 hC1 hC0 hC hky hkx hkb hlk
 skip
 go_enter Tryz.func21, Tryz.ntmps21
 go_upto_region 1 with fail
 rw [HW1.out];go_cut [4, 5] (fun v4 v5 wy => ∃ fb wx, v4 = .pointer (some ⟨fb, 0, none⟩) ∧ v5 = .bool kb ∧ wy = wx ∧ Hid (LkO h hb qb fb kb #[.int .i64 c0, .int .i64 c1, G] W1 wx))
 case first =>
  go_region_held3 (fun w' => w'.cell? ⟨hb, 0, none⟩ = some (.int .i64 h.form))
   (first | assumption | exact cell_alloc _ (by assumption) | exact cell_set3 HNE.out (by assumption))
   (first
    | (go_at_call 27; with_reducible refine HFM1.out.mono ?_; rintro e w1 ⟨rfl, k1, k2, k3, K1⟩)
    | (go_at_call 27; with_reducible refine HFM2.out.mono ?_; rintro e w1 ⟨⟨rfl, k1, k2⟩, ⟨q0, q1, q2, g0, g1, g2⟩, K2⟩)
    | (go_at_call 28; with_reducible refine (HMO.out _ (by first | assumption | exact cell_alloc _ (by assumption))).mono ?_; rintro e w2 ⟨rfl, rfl⟩))
  all_goals
   go_wp2_with fail
   go_meet
   first
    | exact ⟨_, _, rfl, rfl, rfl, LkO.mk1 (((Fr.refl _ _).drew).trans K1.out) HC1.out HC0.out⟩
    | exact ⟨_, _, rfl, rfl, rfl, LkO.mk2 K2.out.1 K2.out.2 HC1.out HC0.out⟩
 case rest =>
 obtain ⟨fb, wx, rfl, rfl, hwy, HL⟩ := hcut;have hwy' := hwy.symm;subst hwy';clear hwy HFM1 HFM2 HFM HMO z0;have hnw := HL.out.nw;have HNx : Hid (Nw w wx) := HN1.out.trans hnw;have hHx : HcH hb h wx := Nw.heap hnw HH1.out;have HHx := tHid hHx;have HQx : Hid (RcH qb zrec wx) := HQ1.out.kept hnw (fun h => h)
 have HEND : Hid (∀ (W : World) (b : List By) (E : Nat), Nw w W → RcH qb zrec W → b.length = 512 → encR h = b → encE h = E → ∃ W5, W.setRow qb (rc b) = W5 ∧ (Tryz.prog.info? 58).map (·.size) = some (rc b).size ∧ W.heap[qb]? = some (.cells (rc zrec) 58) ∧ (rc zrec).size = (rc b).size ∧ (rc b).all (·.oneCell') = true ∧ Hid (∀ tmps : Array Value, tmps.getD 2 undef = .pointer (some ⟨qb, 0, none⟩) → tmps.getD 3 undef = .int .i64 (E : Nat) → bodyPost Tryz.prog Tryz.f21 P .ret ⟨tmps, []⟩ W5)) := fun W b E hW hq hbl hR hE => by
  refine ⟨_, rfl, rc_info b hbl, hq, by rw [rc_size, rc_size, zrec_length, hbl], rc_one b, fun tmps h4 h5 => ?_⟩;have hq5 : (W.setRow qb (rc b)).heap[qb]? = some (.cells (rc b) 58) := setRow_heap _ _ _ _ 58 _ hq;refine bodyPost_ret (v := .tuple #[.agg (rc b), .int .i64 (E : Nat)]) ?_ rfl (HF.out _ b E ?_ hR hE)
  ·rw [results_cell_tmp rfl];show ((asAddr (tmps.getD 2 undef)).run Tryz.prog _).andThen _ = _;rw [h4];simp only [asAddr, Sem.run_pure, Result.andThen_ok, run_loadVar_row _ qb 58 58 (rc b) (0, 0) _ hq5 Tryz.underlying58 rfl (rc_info b hbl), h5]
  ·exact Fr.then hW ((Fr.refl _ _).setRow qb _ (.inl rfl) : Fr (fun k => k = qb) W _) (fun i hi => .inr (by omega))
 have hzz : Tryz.zeroCells58 = rc zrec := zrec_rc;cases kb with
 | false =>
  have hfm := HC0.out rfl;have hE : encE h = 1 := by unfold encE; rw [if_neg (fun q => q.1 hfm)]
  obtain ⟨W5, e5, y2, y3, y4, y5, HE⟩ := HEND.out wx zrec 1 HNx.out HQx.out zrec_length (by unfold encR; rw [if_neg (by rw [hE]; decide)]) hE;have Y2 := tHid y2;have Y3 := tHid y3;have Y4 := tHid y4;have Y5 := tHid y5;clear hnw hHx HEND y2 y3 y4 y5
  go_wp2_with (first
   | (refine wpList_store_row rfl 58 _ _ rfl qb (rc zrec) (by first | rfl | simp [Act.eval]) (by first | rfl | simp [Act.eval]) 58 _ Y3.out Y2.out (by first | exact Y4.out | rfl) Y5.out ?_; rw [e5]))
  (try simp only [Exit.inBlock, Exit.then])
  exact HE.out _ rfl rfl
 | true =>
  obtain ⟨hF, hform, hCC⟩ := HC1.out rfl;have hc0 : c0 = (h.fm : Nat) := by have := congrArg (·[0]?) hCC; simpa using this
  have hc1 : c1 = (fE h.fm : Nat) := by have := congrArg (·[1]?) hCC; simpa using this
  have hc2 : G = fP h.fm := by have := congrArg (·[2]?) hCC; simpa using this
  subst hc0 hc1;have HFB := tHid HL.out.blk;have f0 := cell_of HL.out.blk 0 _ rfl;have f1 := cell_of HL.out.blk 1 _ rfl;have f2 := cell_of HL.out.blk 2 _ rfl;have HCS : Hid (Calls Tryz.prog 29 #[.agg #[.int .i64 (h.fm : Nat), .int .i64 (fE h.fm : Nat), G], .pointer (some ⟨hb, 0, none⟩)] wx fun e w1 => e = .returned (.bool (h.can h.fm)) ∧ w1.cell? ⟨hb, 8, none⟩ = some (.int .u8 h.typ.toNat) ∧ w1.cell? ⟨fb, 0, none⟩ = some (.int .i64 (h.fm : Nat)) ∧ w1.cell? ⟨fb, 1, none⟩ = some (.int .i64 (fE h.fm : Nat)) ∧ w1.cell? ⟨fb, 2, none⟩ = some G ∧ Hid (Nw wx w1)) := by
   have t := canSay_any h.fm hb h wx ok hHx;rw [← hc2] at t;refine t.mono ?_;rintro e w1 ⟨rfl, k1⟩;have b1 := Nw.heap k1 HL.out.blk;exact ⟨rfl, cell_of (Nw.heap k1 hHx) 8 _ rfl, cell_of b1 0 _ rfl, cell_of b1 1 _ rfl, cell_of b1 2 _ rfl, k1⟩
  have hfz : h.fm ≠ 0 := by rcases hF with e | e | e <;> rw [e] <;> decide
  by_cases hcan : h.can h.fm = true
  ·rw [hcan] at HCS;by_cases hty : h.typ = 0#8
   ·have hE : encE h = 132 := by unfold encE; rw [if_pos ⟨hfz, hcan⟩, if_pos hty]
    have HE2 := tHid (fun W (hW : Nw wx W) => HEND.out W zrec 132 (HNx.out.trans hW) (HQx.out.kept hW (fun h => h)) zrec_length (by unfold encR; rw [if_neg (by rw [hE]; decide)]) hE);have ht0 : h.typ.toNat = 0 := by rw [hty]; rfl
    rw [ht0] at HCS;clear hnw hHx HEND hCC hc2;go_upto_region 4 with (first
     | (go_at_call 29; with_reducible refine HCS.out.mono ?_; rintro e w1 ⟨rfl, y8, k0, k1, k2, K1⟩))
    obtain ⟨W5, e5, y2, y3, y4, y5, HE⟩ := HE2.out w1 K1.out;have Y2 := tHid y2;have Y3 := tHid y3;have Y4 := tHid y4;have Y5 := tHid y5;clear y2 y3 y4 y5
    go_wp2_with (first
     | (refine wpList_store_row rfl 58 _ _ rfl qb (rc zrec) (by first | rfl | simp [Act.eval]) (by first | rfl | simp [Act.eval]) 58 _ Y3.out Y2.out (by first | exact Y4.out | rfl) Y5.out ?_; rw [e5]))
    (try simp only [Exit.inBlock, Exit.then])
    first | exact HE.out _ rfl rfl | (refine HE.out _ ?_ ?_ <;> rfl)
   ·have hq0 : ((h.typ.toNat : Int) == 0) = false := by
     rw [beq_eq_false_iff_ne];intro e;apply hty;apply BitVec.eq_of_toNat_eq;show h.typ.toNat = 0;omega
    have HRC : Hid (∀ V, Nw wx V → Calls Tryz.prog 30 #[.agg #[.int .i64 (h.fm : Nat), .int .i64 (fE h.fm : Nat), G], .pointer (some ⟨hb, 0, none⟩)] V fun e w2 => ∃ R : List By, e = .returned (.tuple #[.agg (rc R), .bool (h.fit h.fm)]) ∧ ∃ W3, (w2.alloc (.cells Tryz.zeroCells58 58)).setRow w2.heap.size (rc R) = W3 ∧ Hid (R.length = 512 ∧ (h.fit h.fm = true → R = (encL h).flatten) ∧ Nw w W3 ∧ RcH qb zrec W3 ∧ RcH w2.heap.size R W3)) := fun V hV => by
     have t := record_any h.fm hb h V ok hF hform (Nw.heap hV hHx);rw [← hc2] at t;refine t.mono ?_;rintro e w2 ⟨R, rfl, K⟩;obtain ⟨g1, g2, g3⟩ := K.out;have hn : Nw w2 ((w2.alloc (.cells Tryz.zeroCells58 58)).setRow w2.heap.size (rc R)) := ((Fr.refl _ _).alloc _).setRow _ _ (.inr (Nat.le_refl _));have hb2 : (w2.alloc (.cells Tryz.zeroCells58 58)).heap[w2.heap.size]? = some (.cells Tryz.zeroCells58 58) := newHeap _ _;exact ⟨R, rfl, _, rfl, g1, g3, (HNx.out.trans (hV.trans g2)).trans hn, ((HQx.out.kept hV (fun h => h)).kept g2 (fun h => h)).kept hn (fun h => h), setRow_heap _ _ _ _ 58 _ hb2⟩
    clear hnw hHx hCC hc2;go_upto_region 6 with (first
     | (go_at_call 29; with_reducible refine HCS.out.mono ?_; rintro e w1 ⟨rfl, y8, k0, k1, k2, K1⟩))
    have HRC1 := tHid (HRC.out w1 K1.out);have HZI : Hid (∀ R : List By, R.length = 512 → (Tryz.prog.info? 58).map (·.size) = some (rc R).size ∧ Tryz.zeroCells58.size = (rc R).size ∧ (rc R).all (·.oneCell') = true) := fun R hR => ⟨rc_info R hR, by rw [zrec_rc, rc_size, rc_size, zrec_length, hR], rc_one R⟩
    clear HRC HCS hzz;go_upto_region 7 with (first
     | (go_at_call 30; with_reducible refine HRC1.out.mono ?_; rintro e w2 ⟨R, rfl, W3, e3, K3⟩)
     | (refine wpList_store_row rfl 58 _ _ rfl w2.heap.size (rc R) (by first | rfl | simp [Act.eval]) (by first | rfl | simp [Act.eval]) 58 _ (newHeap w2 _) (HZI.out R K3.out.1).1 (HZI.out R K3.out.1).2.1 (HZI.out R K3.out.1).2.2 ?_; rw [e3]))
    obtain ⟨g1, g2, g3, g4, g5⟩ := K3.out;have hzz : Tryz.zeroCells58 = rc zrec := zrec_rc;by_cases hfit : h.fit h.fm = true
    ·have hR := g2 hfit;have hE : encE h = 0 := by unfold encE; rw [if_pos ⟨hfz, hcan⟩, if_neg hty, if_pos hfit]
     have hRR : encR h = psm R := by unfold encR; rw [if_pos hE, hR]
     have HPS : Hid (Calls Tryz.prog 31 #[.agg (rc R)] W3 fun e w4 => e = .returned (.agg (rc (psm R))) ∧ ∃ W5, w4.setRow qb (rc (psm R)) = W5 ∧ Hid (((Tryz.prog.info? 58).map (·.size) = some (rc (psm R)).size ∧ w4.heap[qb]? = some (.cells (rc zrec) 58) ∧ (rc zrec).size = (rc (psm R)).size ∧ (rc (psm R)).all (·.oneCell') = true) ∧ (∀ tmps : Array Value, tmps.getD 2 undef = .pointer (some ⟨qb, 0, none⟩) → tmps.getD 3 undef = .int .i64 ((0 : Nat) : Int) → bodyPost Tryz.prog Tryz.f21 P .ret ⟨tmps, []⟩ W5))) := by
      refine (putSum_any R g1 W3).mono ?_;rintro e w4 ⟨rfl, k4⟩;obtain ⟨W5, e5, y2, y3, y4, y5, HE⟩ := HEND.out w4 (psm R) 0 (g3.trans k4) (g4.kept k4 (fun h => h)) (psm_length R g1) hRR hE;exact ⟨rfl, W5, e5, ⟨y2, y3, y4, y5⟩, HE.out⟩
     have Y1 := tHid g5;have Y2 := tHid (rc_info R g1);rw [hfit];clear HEND HZI g1 g2 g3 g4 g5 hR hRR K3 HRC1 e3;generalize w2.heap.size = rb at *
     go_wp2_with (first
      | (refine wpList_load_row rfl 58 _ rfl rb (by first | rfl | simp [Act.eval]) 58 _ (0, 0) _ Y1.out Tryz.underlying58 rfl Y2.out ?_)
      | (go_at_call 31; with_reducible refine HPS.out.mono ?_; rintro e w4 ⟨rfl, W5, e5, K5⟩)
      | (refine wpList_store_row rfl 58 _ _ rfl qb (rc (psm R)) (by first | rfl | simp [Act.eval]) (by first | rfl | simp [Act.eval]) 58 _ K5.out.1.2.1 K5.out.1.1 K5.out.1.2.2.1 K5.out.1.2.2.2 ?_; rw [e5]))
     (try simp only [Exit.inBlock, Exit.then])
     exact K5.out.2 _ rfl rfl
    ·have hfit' : h.fit h.fm = false := Bool.eq_false_iff.2 hfit;have hE : encE h = 133 := by unfold encE; rw [if_pos ⟨hfz, hcan⟩, if_neg hty, if_neg hfit]
     obtain ⟨W5, e5, y2, y3, y4, y5, HE⟩ := HEND.out W3 zrec 133 g3 g4 zrec_length (by unfold encR; rw [if_neg (by rw [hE]; decide)]) hE;have Y2 := tHid y2;have Y3 := tHid y3;have Y4 := tHid y4;have Y5 := tHid y5;rw [hfit'];clear HEND HZI g1 g2 g3 g4 g5 K3 HRC1 e3 y2 y3 y4 y5
     go_wp2_with (first
      | (refine wpList_store_row rfl 58 _ _ rfl qb (rc zrec) (by first | rfl | simp [Act.eval]) (by first | rfl | simp [Act.eval]) 58 _ Y3.out Y2.out (by first | exact Y4.out | rfl) Y5.out ?_; rw [e5]))
     (try simp only [Exit.inBlock, Exit.then])
     exact HE.out _ rfl rfl
  ·have hcan' : h.can h.fm = false := Bool.eq_false_iff.2 hcan;rw [hcan'] at HCS;have hE : encE h = 1 := by unfold encE; rw [if_neg (fun q => hcan q.2)]
   have HE2 := tHid (fun W (hW : Nw wx W) => HEND.out W zrec 1 (HNx.out.trans hW) (HQx.out.kept hW (fun h => h)) zrec_length (by unfold encR; rw [if_neg (by rw [hE]; decide)]) hE);clear hnw hHx HEND hCC hc2;go_upto_region 3 with (first
    | (go_at_call 29; with_reducible refine HCS.out.mono ?_; rintro e w1 ⟨rfl, y8, k0, k1, k2, K1⟩))
   obtain ⟨W5, e5, y2, y3, y4, y5, HE⟩ := HE2.out w1 K1.out;have Y2 := tHid y2;have Y3 := tHid y3;have Y4 := tHid y4;have Y5 := tHid y5;clear y2 y3 y4 y5
   go_wp2_with (first
    | (refine wpList_store_row rfl 58 _ _ rfl qb (rc zrec) (by first | rfl | simp [Act.eval]) (by first | rfl | simp [Act.eval]) 58 _ Y3.out Y2.out (by first | exact Y4.out | rfl) Y5.out ?_; rw [e5]))
   (try simp only [Exit.inBlock, Exit.then])
   first | exact HE.out _ rfl rfl | (refine HE.out _ ?_ ?_ <;> rfl)
end
end Go.Proofs.YtlenihpbhlfcoaaGreatDoor
namespace Go.Proofs.YtlenihpbhlfcoaaGreatDoor
open Go.RowKit
theorem fd_sl (w : World) (g o n : Nat) (b : List By) (hb : b.length = 512) (hon : o + n ≤ 512) (h : RcH g b w) : Sl (fun _ => False) (.slice (some ⟨g, o, none⟩) n (512 - o)) (fd b o n) w := by
 have hl : (fd b o n).length = n := by unfold fd; rw [List.length_take, List.length_drop]; omega
 refine .inr ⟨g, fun h => h, o, 512 - o, by rw [hl], by rw [hl]; omega, by omega, ?_⟩;have hr : Rd g 0 b w := fun j hj => by
  rw [Nat.zero_add];have := rc_at b j hj;have hh : w.heap[g]? = some (.cells (rc b) 58) := h;simp only [World.cell?, hh]
  simpa using this
 have := (hr.drop o).take n;rw [Nat.zero_add] at this;exact this
theorem typeOf_any (g : Nat) (b : List By) (hb : b.length = 512) (w : World) (hg : RcH g b w) : Calls Tryz.prog 82 #[.pointer (some ⟨g, 0, none⟩)] w fun e w' => e = .returned (.int .u8 ((tyOf b).toNat : Nat)) ∧ w' = w := by
 refine asP fun P hP => ?_
 have HF : Hid (P (.returned (.int .u8 ((tyOf b).toNat : Nat))) w) := by rw [hP]; exact ⟨rfl, rfl⟩
 clear hP;have c := (hg.cell 156 (by omega)).1;have ht : b.getD 156 0 = b[156]'(by omega) := by rw [List.getD_eq_getElem?_getD, List.getElem?_eq_getElem (by omega)]; rfl
 unfold tyOf at HF;rw [ht] at HF;generalize b[156]'(by omega) = x at *;clear hg ht;by_cases hx : x = 0#8
 ·rw [if_pos hx] at HF;subst hx;go_enter Tryz.func82, Tryz.ntmps82
  go_wp2_with fail
  exact HF.out
 ·rw [if_neg hx] at HF;have hq : ((x.toNat : Int) == 0) = false := by
   rw [beq_eq_false_iff_ne];intro e;apply hx;apply BitVec.eq_of_toNat_eq;show x.toNat = 0;omega
  have hq2 : ¬ x.toNat = 0 := fun e => by rw [beq_eq_false_iff_ne] at hq; omega
  go_enter Tryz.func82, Tryz.ntmps82
  go_wp2_with fail
  exact HF.out
theorem nread_any (o n g : Nat) (F : Value) (bl : Bool) (b : List By) (w : World) (hb : b.length = 512) (hn : 0 < n) (hon : o + n ≤ 512) (hg : RcH g b w) :
  Calls Tryz.prog 83 #[.agg #[.int .i64 (o : Nat), .int .i64 (n : Nat), F, .bool bl], .pointer (some ⟨g, 0, none⟩)] w fun e w' => ∃ z : Int, e = .returned (.tuple #[.int .i64 z, .int .i64 (nbE b o n bl : Nat)]) ∧ Hid ((nbE b o n bl = 0 → z = nmN (fd b o n)) ∧ Nw w w') := by
 refine asP fun P hP => ?_
 have HF : Hid (∀ W z E, Nw w W → nbE b o n bl = E → (E = 0 → z = nmN (fd b o n)) → P (.returned (.tuple #[.int .i64 z, .int .i64 (E : Nat)])) W) := fun W z E hW hE hz => by rw [hP, ← hE]; exact ⟨z, rfl, fun q => hz (by rw [← hE]; exact q), hW⟩
 clear hP;obtain ⟨W1, hW1⟩ : ∃ W1, w.alloc (.cells #[.int .i64 (o : Nat), .int .i64 (n : Nat), F, .bool bl] 109) = W1 := ⟨_, rfl⟩;have hB : W1.heap[w.heap.size]? = some (.cells #[.int .i64 (o : Nat), .int .i64 (n : Nat), F, .bool bl] 109) := by rw [← hW1]; exact newHeap _ _
 have hN1 : Nw w W1 := by rw [← hW1]; exact (Fr.refl _ _).alloc _
 have hnb : nbE b o n bl = if nmE (fd b o n) = 0 then (if 0 ≤ nmN (fd b o n) ∨ bl = true then 0 else 121) else nmE (fd b o n) := rfl
 have HOF : Hid (Calls Tryz.prog 47 #[.agg #[.int .i64 (o : Nat), .int .i64 (n : Nat)], .pointer (some ⟨g, 0, none⟩)] W1 fun e w2 => e = .returned (.slice (some ⟨g, o, none⟩) n (512 - o)) ∧ Hid (Calls Tryz.prog 110 #[.slice (some ⟨g, o, none⟩) n (512 - o)] w2 fun e w3 => e = .returned (.tuple #[.int .i64 (nmN (fd b o n)), .int .i64 (nmE (fd b o n) : Nat)]) ∧ w3.cell? ⟨w.heap.size, 0, none⟩ = some (.int .i64 (o : Nat)) ∧ w3.cell? ⟨w.heap.size, 1, none⟩ = some (.int .i64 (n : Nat)) ∧ w3.cell? ⟨w.heap.size, 2, none⟩ = some F ∧ w3.cell? ⟨w.heap.size, 3, none⟩ = some (.bool bl) ∧ Hid (Nw w w3))) := by
  refine (of_any o n g b W1 hb hn hon (hg.kept hN1 (fun h => h))).mono ?_;rintro e w2 ⟨rfl, k2⟩;refine ⟨rfl, ?_⟩;have t := fnumber_any w2 _ n (512 - o) (fd b o n) (fd_sl w2 g o n b hb hon ((hg.kept hN1 (fun h => h)).kept k2 (fun h => h)));rw [numA_eq] at t;refine t.mono ?_;rintro e w3 ⟨rfl, k3⟩;have hB3 := Nw.heap (k2.trans k3) hB;exact ⟨rfl, cell_of hB3 0 _ rfl, cell_of hB3 1 _ rfl, cell_of hB3 2 _ rfl, cell_of hB3 3 _ rfl, hN1.trans (k2.trans k3)⟩
 have HM := tHid (fun V => may_any (o : Nat) (n : Nat) (nmN (fd b o n)) F bl V);have b0 : W1.cell? ⟨w.heap.size, 0, none⟩ = some (.int .i64 (o : Nat)) := cell_of hB 0 _ rfl;have b1 : W1.cell? ⟨w.heap.size, 1, none⟩ = some (.int .i64 (n : Nat)) := cell_of hB 1 _ rfl;have HW1 := tHid hW1;clear hW1 hB hN1 hg;generalize nmN (fd b o n) = N at *;generalize nmE (fd b o n) = E at *;by_cases hE : E = 0
 ·subst hE;rw [if_pos rfl] at hnb;by_cases hm : 0 ≤ N ∨ bl = true
  ·rw [if_pos hm] at hnb;have hmb : (decide (0 ≤ N) || bl) = true := by simpa only [Bool.or_eq_true, decide_eq_true_eq] using hm
   rw [hmb] at HM;have HF2 := tHid (fun W hW => HF.out W N 0 hW hnb (fun _ => rfl));clear HF hnb hm hmb;go_enter Tryz.func83, Tryz.ntmps83;go_upto_region 1 with fail;rw [HW1.out]
   go_wp2_with (first
    | (go_at_call 47; with_reducible refine HOF.out.mono ?_; rintro e w2 ⟨rfl, K2⟩)
    | (go_at_call 110; with_reducible refine K2.out.mono ?_; rintro e w3 ⟨rfl, y0, y1, y2, y3, K3⟩)
    | (go_at_call 79; with_reducible refine (HM.out _).mono ?_; rintro e w4 ⟨rfl, K4⟩))
   first | exact HF2.out _ (K3.out.trans K4) | (go_ret2; exact HF2.out _ (K3.out.trans K4))
  ·rw [if_neg hm] at hnb;have hmb : (decide (0 ≤ N) || bl) = false := by
    rw [Bool.eq_false_iff];intro q;exact hm (by simpa only [Bool.or_eq_true, decide_eq_true_eq] using q)
   rw [hmb] at HM;have HF2 := tHid (fun W hW => HF.out W 0 121 hW hnb (fun q => by cases q));clear HF hnb hm hmb;go_enter Tryz.func83, Tryz.ntmps83;go_upto_region 1 with fail;rw [HW1.out]
   go_wp2_with (first
    | (go_at_call 47; with_reducible refine HOF.out.mono ?_; rintro e w2 ⟨rfl, K2⟩)
    | (go_at_call 110; with_reducible refine K2.out.mono ?_; rintro e w3 ⟨rfl, y0, y1, y2, y3, K3⟩)
    | (go_at_call 79; with_reducible refine (HM.out _).mono ?_; rintro e w4 ⟨rfl, K4⟩))
   first | exact HF2.out _ (K3.out.trans K4) | (go_ret2; exact HF2.out _ (K3.out.trans K4))
 ·rw [if_neg hE] at hnb;have hq : ((E : Int) == 0) = false := by rw [beq_eq_false_iff_ne]; omega
  have HF2 := tHid (fun W hW => HF.out W N E hW hnb (fun q => absurd q hE));clear HF hnb hE;go_enter Tryz.func83, Tryz.ntmps83;go_upto_region 1 with fail;rw [HW1.out]
  go_wp2_with (first
   | (go_at_call 47; with_reducible refine HOF.out.mono ?_; rintro e w2 ⟨rfl, K2⟩)
   | (go_at_call 110; with_reducible refine K2.out.mono ?_; rintro e w3 ⟨rfl, y0, y1, y2, y3, K3⟩))
  first | exact HF2.out _ K3.out | (go_ret2; exact HF2.out _ K3.out)
theorem results_c3 {fn : Func} {p u v : Tmp} {ty : TypeId} (h : fn.results = #[.cell p ty, .tmp u, .tmp v]) (tmps : Array Value) (P : Program) (w : World) :
  (results fn tmps).run P w = ((asAddr (tmps.getD p undef)).run P w).andThen fun a w₁ => ((loadVar ty a).run P w₁).andThen fun x w₂ => .ok (.tuple #[x, tmps.getD u undef, tmps.getD v undef]) w₂ := by
 simp only [results, h];simp [Sem.run_bind, Result.andThen]
structure DI (b : List By) (f I J hb : Nat) (U0 w : World) : Prop where
 hd : HcH hb (dH b f I J) w
 fr : Fr (fun k => k = hb) U0 w
theorem DI.nw {b : List By} {f I J hb : Nat} {U0 w w' : World} (H : DI b f I J hb U0 w) (k : Nw w w') : DI b f I J hb U0 w' := ⟨Nw.heap k H.hd, Fr.then H.fr k (fun i hi => hi.elim)⟩
theorem hc_set {g : Nat} {h h' : Hr} {w : World} (H : HcH g h w) (sl : Nat) (v : Value) (e : h'.C = h.C.setIfInBounds sl v) : HcH g h' (w.setCell ⟨g, sl, none⟩ v) := by
 unfold HcH at H ⊢;simp only [World.setCell, Array.getElem?_modify, H];simp [e]
theorem DI.tset {b : List By} {f I J hb : Nat} {U0 w : World} (H : DI b f I J hb U0 w) {o n sl : Nat} (ht : tF[I]? = some (o, n)) (hs : sT[I]? = some sl) (ho : o < fE f) : DI b f (I + 1) J hb U0 (w.setCell ⟨hb, sl, none⟩ (.string (str (txt (fd b o n))))) :=
 ⟨hc_set H.hd sl _ (dH_t b f I J o n sl ht hs ho), H.fr.setCell ⟨hb, sl, none⟩ _ (.inl rfl)⟩
theorem DI.tskip {b : List By} {f I J hb : Nat} {U0 w : World} (H : DI b f I J hb U0 w) {o n : Nat} (ht : tF[I]? = some (o, n)) (ho : ¬ o < fE f) : DI b f (I + 1) J hb U0 w :=
 ⟨by rw [dH_tn b f I J o n ht ho]; exact H.hd, H.fr⟩
theorem DI.nset {b : List By} {f I J hb : Nat} {U0 w : World} (H : DI b f I J hb U0 w) {o n sl : Nat} {bl : Bool} (ht : nF[J]? = some (o, n, bl)) (hs : sN[J]? = some sl) (ho : o < fE f) : DI b f I (J + 1) hb U0 (w.setCell ⟨hb, sl, none⟩ (.int .i64 (nmN (fd b o n)))) :=
 ⟨hc_set H.hd sl _ (dH_n b f I J o n sl bl ht hs ho), H.fr.setCell ⟨hb, sl, none⟩ _ (.inl rfl)⟩
theorem DI.nskip {b : List By} {f I J hb : Nat} {U0 w : World} (H : DI b f I J hb U0 w) {o n : Nat} {bl : Bool} (ht : nF[J]? = some (o, n, bl)) (ho : ¬ o < fE f) : DI b f I (J + 1) hb U0 w :=
 ⟨by rw [dH_nn b f I J o n bl ht ho]; exact H.hd, H.fr⟩
theorem dH_zero (b : List By) (f : Nat) : (dH b f 0 0).C = #[.int .i64 (f : Nat), .string ⟨#[]⟩, .string ⟨#[]⟩, .int .i64 0, .int .i64 0, .int .i64 0, .int .i64 0, .int .i64 0, .int .u8 ((tyOf b).toNat : Nat), .string ⟨#[]⟩, .string ⟨#[]⟩, .string ⟨#[]⟩, .int .i64 0, .int .i64 0] := by
 simp [dH, dT, dN, Hr.C, eS]
theorem hc_one (h : Hr) : h.C.all (·.oneCell') = true := by simp [Hr.C, Value.oneCell']
theorem hc_len (h : Hr) : h.C.size = 14 := rfl
theorem DI.tcell {b : List By} {f I J hb : Nat} {U0 w : World} (H : DI b f I J hb U0 w) (sl : Nat) (h : sl < 14) : ∃ v, w.cell? ⟨hb, sl, none⟩ = some v ∧ w.frozen? ⟨hb, sl, none⟩ = false := by
 have e : (dH b f I J).C[sl]? = some ((dH b f I J).C[sl]'(by rw [hc_len]; exact h)) := Array.getElem?_eq_getElem (by rw [hc_len]; exact h);exact ⟨_, cell_of H.hd sl _ e, frz_of H.hd sl⟩
theorem sT_lt {I sl : Nat} (h : sT[I]? = some sl) : sl < 14 := by
 have h5 : I < 5 := (List.getElem?_eq_some_iff.1 h).1;rcases five h5 with rfl | rfl | rfl | rfl | rfl <;>
 ·simp only [sT, List.getElem?_cons_zero, List.getElem?_cons_succ, Option.some.injEq] at h;omega
theorem sN_lt {I sl : Nat} (h : sN[I]? = some sl) : sl < 14 := by
 have h5 : I < 7 := (List.getElem?_eq_some_iff.1 h).1;rcases seven h5 with rfl | rfl | rfl | rfl | rfl | rfl | rfl <;>
 ·simp only [sN, List.getElem?_cons_zero, List.getElem?_cons_succ, Option.some.injEq] at h;omega
theorem u8_inj' {a c : List By} (h : a.map u8 = c.map u8) : a = c := by
 have : str a = str c := by unfold str; rw [h]
 exact str_inj.1 this
theorem mF_mg (l : List By) : mF (l.map u8) = if l = mg 3 then some 3 else if l = mg 2 then some 2 else if l = mg 1 then some 1 else none := by
 have e1 : mk1 = (mg 1).map u8 := by decide
 have e2 : mk2 = (mg 2).map u8 := by decide
 have e3 : mk3 = (mg 3).map u8 := by decide
 unfold mF;rw [e1, e2, e3];have key : ∀ c : List By, (l.map u8 = c.map u8) = (l = c) := fun c => propext ⟨u8_inj', fun h => by rw [h]⟩
 simp only [key]
theorem mF_of (b : List By) : (mgOf b = 0 ∧ mF ((fd b 257 8).map u8) = none) ∨ (isF (mgOf b) ∧ mF ((fd b 257 8).map u8) = some (mgOf b)) := by
 rw [mF_mg];unfold mgOf;by_cases h1 : fd b 257 8 = mg 1
 ·rw [if_pos h1, h1];exact .inr ⟨.inl rfl, by decide⟩
 ·rw [if_neg h1, if_neg h1];by_cases h2 : fd b 257 8 = mg 2
  ·rw [if_pos h2, h2];exact .inr ⟨.inr (.inl rfl), by decide⟩
  ·rw [if_neg h2, if_neg h2];by_cases h3 : fd b 257 8 = mg 3
   ·rw [if_pos h3, h3];exact .inr ⟨.inr (.inr rfl), by decide⟩
   ·rw [if_neg h3, if_neg h3];exact .inl ⟨rfl, rfl⟩
theorem set_idH {w : World} {g i : Nat} {h : Hr} {v : Value} (H : HcH g h w) (hv : h.C[i]? = some v) : w.setCell ⟨g, i, none⟩ v = w := by
 have hh : (w.setCell ⟨g, i, none⟩ v).heap = w.heap := by
  apply Array.ext_getElem?
  intro k;simp only [World.setCell, Array.getElem?_modify];by_cases hk : g = k
  ·subst hk;have H' : w.heap[g]? = some (.cells h.C 62) := H;rw [H'];simp only [if_true, Option.map_some];congr 2;apply Array.ext_getElem?;intro j;rw [if_neg (by decide), Array.getElem?_setIfInBounds];by_cases hj : i = j
   ·subst hj;rw [if_pos rfl, hv];have := (Array.getElem?_eq_some_iff.1 hv).1;rw [if_pos this]
   ·rw [if_neg hj]
  ·rw [if_neg hk]
 cases w;simp only [World.setCell] at hh ⊢;rw [hh]
end Go.Proofs.YtlenihpbhlfcoaaGreatDoor

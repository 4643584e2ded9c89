import Derived.Test.YtlenihpbhlfcoaaGreatDoorUbf
set_option maxHeartbeats 8000000
set_option maxRecDepth 100000
set_option linter.unusedSimpArgs false
set_option linter.unusedVariables false
namespace Go.Proofs.YtlenihpbhlfcoaaGreatDoor
open Go.RowKit
def MaA (d : List By) (q : Nat) (w : World) (e : Ending) (w' : World) : Prop := ((rdT d).2.2 ≠ 0 ∧ e = gvR (q : Nat) ((rdT d).2.2 : Nat) ∧ Nw w w') ∨ ((rdT d).2.2 = 0 ∧ ∃ a1 m1 c1 a2 c2, e = .returned (.tuple #[.slice a1 m1 c1, .slice a2 (d.drop (rdT d).2.1).length c2]) ∧ Hid (Nw w w' ∧ NewG w (.slice a1 m1 c1) (rgL (rdT d).1) w'))
theorem Old.caps {w : World} {a : Option Addr} {n c : Nat} {d : List By} (h : Old w (.slice a n c) d) : d.length = n ∧ n ≤ c ∧ c < 9223372036854775808 ∧ (c ≠ 0 → ∃ g o, a = some ⟨g, o, none⟩) := by
 rcases h with ⟨a', e, e2⟩ | ⟨g, hg, o, c', e, e1, e2, e3⟩
 ·injection e with ea el ec;subst el ec e2;exact ⟨rfl, by omega, by omega, fun h => absurd rfl h⟩
 ·injection e with ea el ec;subst el ec;exact ⟨rfl, e1, e2, fun _ => ⟨g, o, ea⟩⟩
theorem qmapAhead_any (w : World) (a : Option Addr) (n c : Nat) (d : List By) (hd : Old w (.slice a n c) d) (hn : n ≤ 140737488351232) (q : Nat) : Calls Tryz.prog 95 #[.slice a n c, .int .i64 (q : Nat)] w (MaA d q w) := by
 refine asP fun P hP => ?_
 obtain ⟨hdl, hnc, hc2, hform⟩ := Old.caps hd;have HR := tHid (read_any15 w a n c d hd hn);unfold RdA at HR;have hinv := rdT_inv d;unfold MaA at hP;generalize rdT d = r at *;obtain ⟨l, N, E⟩ := r;simp only at HR hP;by_cases he : E = 0
 ·subst he;have hN := (hinv l N rfl).2.2.1;have hdn : (d.drop N).length = n - N := by rw [List.length_drop]; omega
  rw [hdn] at hP;have HM := tHid (qmust_ok (q : Nat));have HF : Hid (∀ V a1 m1 c1 a2 c2, (Nw w V ∧ NewG w (.slice a1 m1 c1) (rgL l) V) → P (.returned (.tuple #[.slice a1 m1 c1, .slice a2 (n - N) c2])) V) := fun V a1 m1 c1 a2 c2 h => by rw [hP]; exact .inr ⟨rfl, a1, m1, c1, a2, c2, rfl, h⟩
  have k1 : (N : Int) ≤ (n : Int) := by omega
  have k2 : N ≤ n := by omega
  have HNG : Hid (∀ V V', Nw V V' → ∀ v, NewG w v (rgL l) V → NewG w v (rgL l) V') := fun V V' h v h2 => h2.nw h
  clear hP hinv hdn hd hN hdl;by_cases hcp : c = N
  ·subst hcp;have e0 : n - c = 0 := by omega
   rw [e0] at HF;clear hform e0;go_enter Tryz.func95, Tryz.ntmps95;go_upto_region 3 with (first
    | (go_at_call 119; with_reducible refine HR.out.mono ?_; rintro e w1 ⟨a1, m1, c1, rfl, K1⟩)
    | (go_at_call 52; with_reducible refine (HM.out _).mono ?_; rintro e w2 ⟨rfl, rfl⟩))
   go_quiet (fail)
   go_wp2_with fail
   exact HF.out _ _ _ _ _ _ ⟨K1.out.1.trans ((Fr.refl _ _).drewN _), HNG.out _ _ ((Fr.refl _ _).drewN _) _ K1.out.2⟩
  ·obtain ⟨g, o, rfl⟩ := hform (by omega);go_enter Tryz.func95, Tryz.ntmps95;go_upto_region 3 with (first
    | (go_at_call 119; with_reducible refine HR.out.mono ?_; rintro e w1 ⟨a1, m1, c1, rfl, K1⟩)
    | (go_at_call 52; with_reducible refine (HM.out _).mono ?_; rintro e w2 ⟨rfl, rfl⟩))
   go_quiet (fail)
   go_wp2_with fail
   exact HF.out _ _ _ _ _ _ ⟨K1.out.1.trans ((Fr.refl _ _).drewN _), HNG.out _ _ ((Fr.refl _ _).drewN _) _ K1.out.2⟩
 ·have hei : ¬ (E : Int) = 0 := by omega
  have HM := tHid (qmust_bad (q : Nat) (E : Nat) hei);have HF : Hid (∀ V, Nw w V → P (gvR (q : Nat) (E : Nat)) V) := fun V hV => by rw [hP]; exact .inl ⟨he, rfl, hV⟩
  clear hP hinv hd hdl he hei hform;go_enter Tryz.func95, Tryz.ntmps95
  go_wp2_with (first
   | (go_at_call 119; with_reducible refine HR.out.mono ?_; rintro e w1 ⟨a1, m1, c1, rfl, K1⟩)
   | (go_at_call 52; with_reducible refine (HM.out _).mono ?_; rintro e w2 ⟨rfl, rfl⟩))
  exact ⟨rfl, HF.out _ K1.out.1⟩
theorem rdO_le (R : List By) : ∀ (n q : Nat) (acc : List (Nat × Nat)), (rdO R n q acc).1.length ≤ acc.length + n := by
 intro n
 induction n with
 | zero => intro q acc; rw [rdO]; simp
 | succ n ih =>
  intro q acc;rw [rdO];split
  ·simp
  ·split
   ·simp
   ·have := ih (q + 24) (acc ++ [(one2 ((R.drop q).take 24)).1]);rw [List.length_append] at this;simp at this ⊢;omega
variable {Y : Nat → Prop} {rb : Nat} {va : Option Addr} {vc : Nat} {b : List By} {p : Nat} {vG : Value} {G : List Pr} {w : World}
def Alv (rb : Nat) (va : Option Addr) (vc : Nat) (b : List By) (vG : Value) (w : World) : Prop := ∃ p : Nat, w.heap[rb]? = some (.cells #[.slice va b.length vc, .int .i64 (p : Nat), vG, .int .i64 0] 51)
theorem Rm.alv (h : Rm Y rb va vc b p vG G w) : Alv rb va vc b vG w := ⟨p, h.row⟩
def OmA (Y : Nat → Prop) (rb : Nat) (va : Option Addr) (vc : Nat) (b : List By) (q : Nat) (vG : Value) (G : List Pr) (w : World) (e : Ending) (w' : World) : Prop :=
 (roE (fd b q 512) ≠ 0 ∧ e = gvR (q : Nat) (roE (fd b q 512) : Nat) ∧ Nw w w') ∨ (roE (fd b q 512) = 0 ∧
  match omR (b.drop q) 512 (decide ((fd b q 512).getD 482 0 ≠ 0#8)) (rgL (rdO (fd b q 512) 4 386 []).1) with
  | .bad pl E => e = gvR ((q + pl : Nat) : Int) (E : Nat) ∧ Fr (fun k => k = rb) w w' ∧ Alv rb va vc b vG w'
  | .ok l o => ∃ v, e = .returned (.tuple #[v, .int .i64 ((szN (((fd b q 512).drop 483).take 12)).1 : Int)]) ∧ Hid (Fr (fun k => k = rb) w w' ∧ Rm Y rb va vc b (q + o) vG G w' ∧ ∃ og, OgR RG og v l w' ∧ ∀ g, og = some g → w.heap.size ≤ g))
theorem Rm.at_ {V : World} (h : Rm Y rb va vc b p vG G w) (f : Fr (fun k => k = rb) w V) (p' : Nat) (hp : p' ≤ b.length) (hr : V.heap[rb]? = some (.cells #[.slice va b.length vc, .int .i64 (p' : Nat), vG, .int .i64 0] 51)) : Rm Y rb va vc b p' vG G V :=
 ⟨hr, h.sl.kept f (fun g hg => by subst hg; exact h.yr), h.gl.kept f (fun g hg => by subst hg; exact h.yr), h.yr, hp, h.bl⟩
theorem app_bound (x y : Nat) (h1 : x ≤ 6000000000000) (h2 : y ≤ 21) : (x + y + (x + y) / 4 + 192) * 16 ≤ 281474976710656 := by omega
theorem l_bound (x o : Nat) (h : 512 * x ≤ 21 * o) (h2 : o ≤ 140737488351232) : x ≤ 6000000000000 := by omega
theorem l_next (x y o : Nat) (h : 512 * x ≤ 21 * o) (h2 : y ≤ 21) : 512 * (x + y) ≤ 21 * (o + 512) := by omega
theorem meas16 (L qo Q5 kx : Nat) (h1 : L - qo ≤ kx) (h2 : qo + 512 = Q5) (h3 : Q5 ≤ L) : L - Q5 < kx := by omega
theorem fd_drop (b : List By) (q o n : Nat) : fd (b.drop q) o n = fd b (q + o) n := by unfold fd; rw [List.drop_drop]
theorem qoldMap_any (q : Nat) (hq : q + 512 ≤ b.length) (h : Rm Y rb va vc b (q + 512) vG G w) (hd : Hr) : Calls Tryz.prog 92 #[.pointer (some ⟨rb, 0, none⟩), .agg (hdC hd (fd b q 512) q)] w (OmA Y rb va vc b q vG G w) := by
 refine asP fun P hP => ?_
 have hRl := fd_length b q 512 (by omega);obtain ⟨R, hR⟩ : ∃ R, fd b q 512 = R := ⟨_, rfl⟩;unfold OmA at hP;rw [hR] at hP hRl ⊢;obtain ⟨hb, hhb⟩ : ∃ hb, w.heap.size = hb := ⟨_, rfl⟩;obtain ⟨W0, hW0⟩ : ∃ W0, w.alloc (.cells (hdC hd R q) 89) = W0 := ⟨_, rfl⟩;have hN0 : Nw w W0 := by rw [← hW0]; exact (Fr.refl _ _).alloc _
 have rh : W0.heap[hb]? = some (.cells (hdC hd R q) 89) := by rw [← hW0, ← hhb]; exact newHeap _ _
 have hrng : W0.rangeAt hb 14 (R.map bv) := fun j v hv => cell_of rh (14 + j) v (hdC_mid hd R q j v (by unfold rc; simpa using hv))
 have HX : Hid (∀ V, Nw W0 V → V.cell? ⟨hb, 526, none⟩ = some (.int .i64 (q : Nat))) := fun V hV => Nw.cell hV (cell_of rh 526 _ (hdC_at hd R hRl q))
 obtain ⟨CR, hCR⟩ : ∃ CR, R.map bv = CR := ⟨_, rfl⟩;have hCA : rc R = CR.toArray := by rw [← hCR]; rfl
 rw [hCR] at hrng;have HRI : Hid ((Tryz.prog.info? 58).map (·.size) = some CR.length) := by
  have := rc_info R hRl;rw [hCA] at this;show _ = _;rw [this, List.size_toArray]
 have HRO : Hid (∀ V, Calls Tryz.prog 117 #[.agg CR.toArray] V (RoA V R)) := fun V => by rw [← hCA]; exact readOld_any V R hRl
 have hm0 := h.nw hN0;have HRng := tHid hrng;have HW0 := tHid hW0;have HN0 := tHid hN0;have HM0 := tHid hm0;unfold RoA at HRO;obtain ⟨E0, hE0⟩ : ∃ E0, roE R = E0 := ⟨_, rfl⟩;rw [hE0] at HRO hP;generalize hdC hd R q = HC at *;clear hrng rh hW0 hm0 hN0;by_cases he : E0 = 0
 ·subst he;have HMu := tHid (qmust_ok (q : Nat));go_enter Tryz.func92, Tryz.ntmps92;go_upto_region 1 with fail;rw [HW0.out];go_upto_region 2 with (first
   | (refine wpList_load_mid rfl 58 _ rfl hb 14 (by first | rfl | simp [Act.eval]) CR _ HRng.out Tryz.underlying58 rfl HRI.out ?_)
   | (go_at_call 117; with_reducible refine (HRO.out _).mono ?_; rintro e w1 ⟨a1, m1, c1, B1, N1, rfl, K1⟩))
  obtain ⟨n1, k1, _⟩ := K1.out;obtain ⟨g1, hB1, hN1⟩ := k1 (by first | rfl | trivial);have HB1 := tHid hB1;have HN1 := tHid hN1;clear hB1 hN1;have x5 := HX.out w1 n1;have HK1 := tHid n1;have HG1 := tHid g1;clear K1 n1 k1 g1;go_upto_region 3 with (first
   | (go_at_call 52; with_reducible refine (HMu.out _).mono ?_; rintro e w2 ⟨rfl, rfl⟩))
  obtain ⟨SZ, hSZ⟩ : ∃ SZ, N1 = SZ := ⟨_, rfl⟩;obtain ⟨m0, hm0⟩ : ∃ m0, B1 = m0 := ⟨_, rfl⟩;rw [← HB1.out, ← HN1.out] at hP;obtain ⟨l0, hl0⟩ : ∃ l0, rgL (rdO R 4 386 []).1 = l0 := ⟨_, rfl⟩;have hl4 : l0.length ≤ 4 := by
   rw [← hl0]; unfold rgL; rw [List.length_map];have := rdO_le R 4 386 []
   simpa using this
  rw [hl0] at hP;rw [hSZ, hm0] at hP;rw [hl0] at HG1;subst hSZ hm0;have HLn : Hid ((b.drop q).length = b.length - q) := by show _ = _; rw [List.length_drop]
  have HOK : Hid (∀ V l o v, omR (b.drop q) 512 B1 l0 = .ok l o → Fr (fun k => k = rb) w V → Rm Y rb va vc b (q + o) vG G V → (∃ og, OgR RG og v l V ∧ ∀ g, og = some g → w.heap.size ≤ g) → P (.returned (.tuple #[v, .int .i64 N1])) V) := fun V l o v h1 h2 h3 h4 => by
   rw [hP, h1]; exact .inr ⟨(by first | rfl | trivial), v, rfl, h2, h3, h4⟩
  have HBAD : Hid (∀ V pl (E : Nat), omR (b.drop q) 512 B1 l0 = .bad pl E → Fr (fun k => k = rb) w V → Alv rb va vc b vG V → P (gvR ((q + pl : Nat) : Int) (E : Nat)) V) := fun V pl E h1 h2 h3 => by
   rw [hP, h1]; exact .inr ⟨(by first | rfl | trivial), rfl, h2, h3⟩
  have HST : Hid (∃ og, OgR RG og (.slice a1 m1 c1) l0 w2 ∧ ∀ g, og = some g → w.heap.size ≤ g) := by
   obtain ⟨og, k1, k2⟩ := HG1.out;exact ⟨og, k1, fun g hg => by have := k2 g hg; have := HN0.out.size; omega⟩
  have HR0 : Hid (Rm Y rb va vc b (q + 512) vG G w2) := HM0.out.nw HK1.out;have HF0 : Hid (Fr (fun k => k = rb) w w2) := (HN0.out.trans HK1.out).any;have hbl := h.bl;have HRm0 := tHid h;clear hP hl0 HB1 HN1 HG1 HM0 HRO HRng HRI HX HMu x5 hCA hCR hRl h;obtain ⟨L, hL⟩ : ∃ L, b.length = L := ⟨_, rfl⟩;have HL := tHid hL
  go_loopg [6, 8] L (fun kx v f wr => ∃ (o : Nat) (l : List Rg) (more : Bool) (a : Option Addr) (c : Nat), 512 ≤ o ∧ q + o ≤ L ∧ L - (q + o) ≤ kx ∧ v = .slice a l.length c ∧ f = .bool more ∧ Hid (omR (b.drop q) 512 B1 l0 = omR (b.drop q) o more l ∧ Rm Y rb va vc b (q + o) vG G wr ∧ Fr (fun k => k = rb) w wr ∧ (∃ og, OgR RG og (.slice a l.length c) l wr ∧ ∀ g, og = some g → w.heap.size ≤ g) ∧ 512 * l.length ≤ 21 * o))
  case atStart =>
   obtain ⟨og, k1, k2⟩ := HST.out;obtain ⟨a', c', e', _⟩ := k1.form;injection e' with e1 e2 e3;subst e1 e2 e3;exact ⟨512, l0, B1, _, _, by omega, by omega, by omega, rfl, rfl, rfl, HR0.out, HF0.out, ⟨og, k1, k2⟩, by omega⟩
  case round =>
   obtain ⟨o, l, more, a, c, ho, hqo, hkx, rfl, rfl, HI⟩ := hrel;obtain ⟨wA, hwA⟩ : ∃ z, z = wr := ⟨_, rfl⟩;subst hwA;cases more with
   | false =>
    have HE := tHid (HOK.out wA l o (.slice a l.length c) (by rw [HI.out.1, omR, if_neg (by decide)]) HI.out.2.2.1 HI.out.2.1 HI.out.2.2.2.1);clear HI HOK HBAD HST HR0 HF0
    go_wp2_with fail
    exact HE.out
   | true =>
    have HRc := tHid (qrecord_any HI.out.2.1);unfold RcA at HRc;by_cases hsh : b.length < q + o + 512
    ·have hom : omR (b.drop q) 512 B1 l0 = .bad (b.length - q) 4 := by
      rw [HI.out.1, omR, if_pos rfl, dif_pos (by rw [HLn.out]; omega), HLn.out]
     have HE : Hid (∀ V, Nw wA V → P (gvR (L : Nat) 4) V) := fun V hV => by
      have := HBAD.out V _ _ hom (HI.out.2.2.1.trans hV.any) (HI.out.2.1.nw hV).alv;have e : q + (b.length - q) = L := by have := HL.out; omega
      rw [e] at this;exact this
     have hsh2 := tHid hsh;clear HI HOK HBAD HST HR0 HF0 hom hsh;go_upto_region 6 with fail;go_at_call 33;with_reducible refine HRc.out.mono ?_
     rintro e w3 (⟨_, rfl, K3⟩ | ⟨hx, _, _⟩)
     ·have HE3 := tHid (HE.out w3 K3);clear K3
      go_wp2_with fail
      exact ⟨rfl, HE3.out⟩
     ·exact absurd hx (by have := hsh2.out; have := HL.out; omega)
    ·obtain ⟨R2, hR2⟩ : ∃ R2, fd b (q + o) 512 = R2 := ⟨_, rfl⟩;have hR2l : R2.length = 512 := by rw [← hR2]; exact fd_length b (q + o) 512 (by omega)
     have hfd : fd (b.drop q) o 512 = R2 := by rw [fd_drop]; exact hR2
     rw [hR2] at HRc;have HRM : Hid (∀ V, Calls Tryz.prog 118 #[.agg (rc R2)] V (RmA V R2)) := fun V => readMore_any V R2 hR2l
     unfold RmA at HRM;obtain ⟨EM, hEM⟩ : ∃ EM, (rdO R2 21 0 []).2 = EM := ⟨_, rfl⟩;rw [hEM] at HRM;have hsh2 := tHid hsh;by_cases hme : EM = 0
     ·subst hme;have hlM : (rgL (rdO R2 21 0 []).1).length ≤ 21 := by
       unfold rgL; rw [List.length_map];have := rdO_le R2 21 0 []
       simpa using this
      obtain ⟨lM, hlMe⟩ : ∃ lM, rgL (rdO R2 21 0 []).1 = lM := ⟨_, rfl⟩;obtain ⟨BM, hBM⟩ : ∃ BM, decide (R2.getD 504 0 ≠ 0#8) = BM := ⟨_, rfl⟩;have hom : omR (b.drop q) 512 B1 l0 = omR (b.drop q) (o + 512) BM (l ++ lM) := by
       rw [HI.out.1, omR, if_pos rfl, dif_neg (by rw [HLn.out]; omega), hfd, if_neg (by rw [hEM]; simp), hlMe, hBM]
      rw [hlMe] at HRM hlM;rw [hBM] at HRM;have HMb := tHid (qmust_ok ((q + o : Nat) : Int));have HRmA := tHid HI.out.2.1;have HFrA := tHid HI.out.2.2.1;have HOgA := tHid HI.out.2.2.2.1;have hll := HI.out.2.2.2.2;have HOM := tHid hom;obtain ⟨qo, hqoE⟩ : ∃ qo, q + o = qo := ⟨_, rfl⟩;rw [hqoE] at HRc HMb HRmA hsh2;have hqo5 : qo + 512 ≤ b.length := by omega
      have HCl : Hid (∀ V, Fr (fun k => k ≠ rb) wA V → V.cell? ⟨rb, 1, none⟩ = some (.int .i64 (qo : Nat)) ∧ V.frozen? ⟨rb, 1, none⟩ = false) := fun V hV => by
       have hrow := cell_kept hV HRmA.out.row (by simp);exact ⟨cell_of hrow 1 _ rfl, row_froz hrow 1 _ rfl⟩
      clear HI HOK HBAD HST HR0 HF0 hom hsh hR2 hfd hEM hlMe hBM;go_upto_region 6 with fail;go_at_call 33;with_reducible refine HRc.out.mono ?_
      rintro e w3 (⟨hx, _, _⟩ | ⟨_, rfl, K3⟩)
      ·exact absurd hx hsh2.out
      have HK3 := tHid K3;clear K3;go_upto_region 6 with (first
       | (go_at_call 118; with_reducible refine (HRM.out _).mono ?_; rintro e w4 ⟨a4, m4, c4, B4, rfl, K4⟩))
      obtain ⟨n4, k4, _⟩ := K4.out;obtain ⟨g4, hB4⟩ := k4 (by first | rfl | trivial);obtain rfl : B4 = BM := hB4;have HK4 := tHid (HK3.out.trans n4);have hOg4 : ∃ og, OgR RG og (.slice a l.length c) l w4 ∧ ∀ g, og = some g → w.heap.size ≤ g := by
       obtain ⟨og, j1, j2⟩ := HOgA.out;exact ⟨og, j1.nw HK4.out, j2⟩
      obtain ⟨og, j1, j2⟩ := hOg4;have hlb : l.length ≤ 6000000000000 := l_bound _ o hll (by omega);obtain ⟨v6, og6, W6, HA6, o6, f6, went6⟩ := ogR_app rgOk w4 og _ l j1 (.slice a4 m4 c4) lM g4.slr (app_bound _ _ hlb hlM) (Nat.le_trans (Nat.add_le_add hlb hlM) (by decide));obtain ⟨a6, c6, rfl, _, _⟩ := o6.form;have hrbO : ∀ g, og = some g → g ≠ rb := fun g hg e => by have := j2 g hg; have := HRm0.out.lt; omega
      have hr4 : w4.heap[rb]? = some (.cells #[.slice va b.length vc, .int .i64 (qo : Nat), vG, .int .i64 0] 51) := (HRmA.out.nw HK4.out).row;have hr6 : W6.heap[rb]? = some (.cells #[.slice va b.length vc, .int .i64 (qo : Nat), vG, .int .i64 0] 51) := cell_kept f6 hr4 (fun e => hrbO rb e rfl);have fw4 : Fr (fun k => k = rb) w w4 := HFrA.out.trans HK4.out.any;have fw6 : Fr (fun k => k = rb) w W6 := fw4.then f6 (fun i hi => .inr (j2 i hi));obtain ⟨Q5, hQ5⟩ : ∃ Q5, qo + 512 = Q5 := ⟨_, rfl⟩;have d5 : (qo : Int) + 512 = (Q5 : Int) := by omega
      have kw5 : wrap64 (Q5 : Int) = (Q5 : Int) := by unfold wrap64; omega
      have c1 : W6.cell? ⟨rb, 1, none⟩ = some (.int .i64 (qo : Nat)) := cell_of hr6 1 _ rfl;have c2 := row_froz hr6 1 _ rfl;have x4 : w4.cell? ⟨rb, 1, none⟩ = some (.int .i64 (qo : Nat)) := cell_of hr4 1 _ rfl;obtain ⟨W7, hW7⟩ : ∃ W7, W6.setCell ⟨rb, 1, none⟩ (.int .i64 (Q5 : Nat)) = W7 := ⟨_, rfl⟩;have f67 : Fr (fun k => k = rb) W6 W7 := by rw [← hW7]; exact (Fr.refl _ _).setCell _ _ (.inl rfl)
      have hr7 : W7.heap[rb]? = some (.cells #[.slice va b.length vc, .int .i64 (Q5 : Nat), vG, .int .i64 0] 51) := by
       rw [← hW7]; exact row_setN hr6 1 (.int .i64 (Q5 : Nat))
      have fw7 : Fr (fun k => k = rb) w W7 := fw6.trans f67;have hQ5l : Q5 ≤ b.length := by rw [← hQ5]; exact hqo5
      have HRm7 := tHid (HRm0.out.at_ fw7 Q5 hQ5l hr7);have og6lt : ∀ g, og6 = some g → w.heap.size ≤ g := fun g hg => by
       rcases went6 with h1 | ⟨g', h1, h2⟩
       ·exact j2 g (by rw [← h1]; exact hg)
       ·rw [h1] at hg; injection hg with hg; have := fw4.size; omega
      have HO7 : Hid (∃ og, OgR RG og (.slice a6 (l ++ lM).length c6) (l ++ lM) W7 ∧ ∀ g, og = some g → w.heap.size ≤ g) := ⟨og6, o6.kept f67 (fun g hg e => by have := og6lt g hg; have := HRm0.out.lt; omega), og6lt⟩;have HF7 := tHid fw7;obtain ⟨nl, hnl⟩ : ∃ nl, (l ++ lM).length = nl := ⟨_, rfl⟩;have HA : Hid (∀ ty, (Builtin.append_ #[33, 33] ty #[.slice a l.length c, .slice a4 m4 c4]).run Tryz.prog w4 = .ok (.slice a6 nl c6) W6) := by rw [← hnl]; exact HA6
      have HNL := tHid hnl;have hll2 : 512 * (l ++ lM).length ≤ 21 * (o + 512) := by rw [List.length_append]; exact l_next _ _ o hll hlM
      have hq7 : q + (o + 512) = Q5 := by omega
      have hl7 := tHid hll2;have hL7 : Q5 ≤ L := by rw [← HL.out]; exact hQ5l
      have HMS : Hid (∀ kx, L - (q + o) ≤ kx → L - Q5 < kx) := fun kx h1 => meas16 L qo Q5 kx (by rw [← hqoE]; exact h1) hQ5 hL7
      have HQ7 := tHid hq7;have HL7 := tHid hL7;generalize l.length = nL at *;clear K4 n4 k4 g4 j1 j2 o6 f6 went6 hr4 hr6 fw4 fw6 f67 hr7 fw7 og6lt HCl HRM HRc HA6 hrbO hll2 hnl hq7 hL7 hlb hll hlM hqo5 hQ5 hqoE hQ5l;go_upto_region 7 with (first
       | (go_at_call 52; with_reducible refine (HMb.out _).mono ?_; rintro e w5 ⟨rfl, rfl⟩))
      have HKX := tHid hkx;go_upto_region 8 with (first
       | (at_builtin; refine Lib.wpList_append_run _ rfl _ _ 33 33 rfl (.slice a nL c) (.slice a4 m4 c4) (by first | rfl | simp [Act.eval]) (by first | rfl | simp [Act.eval]) _ _ (HA.out _) ?_))
      clear ho hqo hkx hbl hL
      go_wp2_with fail
      go_roundg (L - Q5)
      case measure => exact HMS.out _ HKX.out
      case rel => exact ⟨o + 512, l ++ lM, B4, a6, c6, Nat.le_add_left _ _, by rw [HQ7.out]; exact HL7.out, by rw [HQ7.out]; exact Nat.le_refl _, by rw [HNL.out], rfl, HOM.out, by rw [HQ7.out]; exact HRm7.out, HF7.out, HO7.out, hl7.out⟩
     ·have hei : ¬ (EM : Int) = 0 := by omega
      have hom : omR (b.drop q) 512 B1 l0 = .bad o EM := by
       rw [HI.out.1, omR, if_pos rfl, dif_neg (by rw [HLn.out]; omega), hfd, if_pos (by rw [hEM]; exact hme), hEM]
      have HE : Hid (∀ V, Nw wA V → P (gvR ((q + o : Nat) : Int) (EM : Nat)) V) := fun V hV => HBAD.out V _ _ hom (HI.out.2.2.1.trans hV.any) (HI.out.2.1.nw hV).alv
      have HMb := tHid (qmust_bad ((q + o : Nat) : Int) (EM : Nat) hei);have HCl : Hid (∀ V, Nw wA V → V.cell? ⟨rb, 1, none⟩ = some (.int .i64 ((q + o : Nat) : Int))) := fun V hV => ((HI.out.2.1.nw hV).cells).2.1
      clear HI HOK HBAD HST HR0 HF0 hom hsh hR2 hfd hEM hme hei;generalize q + o = qo at *;go_upto_region 6 with fail;go_at_call 33;with_reducible refine HRc.out.mono ?_
      rintro e w3 (⟨hx, _, _⟩ | ⟨_, rfl, K3⟩)
      ·exact absurd hx hsh2.out
      have HK3 := tHid K3;clear K3;go_upto_region 6 with (first
       | (go_at_call 118; with_reducible refine (HRM.out _).mono ?_; rintro e w4 ⟨a4, m4, c4, B4, rfl, K4⟩))
      have HK4 := tHid (HK3.out.trans K4.out.1);have x1 := HCl.out w4 HK4.out;clear K4
      go_wp2_with (first
       | (go_at_call 52; with_reducible refine (HMb.out _).mono ?_; rintro e w5 ⟨rfl, rfl⟩))
      exact ⟨rfl, HE.out _ HK4.out⟩
 ·have hei : ¬ (E0 : Int) = 0 := by omega
  have HMu := tHid (qmust_bad (q : Nat) (E0 : Nat) hei);have HF : Hid (∀ V, Nw w V → P (gvR (q : Nat) (E0 : Nat)) V) := fun V hV => by rw [hP]; exact .inl ⟨he, rfl, hV⟩
  clear hP he hei h;go_enter Tryz.func92, Tryz.ntmps92;go_upto_region 1 with fail;rw [HW0.out];go_upto_region 2 with (first
   | (refine wpList_load_mid rfl 58 _ rfl hb 14 (by first | rfl | simp [Act.eval]) CR _ HRng.out Tryz.underlying58 rfl HRI.out ?_)
   | (go_at_call 117; with_reducible refine (HRO.out _).mono ?_; rintro e w1 ⟨a1, m1, c1, B1, N1, rfl, K1⟩))
  have x5 := HX.out w1 K1.out.1
  go_wp2_with (first
   | (go_at_call 52; with_reducible refine (HMu.out _).mono ?_; rintro e w2 ⟨rfl, rfl⟩))
  exact ⟨rfl, HF.out _ (HN0.out.trans K1.out.1)⟩
end Go.Proofs.YtlenihpbhlfcoaaGreatDoor

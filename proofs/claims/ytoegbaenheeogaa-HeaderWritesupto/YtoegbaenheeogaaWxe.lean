import Derived.Test.YtoegbaenheeogaaWxd
import Derived.Deep.RegionHeld3
import Derived.Deep.MidRow
import Derived.Test.YtoegbaenheeogaaNhH
import Derived.Test.YtoegbaenheeogaaNfZ
namespace Go.Proofs.Ytoegbaenheeogaa
open Go.RowKit
set_option linter.unusedVariables false
set_option linter.unusedSimpArgs false
/-! ### The document's Encode, walked -/
def txC (h : Hr) : Array Value := #[.string h.name, .string h.link, .string h.user, .string h.group, .string h.pfx]
def txP : Array Value := #[.int .i64 0, .int .i64 100, .int .i64 157, .int .i64 100, .int .i64 265, .int .i64 32, .int .i64 297, .int .i64 32, .int .i64 345, .int .i64 155]
theorem txC_at (h : Hr) (I o n : Nat) (s : ByteArray) (hi : h.ts[I]? = some (o, n, s)) : (txC h)[I]? = some (.string s) := by
  have h5 : I < 5 := (List.getElem?_eq_some_iff.1 hi).1
  rcases five h5 with rfl | rfl | rfl | rfl | rfl <;>
  · simp only [Hr.ts, List.getElem?_cons_zero, List.getElem?_cons_succ, Option.some.injEq, Prod.mk.injEq] at hi
    obtain ⟨rfl, rfl, rfl⟩ := hi
    rfl
theorem txP_at (I o n : Nat) (hi : tF[I]? = some (o, n)) : txP[I * 2]? = some (.int .i64 (o : Nat)) ∧ txP[I * 2 + 1]? = some (.int .i64 (n : Nat)) := by
  have h5 : I < 5 := (List.getElem?_eq_some_iff.1 hi).1
  rcases five h5 with rfl | rfl | rfl | rfl | rfl <;>
  · simp only [tF, List.getElem?_cons_zero, List.getElem?_cons_succ, Option.some.injEq, Prod.mk.injEq] at hi
    obtain ⟨rfl, rfl⟩ := hi
    exact ⟨rfl, rfl⟩
theorem nF_lt (f J N o n : Nat) (bl : Bool) (hF : isF f) (hN : (if f = 1 then 5 else 7 : Nat) = N) (hJ : J < N) (h : nF[J]? = some (o, n, bl)) : o < fE f := by
  have h7 : J < 7 := by
    have : (if f = 1 then 5 else 7 : Nat) ≤ 7 := by split <;> omega
    omega
  rcases sevenN h7 with rfl | rfl | rfl | rfl | rfl | rfl | rfl <;>
  · simp only [nF, List.getElem?_cons_zero, List.getElem?_cons_succ, Option.some.injEq, Prod.mk.injEq] at h
    obtain ⟨rfl, _, _⟩ := h
    rcases hF with rfl | rfl | rfl <;> simp [fE] at hN ⊢ <;> omega
set_option maxHeartbeats 16000000 in
set_option maxRecDepth 100000 in
theorem wencode_any (h : Hr) (ok : h.Ok) (w : World) (hs : h.name.size + h.link.size + h.user.size + h.group.size + h.pfx.size ≤ 140737488351232) :
    Calls Try.prog 7 #[.agg h.C] w fun e w' => e = .returned (.tuple #[.agg (rc (encR h)), .int .i64 (encE h : Nat)]) ∧ Nw w w' := by
  obtain ⟨P, hP⟩ : ∃ P : Ending → World → Prop, P = fun e w' => e = .returned (.tuple #[.agg (rc (encR h)), .int .i64 (encE h : Nat)]) ∧ Nw w w' := ⟨_, rfl⟩
  rw [← hP]
  have HF : Hid (∀ W b E, Nw w W → encR h = b → encE h = E → P (.returned (.tuple #[.agg (rc b), .int .i64 (E : Nat)])) W) := fun W b E hW hb hE => by rw [hP, ← hb, ← hE]; exact ⟨rfl, hW⟩
  clear hP
  obtain ⟨hb, hhb⟩ : ∃ hb, w.heap.size = hb := ⟨_, rfl⟩
  obtain ⟨qb, hqb⟩ : ∃ qb, hb + 1 = qb := ⟨_, rfl⟩
  obtain ⟨rb, hrb⟩ : ∃ rb, qb + 1 = rb := ⟨_, rfl⟩
  obtain ⟨W0, hW0⟩ : ∃ W0, (w.alloc (.cells h.C 23)).alloc (.cells Try.zeroCells24 24) = W0 := ⟨_, rfl⟩
  have s1 : (w.alloc (.cells h.C 23)).heap.size = w.heap.size + 1 := by simp
  have s2 : W0.heap.size = rb := by rw [← hW0]; simp; omega
  have hN0 : Nw w W0 := by rw [← hW0]; exact ((Fr.refl _ _).alloc _).alloc _
  have hH0 : HcH hb h W0 := by rw [← hW0, ← hhb]; exact Nw.heap ((Fr.refl _ _).alloc _) (newHeap _ _)
  have hQ0 : RcH qb zrec W0 := by
    rw [← hW0, ← hqb, ← hhb, ← s1]
    unfold RcH
    rw [← zrec_rc]
    exact newHeap _ _
  obtain ⟨W1, hW1⟩ : ∃ W1, (W0.alloc (.cells Try.zeroCells24 24)).setRow rb (rc zrec) = W1 := ⟨_, rfl⟩
  have hb0 : (W0.alloc (.cells Try.zeroCells24 24)).heap[rb]? = some (.cells Try.zeroCells24 24) := by rw [← s2]; exact newHeap _ _
  have hR1 : RcH rb zrec W1 := by rw [← hW1]; exact setRow_heap _ _ _ _ 24 _ hb0
  have k1 : Nw W0 W1 := by rw [← hW1]; exact ((Fr.refl _ _).alloc _).setRow _ _ (.inr (by omega))
  have HN1 : Hid (Nw w W1) := hN0.trans k1
  have HH1 : Hid (HcH hb h W1) := Nw.heap k1 hH0
  have HQ1 : Hid (RcH qb zrec W1) := hQ0.kept k1 (fun h => h)
  have HR1 := tHid hR1
  have HW0 := tHid hW0
  have HW1 := tHid hW1
  have HB0 := tHid hb0
  have hzf := rz_facts zrec zrec_length
  have Z1 := tHid hzf.1
  have Z2 := tHid hzf.2.1
  have Z3 := tHid hzf.2.2
  have hzz : Try.zeroCells24 = rc zrec := zrec_rc
  have HSZ := tHid hcSize
  clear hW0 hW1 hQ0 hH0 hR1 k1 hN0 hb0 s1 hzf
  rw [hzz] at HW0 HB0 HW1 Z2
  have HEND : Hid (∀ (W : World) (b : List By) (E : Nat), Nw w W → RcH qb zrec W → b.length = 512 → encR h = b → encE h = E → ∃ W5, W.setRow qb (rc b) = W5 ∧ (Try.prog.info? 24).map (·.size) = some (rc b).size ∧ W.heap[qb]? = some (.cells (rc zrec) 24) ∧ (rc zrec).size = (rc b).size ∧ (rc b).all (·.oneCell') = true ∧ Hid (∀ tmps : Array Value, tmps.getD 2 undef = .pointer (some ⟨qb, 0, none⟩) → tmps.getD 3 undef = .int .i64 (E : Nat) → bodyPost Try.prog Try.f7 P .ret ⟨tmps, []⟩ W5)) := fun W b E hW hq hbl hR hE => by
    refine ⟨_, rfl, rc_info b hbl, hq, by rw [rc_size, rc_size, zrec_length, hbl], rc_one b, fun tmps h4 h5 => ?_⟩
    have hq5 : (W.setRow qb (rc b)).heap[qb]? = some (.cells (rc b) 24) := setRow_heap _ _ _ _ 24 _ hq
    refine bodyPost_ret (v := .tuple #[.agg (rc b), .int .i64 (E : Nat)]) ?_ rfl (HF.out _ b E ?_ hR hE)
    · rw [results_cell_tmp rfl]
      show ((asAddr (tmps.getD 2 undef)).run Try.prog _).andThen _ = _
      rw [h4]
      simp only [asAddr, Sem.run_pure, Result.andThen_ok, run_loadVar_row _ qb 24 24 (rc b) (0, 0) _ hq5 Try.underlying24 rfl (rc_info b hbl), h5]
    · exact Fr.then hW ((Fr.refl _ _).setRow qb _ (.inl rfl) : Fr (fun k => k = qb) W _) (fun i hi => .inr (by omega))
  have HCAN : Hid (Calls Try.prog 21 #[.agg h.C] W1 fun e w' => e = .returned (.bool h.canV) ∧ Hid (Nw W1 w')) := wcan_any h W1 hs
  go_enter Try.func7, Try.ntmps7
  go_upto_region 1 with fail
  rw [HW0.out]
  go_upto_region 2 with (first
    | (refine wpList_store_row rfl 24 _ _ rfl rb (rc zrec) (by first | rfl | simp [Act.eval]) (by first | rfl | simp [Act.eval]) 24 _ HB0.out Z1.out (by first | exact Z2.out | rfl) Z3.out ?_; rw [HW1.out]))
  clear HW0 HW1 HB0
  cases hcv : h.canV with
  | false =>
    rw [hcv] at HCAN
    obtain ⟨eE, eR⟩ := enc_cant h hcv
    go_upto_region 3 with (first
      | (refine wpList_load_row rfl 23 _ rfl hb (by first | rfl | simp [Act.eval]) 23 h.C (0, 0) _ HH1.out Try.underlying23 rfl (HSZ.out h) ?_)
      | (go_at_call 21; with_reducible refine HCAN.out.mono ?_; rintro e w2 ⟨rfl, K2⟩))
    have HQ2 : Hid (RcH qb zrec w2) := HQ1.out.kept K2.out (fun h => h)
    have HR2 : Hid (RcH rb zrec w2) := HR1.out.kept K2.out (fun h => h)
    obtain ⟨W5, e5, y1, y2, y3, y4, HE⟩ := HEND.out w2 zrec 1 (HN1.out.trans K2.out) HQ2.out zrec_length eR eE
    have Y1 := tHid y1
    have Y2 := tHid y2
    have Y3 := tHid y3
    have Y4 := tHid y4
    clear y1 y2 y3 y4 HEND HF
    go_wp2_with (first
      | (refine wpList_load_row rfl 24 _ rfl rb (by first | rfl | simp [Act.eval]) 24 _ (0, 0) _ HR2.out Try.underlying24 rfl Y1.out ?_)
      | (refine wpList_store_row rfl 24 _ _ rfl qb (rc zrec) (by first | rfl | simp [Act.eval]) (by first | rfl | simp [Act.eval]) 24 _ Y2.out Y1.out Y3.out Y4.out ?_; rw [e5]))
    (try simp only [Exit.inBlock, Exit.then])
    exact HE.out _ rfl rfl
  | true =>
    rw [hcv] at HCAN
    go_upto_region 4 with (first
      | (refine wpList_load_row rfl 23 _ rfl hb (by first | rfl | simp [Act.eval]) 23 h.C (0, 0) _ HH1.out Try.underlying23 rfl (HSZ.out h) ?_)
      | (go_at_call 21; with_reducible refine HCAN.out.mono ?_; rintro e w2 ⟨rfl, K2⟩))
    have HQ2 : Hid (RcH qb zrec w2) := HQ1.out.kept K2.out (fun h => h)
    have HR2 : Hid (RcH rb zrec w2) := HR1.out.kept K2.out (fun h => h)
    have HH2 : Hid (HcH hb h w2) := Nw.heap K2.out HH1.out
    have HN2 : Hid (Nw w w2) := HN1.out.trans K2.out
    clear K2 HQ1 HR1 HH1 HN1 HCAN
    have c8 : w2.cell? ⟨hb, 8, none⟩ = some (.int .u8 h.typ.toNat) := cell_of HH2.out 8 _ rfl
    by_cases ht : h.typ = 0#8
    · obtain ⟨eE, eR⟩ := enc_type h hcv ht
      obtain ⟨W5, e5, y1, y2, y3, y4, HE⟩ := HEND.out w2 zrec 132 HN2.out HQ2.out zrec_length eR eE
      have Y1 := tHid y1
      have Y2 := tHid y2
      have Y3 := tHid y3
      have Y4 := tHid y4
      have ht0 : h.typ.toNat = 0 := by rw [ht]; rfl
      rw [ht0] at c8
      clear y1 y2 y3 y4 HEND HF ht ht0
      go_wp2_with (first
        | (refine wpList_load_row rfl 24 _ rfl rb (by first | rfl | simp [Act.eval]) 24 _ (0, 0) _ HR2.out Try.underlying24 rfl Y1.out ?_)
        | (refine wpList_store_row rfl 24 _ _ rfl qb (rc zrec) (by first | rfl | simp [Act.eval]) (by first | rfl | simp [Act.eval]) 24 _ Y2.out Y1.out Y3.out Y4.out ?_; rw [e5]))
      (try simp only [Exit.inBlock, Exit.then])
      exact HE.out _ rfl rfl
    · have ht0 : ¬ h.typ.toNat = 0 := fun e => ht (BitVec.eq_of_toNat_eq e)
      have ht1 : ((h.typ.toNat : Int) == 0) = false := by rw [beq_eq_false_iff_ne]; omega
      have c1 : w2.cell? ⟨hb, 1, none⟩ = some (.string h.name) := cell_of HH2.out 1 _ rfl
      have c9 : w2.cell? ⟨hb, 9, none⟩ = some (.string h.link) := cell_of HH2.out 9 _ rfl
      have c10 : w2.cell? ⟨hb, 10, none⟩ = some (.string h.user) := cell_of HH2.out 10 _ rfl
      have c11 : w2.cell? ⟨hb, 11, none⟩ = some (.string h.group) := cell_of HH2.out 11 _ rfl
      have c2 : w2.cell? ⟨hb, 2, none⟩ = some (.string h.pfx) := cell_of HH2.out 2 _ rfl
      obtain ⟨tb, htb⟩ : ∃ tb, w2.heap.size = tb := ⟨_, rfl⟩
      obtain ⟨pb, hpb⟩ : ∃ pb, tb + 1 = pb := ⟨_, rfl⟩
      obtain ⟨W3, hW3⟩ : ∃ W3, (w2.alloc (.cells (txC h) 9)).alloc (.cells txP 50) = W3 := ⟨_, rfl⟩
      have s3 : (w2.alloc (.cells (txC h) 9)).heap.size = tb + 1 := by rw [← htb]; simp
      have k3 : Nw w2 W3 := by rw [← hW3]; exact ((Fr.refl _ _).alloc _).alloc _
      have HT3 : Hid (W3.heap[tb]? = some (.cells (txC h) 9)) := by
        have : W3.heap[tb]? = some (.cells (txC h) 9) := by rw [← hW3, ← htb]; exact Nw.heap ((Fr.refl _ _).alloc _) (newHeap _ _)
        exact this
      have HP3 : Hid (W3.heap[pb]? = some (.cells txP 50)) := by
        have : W3.heap[pb]? = some (.cells txP 50) := by rw [← hW3, ← hpb, ← s3]; exact newHeap _ _
        exact this
      have HN3 : Hid (Nw w W3) := HN2.out.trans k3
      have HH3 : Hid (HcH hb h W3) := Nw.heap k3 HH2.out
      have HQ3 : Hid (RcH qb zrec W3) := HQ2.out.kept k3 (fun h => h)
      have HR3 : Hid (RcH rb zrec W3) := HR2.out.kept k3 (fun h => h)
      have HRL : Hid (rb < tb) := by have := HR2.out.lt; show rb < tb; omega
      have HW3 := tHid hW3
      unfold txC txP at HW3
      go_upto_region 10 with fail
      rw [HW3.out]
      clear HW3 hW3 k3 s3 c1 c9 c10 c11 c2 c8 HH2 HQ2 HR2 HN2
      obtain ⟨hF, hform⟩ := canV_form h hcv
      obtain ⟨hfm0, hcan⟩ := canV_to h hcv
      obtain ⟨f, hf⟩ : ∃ f, h.fm = f := ⟨_, rfl⟩
      rw [hf] at hF hform hcan
      go_loopg [5, 8] 5 (fun kx x v wr => ∃ (I : Nat) (b : Bool) (R : List By), I ≤ 5 ∧ 5 - I ≤ kx ∧ x = .bool b ∧ v = .int .i64 (I : Int) ∧ Hid (EI h f I 0 b R ∧ RcH rb R wr ∧ Fr (fun k => k = rb) W3 wr))
      case atStart => exact ⟨0, true, zrec, by omega, by omega, rfl, rfl, EI.start h f, HR3.out, Fr.refl _ _⟩
      case round =>
        obtain ⟨I, b, R, hI, hkx, rfl, rfl, HI⟩ := hrel
        by_cases hlt : I < 5
        · have hltI : (I : Int) < 5 := by omega
          obtain ⟨o, n, sl, k, φ, s, T⟩ := trow h I hlt
          have hp := txP_at I o n T.t
          have htx := txC_at h I o n s T.ts
          have ct : wr.cell? ⟨tb, I, none⟩ = some (.string s) := cell_of (cell_kept HI.out.2.2 HT3.out (by have := HRL.out; omega)) I _ htx
          have cp0 : wr.cell? ⟨pb, I * 2, none⟩ = some (.int .i64 (o : Nat)) := cell_of (cell_kept HI.out.2.2 HP3.out (by have := HRL.out; omega)) _ _ hp.1
          have cp1 : wr.cell? ⟨pb, I * 2 + 1, none⟩ = some (.int .i64 (n : Nat)) := cell_of (cell_kept HI.out.2.2 HP3.out (by have := HRL.out; omega)) _ _ hp.2
          have hse := eS_beq s
          by_cases he : s = eS
          · rw [decide_eq_true he] at hse
            subst he
            have HNX : Hid (EI h f (I + 1) 0 b R ∧ RcH rb R wr ∧ Fr (fun k => k = rb) W3 wr) := ⟨HI.out.1.skip ok T, HI.out.2⟩
            clear HI T hp htx cp0 cp1
            go_wp2_with fail
            go_roundg (5 - (I + 1))
            case measure => omega
            case rel => exact ⟨I + 1, b, R, by omega, by omega, rfl, by first | rfl | (congr 1), HNX⟩
          · rw [decide_eq_false he] at hse
            have ho : o < fE f := (can_t h f I o n s hcan T.ts).2.resolve_left he
            have HNX := tHid (HI.out.1.text ok T ho)
            have HSL : Hid (pxE s n = 0 → (pxL s n).length = n ∧ o + n ≤ 512) := fun hE => ⟨px_length s n hE, T.on⟩
            have HTX : Hid (Calls Try.prog 22 #[.string s, .int .i64 (n : Nat)] wr.drew fun e w' => ∃ a m c, e = .returned (.tuple #[.slice a m c, .bool (decide (pxE s n = 0))]) ∧ (w'.cell? ⟨tb, I, none⟩ = some (.string s) ∧ w'.cell? ⟨pb, I * 2 + 1, none⟩ = some (.int .i64 (n : Nat))) ∧ Hid (Nw wr w' ∧ (pxE s n = 0 → Old w' (.slice a m c) (pxL s n)))) := by
              refine (wtext_any s n wr.drew (ts_size h ok I o n s T.ts)).mono ?_
              rintro e w' ⟨a, m, c, rfl, K⟩
              have kd : Nw wr wr.drew := (Fr.refl _ _).drew
              have kk := kd.trans K.out.1
              exact ⟨a, m, c, rfl, ⟨cell_of (Nw.heap kk (cell_kept HI.out.2.2 HT3.out (by have := HRL.out; omega))) I _ htx, cell_of (Nw.heap kk (cell_kept HI.out.2.2 HP3.out (by have := HRL.out; omega))) _ _ hp.2⟩, kk, fun q => K.out.2 (decide_eq_true q)⟩
            have HI2 : Hid (RcH rb R wr ∧ Fr (fun k => k = rb) W3 wr) := HI.out.2
            have hRl0 := HI.out.1.len
            have HPQ := tHid hp.1
            clear HI T hp htx
            go_upto_region 13 with fail
            go_region_held3 (fun w' => w'.cell? ⟨tb, I, none⟩ = some (.string s) ∧ w'.cell? ⟨pb, I * 2 + 1, none⟩ = some (.int .i64 (n : Nat)))
              (first | assumption | exact ⟨ct, cp1⟩)
              (first | (go_at_call 22; with_reducible refine HTX.out.mono ?_; rintro e w4 ⟨a, m, c, rfl, k4, K4⟩))
            by_cases hE : pxE s n = 0
            · rw [if_pos hE, decide_eq_true hE, Bool.and_true] at HNX
              rw [decide_eq_true hE]
              have hOL := K4.out.2 hE
              obtain ⟨hml, _, _⟩ := slx_lenH hOL
              obtain ⟨L, hL⟩ : ∃ L, pxL s n = L := ⟨_, rfl⟩
              have hoL : o + L.length ≤ 512 := by rw [← hL, (HSL.out hE).1]; exact (HSL.out hE).2
              rw [hL] at hOL hml HNX
              clear HSL
              subst hml
              have hRl : R.length = 512 := hRl0
              have fw4 : Fr (fun k => k = rb) W3 w4.drew := (Fr.then HI2.out.2 K4.out.1 (fun i hi => hi.elim)).drew
              have HS16 : Hid (Fr (fun k => k = rb) W3 w4.drew ∧ w4.drew.cell? ⟨pb, I * 2, none⟩ = some (.int .i64 (o : Nat))) := ⟨fw4, Nw.cell K4.out.1 cp0⟩
              have HD16 : Hid (RcH rb R w4.drew) := HI2.out.1.kept (K4.out.1.drew) (fun h => h)
              have HI16 := tHid (rc_info R hRl)
              obtain ⟨C6, hC6⟩ : ∃ C6, rc (pt R o L) = C6 := ⟨_, rfl⟩
              have hpl : (pt R o L).length = 512 := by rw [pt_length _ _ _ (by omega)]; exact hRl
              have HN16 : Hid ((Try.prog.info? 24).map (·.size) = some C6.size ∧ (rc R).size = C6.size ∧ C6.all (·.oneCell') = true) := by
                rw [← hC6]
                exact ⟨rc_info _ hpl, by rw [rc_size, rc_size, hRl, hpl], rc_one _⟩
              have HP16 : Hid (Calls Try.prog 23 #[.agg (rc R), .int .i64 (o : Nat), .slice a L.length c] w4.drew fun e V' => e = .returned (.agg C6) ∧ ∃ W6, V'.setRow rb C6 = W6 ∧ Hid ((Fr (fun k => k = rb) W3 V' ∧ V'.cell? ⟨pb, I * 2, none⟩ = some (.int .i64 (o : Nat))) ∧ RcH rb R V' ∧ (Fr (fun k => k = rb) W3 W6 ∧ W6.cell? ⟨pb, I * 2, none⟩ = some (.int .i64 (o : Nat))) ∧ RcH rb (pt R o L) W6)) := by
                rw [← hC6]
                refine (wput_any R L hRl o hoL w4.drew a c (hOL.kept (X := fun k => w4.heap.size ≤ k) (Y := fun _ => False) ((Fr.refl _ _).drew) (fun g h => h.elim))).mono ?_
                rintro e V' ⟨rfl, hN⟩
                have h6 : RcH rb R V' := HD16.out.kept hN (fun h => h)
                have hV : Fr (fun k => k = rb) W3 V' := Fr.then fw4 hN (fun i hi => hi.elim)
                have hW : Fr (fun k => k = rb) W3 (V'.setRow rb (rc (pt R o L))) := hV.setRow rb _ (.inl rfl)
                exact ⟨rfl, _, rfl, ⟨hV, Nw.cell hN HS16.out.2⟩, h6, ⟨hW, cell_of (cell_kept hW HP3.out (by have := HRL.out; omega)) _ _ HPQ.out⟩, h6.setRow _⟩
              clear HTX HI2 K4 k4 hOL hC6
              go_upto_region 14 with fail
              go_cut [5] from 65 to 68 (fun v wx => v = .bool b ∧ w4 = wx)
              case first =>
                cases b <;>
                · go_wp2_with fail
                  go_meet
                  exact ⟨rfl, rfl⟩
              case rest =>
              obtain ⟨rfl, rfl⟩ := hcut
              go_upto_region 16 with fail
              refine wp_region_held_drew (S := fun U => Fr (fun k => k = rb) W3 U ∧ U.cell? ⟨pb, I * 2, none⟩ = some (.int .i64 (o : Nat))) (by kernel_rfl) HS16.out (fun hHeld => ?_)
              refine wpAnyH_take (i := 1) (oi := { dst := some 71, op := Op.move (Operand.tmp 7), type := 51, pos := "ref.go:152", after := #[], guard := none }) (v := ?_) rfl (by kernel_rfl) (by kernel_rfl) (by kernel_rfl) (fun _ _ _ h => h) (Or.inl ⟨by rfl, ?_⟩) (by assumption) ?_
              rotate_left
              · intro U hSw; obtain ⟨hSw0, hSw1⟩ := hSw; (go_simp <;> with_reducible rfl)
              try simp only [Act.put, List.setIfInBounds_toArray, List.set_cons_zero, List.set_cons_succ]
              refine wpAnyH_take (i := 2) (oi := { dst := some 72, op := Op.move (Operand.tmp 8), type := 3, pos := "ref.go:152", after := #[], guard := none }) (v := ?_) rfl (by kernel_rfl) (by kernel_rfl) (by kernel_rfl) (fun _ _ _ h => h) (Or.inl ⟨by rfl, ?_⟩) (by assumption) ?_
              rotate_left
              · intro U hSw; obtain ⟨hSw0, hSw1⟩ := hSw; (go_simp <;> with_reducible rfl)
              try simp only [Act.put, List.setIfInBounds_toArray, List.set_cons_zero, List.set_cons_succ]
              refine wpAnyH_take (i := 3) (oi := { dst := some 73, op := Op.indexAddr 51 (Operand.tmp 71) (Operand.tmp 72), type := 0, pos := "ref.go:152", after := #[{ on := 1, ground := Ground.data }, { on := 2, ground := Ground.data }], guard := none }) (v := ?_) rfl (by kernel_rfl) (by kernel_rfl) (by kernel_rfl) (fun _ _ _ h => h) (Or.inl ⟨by rfl, ?_⟩) (by assumption) ?_
              rotate_left
              · intro U hSw; obtain ⟨hSw0, hSw1⟩ := hSw; (go_simp <;> with_reducible rfl)
              try simp only [Act.put, List.setIfInBounds_toArray, List.set_cons_zero, List.set_cons_succ]
              refine wpAnyH_take (i := 4) (oi := { dst := some 74, op := Op.fieldAddr 50 (Operand.tmp 73) 0, type := 0, pos := "ref.go:152", after := #[{ on := 3, ground := Ground.data }], guard := none }) (v := ?_) rfl (by kernel_rfl) (by kernel_rfl) (by kernel_rfl) (fun _ _ _ h => h) (Or.inl ⟨by rfl, ?_⟩) (by assumption) ?_
              rotate_left
              · intro U hSw; obtain ⟨hSw0, hSw1⟩ := hSw; (go_simp <;> with_reducible rfl)
              try simp only [Act.put, List.setIfInBounds_toArray, List.set_cons_zero, List.set_cons_succ]
              refine wpAnyH_take (i := 5) (oi := { dst := some 75, op := Op.load 3 (Operand.tmp 74), type := 3, pos := "ref.go:152", after := #[{ on := 4, ground := Ground.data }], guard := none }) (v := ?_) rfl (by kernel_rfl) (by kernel_rfl) (by kernel_rfl) (fun _ _ _ h => h) (Or.inl ⟨by rfl, ?_⟩) (by assumption) ?_
              rotate_left
              · intro U hSw; obtain ⟨hSw0, hSw1⟩ := hSw; (go_simp <;> with_reducible rfl)
              try simp only [Act.put, List.setIfInBounds_toArray, List.set_cons_zero, List.set_cons_succ]
              refine wpAnyH_take (i := 6) (oi := { dst := some 76, op := Op.move (Operand.tmp 9), type := 52, pos := "ref.go:152", after := #[], guard := none }) (v := ?_) rfl (by kernel_rfl) (by kernel_rfl) (by kernel_rfl) (fun _ _ _ h => h) (Or.inl ⟨by rfl, ?_⟩) (by assumption) ?_
              rotate_left
              · intro U hSw; obtain ⟨hSw0, hSw1⟩ := hSw; (go_simp <;> with_reducible rfl)
              try simp only [Act.put, List.setIfInBounds_toArray, List.set_cons_zero, List.set_cons_succ]
              refine wpAnyH_ready (rs := [0]) (by kernel_rfl) (by simp) ?_
              refine AllReadyH.cons (o := { dst := some 70, op := Op.load 24 (Operand.tmp 4), type := 24, pos := "ref.go:152", after := #[], guard := none }) rfl (fun K hK => ?_) AllReadyH.nil
              rw [if_pos (by rfl)]
              refine wp_load_row 24 _ rfl rb (by first | rfl | simp [Act.eval]) 24 _ (0, 0) _ HD16.out Try.underlying24 rfl HI16.out ?_
              refine hK.out _ _ (by assumption) (fun _ => ?_)
              clear hK K
              try simp only [Act.put, List.setIfInBounds_toArray, List.set_cons_zero, List.set_cons_succ]
              refine wpAnyH_ready (rs := [7]) (by kernel_rfl) (by simp) ?_
              refine AllReadyH.cons (o := { dst := some 77, op := Op.call { callee := Callee.value (Operand.func 23), args := #[Operand.tmp 70, Operand.tmp 75, Operand.tmp 76], argTypes := #[24, 3, 52] }, type := 24, pos := "ref.go:152", after := #[{ on := 0, ground := Ground.data }, { on := 5, ground := Ground.data }, { on := 6, ground := Ground.data }], guard := none }) rfl (fun K hK => ?_) AllReadyH.nil
              go_simp
              go_at_call 23; with_reducible refine HP16.out.mono ?_; rintro e w5 ⟨rfl, W6, e6, K6⟩
              (try go_wp2_with fail)
              refine hK.out _ _ ?_ (fun hHeld5 => ?_)
              · exact K6.out.1
              clear hK K
              try simp only [Act.put, List.setIfInBounds_toArray, List.set_cons_zero, List.set_cons_succ]
              refine wpAnyH_ready (rs := [8]) (by kernel_rfl) (by simp) ?_
              refine AllReadyH.cons (o := { dst := none, op := Op.store 24 (Operand.tmp 4) (Operand.tmp 77), type := 0, pos := "ref.go:152", after := #[{ on := 7, ground := Ground.data }, { on := 7, ground := Ground.chain }, { on := 0, ground := Ground.phase }, { on := 1, ground := Ground.phase }, { on := 2, ground := Ground.phase }, { on := 3, ground := Ground.phase }, { on := 4, ground := Ground.phase }, { on := 5, ground := Ground.phase }, { on := 6, ground := Ground.phase }, { on := 7, ground := Ground.phase }], guard := none }) rfl (fun K hK => ?_) AllReadyH.nil
              rw [if_pos (by rfl)]
              refine wp_store_row 24 _ _ rfl rb C6 (by first | rfl | simp [Act.eval]) (by first | rfl | simp [Act.eval]) 24 _ K6.out.2.1 HN16.out.1 HN16.out.2.1 HN16.out.2.2 ?_
              rw [e6]
              refine hK.out _ _ ?_ (fun hHeld6 => ?_)
              · exact K6.out.2.2.1
              clear hK K
              try simp only [Act.put, List.setIfInBounds_toArray, List.set_cons_zero, List.set_cons_succ]
              refine wpAnyH_done (by kernel_rfl) ?_ _
              have HNX2 : Hid (EI h f (I + 1) 0 b (pt R o L) ∧ RcH rb (pt R o L) W6 ∧ Fr (fun k => k = rb) W3 W6) := ⟨HNX.out, K6.out.2.2.2, K6.out.2.2.1.1⟩
              clear HNX HP16 HN16 HD16 HS16 HI16
              go_wp2_with fail
              go_roundg (5 - (I + 1))
              case measure => omega
              case rel => exact ⟨I + 1, b, pt R o L, by omega, by omega, rfl, by first | rfl | (congr 1), HNX2⟩
            · rw [if_neg hE, decide_eq_false hE, Bool.and_false] at HNX
              rw [decide_eq_false hE]
              have HNX2 : Hid (EI h f (I + 1) 0 false R ∧ RcH rb R w4 ∧ Fr (fun k => k = rb) W3 w4) := ⟨HNX.out, HI2.out.1.kept K4.out.1 (fun h => h), Fr.then HI2.out.2 K4.out.1 (fun i hi => hi.elim)⟩
              clear HNX HTX HI2 K4 k4
              cases b
              all_goals
                go_wp2_with fail
                go_roundg (5 - (I + 1))
                case measure => omega
                case rel => exact ⟨I + 1, false, R, by omega, by omega, rfl, by first | rfl | (congr 1), HNX2⟩
        · have hI5 : I = 5 := by omega
          have hnl : ¬ (I : Int) < 5 := by omega
          subst hI5
          have HE5 := tHid HI.out.1
          have HRr := tHid HI.out.2.1
          have HFr := tHid HI.out.2.2
          have HHr : Hid (HcH hb h wr) := cell_kept HI.out.2.2 HH3.out (by have := HRL.out; omega)
          have HNU : Hid (Calls Try.prog 24 #[.agg h.C] wr fun e w' => ∃ nb, e = .returned (.slice (some ⟨nb, 0, none⟩) 7 7) ∧ Hid (Nw wr w' ∧ w'.heap[nb]? = some (.cells (yN h) 61) ∧ wr.heap.size < nb)) := (wnumbers_any h wr).mono (by
            rintro e w' ⟨rfl, rfl⟩
            have q1 : (wr.alloc (.cells h.C 23)).heap.size = wr.heap.size + 1 := by simp
            exact ⟨_, rfl, ((Fr.refl _ _).alloc _).alloc _, by rw [← q1]; exact newHeap _ _, by omega⟩)
          obtain ⟨wq, hwq⟩ : ∃ z, z = wr := ⟨_, rfl⟩
          subst hwq
          go_upto_region 18 with (first
            | (refine wpList_load_row rfl 23 _ rfl hb (by first | rfl | simp [Act.eval]) 23 h.C (0, 0) _ HHr.out Try.underlying23 rfl (HSZ.out h) ?_)
            | (go_at_call 24; with_reducible refine HNU.out.mono ?_; rintro e WN ⟨nb, rfl, KN⟩))
          obtain ⟨N, hN⟩ : ∃ N, (if f = 1 then 5 else 7 : Nat) = N := ⟨_, rfl⟩
          have hN7 : N ≤ 7 := by rw [← hN]; split <;> omega
          have HHAS : Hid (∀ V, Calls Try.prog 25 #[.int .i64 (f : Nat)] V fun e w' => e = .returned (.int .i64 (N : Int)) ∧ w' = V) := fun V => by rw [← hN]; exact whas_any f V
          have HNB : Hid (rb < nb) := by have := KN.out.2.2; have := HRr.out.lt; show rb < nb; omega
          have HWN : Hid (WN.heap[nb]? = some (.cells (yN h) 61)) := KN.out.2.1
          have hFW : Fr (fun k => k = rb) W3 WN := Fr.then HFr.out KN.out.1 (fun i hi => hi.elim)
          have HRN : Hid (RcH rb R WN) := HRr.out.kept KN.out.1 (fun h => h)
          have HHN : Hid (HcH hb h WN) := Nw.heap KN.out.1 HHr.out
          have HQN : Hid (RcH qb zrec WN) := HQ3.out.kept hFW (by omega)
          have HNN : Hid (Nw w WN) := Fr.then HN3.out hFW (fun i hi => .inr (by omega))
          clear KN hFW HNU HFr HRr HHr HT3 HP3 HN3 HH3 HQ3 HR3 HRL HI hkx hnl hlt hI
          have HNe := tHid hN
          clear hN
          go_wp2_with fail
          go_loopg [5, 12] N (fun kx x v wr => ∃ (J : Nat) (b : Bool) (R : List By), J ≤ N ∧ N - J ≤ kx ∧ x = .bool b ∧ v = .int .i64 (J : Int) ∧ Hid (EI h f 5 J b R ∧ RcH rb R wr ∧ Fr (fun k => k = rb) WN wr))
          case atStart => exact ⟨0, b, R, by omega, by omega, rfl, rfl, HE5.out, HRN.out, Fr.refl _ _⟩
          case round =>
            obtain ⟨J, b2, R2, hJ, hkx, rfl, rfl, HI⟩ := hrel
            clear HE5 HRN
            have cF : wr.cell? ⟨hb, 0, none⟩ = some (.int .i64 (f : Nat)) := by
              have := cell_of (cell_kept HI.out.2.2 HHN.out (by omega)) 0 (.int .i64 h.form) rfl
              rw [hform] at this
              exact this
            by_cases hlt : J < N
            · have hltI : (J : Int) < (N : Int) := by omega
              obtain ⟨o, n, sl, k, φ, x, bl, T⟩ := nrow h J (by omega)
              have hoF : o < fE f := nF_lt f J N o n bl hF HNe.out hlt T.t
              have HNX := tHid (HI.out.1.num ok T hoF)
              have hxi : i64 x := ns_i64 h ok J o n x bl T.ns
              have hon : o + n ≤ 512 := T.on
              have hy := yN_at h J o n x bl T.ns
              obtain ⟨okv, hokv⟩ : ∃ okv, (decide (nE f x n = 0) && (decide (0 ≤ x) || bl)) = okv := ⟨_, rfl⟩
              have HLN : Hid (okv = true → (nL f x n).length = n) := fun hq => by
                rw [hq, Bool.and_eq_true, decide_eq_true_iff] at hokv
                exact nL_length f x n hxi hokv.1
              rw [hokv] at HNX
              obtain ⟨nj, hnj⟩ : ∃ nj, J * 4 = nj := ⟨_, rfl⟩
              have hnj' : 4 * J = nj := by omega
              rw [hnj] at hy
              obtain ⟨CH, hCH⟩ : ∃ CH, h.C.toList = CH := ⟨_, rfl⟩
              have hCA : h.C = CH.toArray := by rw [← hCH, Array.toArray_toList]
              obtain ⟨CN, hCN⟩ : ∃ CN : List Value, [.int .i64 (o : Nat), .int .i64 (n : Nat), .int .i64 x, .bool bl] = CN := ⟨_, rfl⟩
              have hRG : ∀ U, Nw wr U → U.rangeAt hb 0 CH ∧ U.rangeAt nb nj CN := fun U hU => by
                have q1 : U.heap[hb]? = some (.cells h.C 23) := Nw.heap hU (cell_kept HI.out.2.2 HHN.out (by omega))
                have q2 : U.heap[nb]? = some (.cells (yN h) 61) := Nw.heap hU (cell_kept HI.out.2.2 HWN.out (by have := HNB.out; omega))
                refine ⟨fun j v hv => ?_, fun j v hv => ?_⟩
                · rw [Nat.zero_add]
                  refine cell_of q1 j v ?_
                  rw [hCA]; simpa using hv
                · rw [← hCN] at hv
                  refine cell_of q2 _ v ?_
                  match j, hv with
                  | 0, hv => cases hv; exact hy.1
                  | 1, hv => cases hv; exact hy.2.1
                  | 2, hv => cases hv; exact hy.2.2.1
                  | 3, hv => cases hv; exact hy.2.2.2
                  | j + 4, hv => simp at hv
              have HS21 := tHid (hRG wr.drew ((Fr.refl _ _).drew))
              have hz1 : (Try.prog.info? 23).map (·.size) = some CH.length := by
                have := HSZ.out h
                rw [hCA] at this
                rw [this, List.size_toArray]
              have hz2 : (Try.prog.info? 61).map (·.size) = some CN.length := by rw [← hCN]; kernel_rfl
              have HCHI := tHid hz1
              have HCNI := tHid hz2
              have hJ7 : (J : Int) < 7 := by omega
              clear hz1 hz2
              have HDG : Hid (Calls Try.prog 26 #[.agg CH.toArray, .agg CN.toArray] wr.drew fun e w' => ∃ a m c, e = .returned (.tuple #[.slice a m c, .bool okv]) ∧ Hid ((w'.rangeAt hb 0 CH ∧ w'.rangeAt nb nj CN) ∧ Nw wr w' ∧ (okv = true → Old w' (.slice a m c) (nL f x n)))) := by
                have t := wdigits_any h f o n x bl wr.drew hform hxi
                rw [hokv, hCA] at t
                have e4 : (#[.int .i64 (o : Nat), .int .i64 (n : Nat), .int .i64 x, .bool bl] : Array Value) = CN.toArray := by rw [← hCN]
                rw [e4] at t
                refine t.mono ?_
                rintro e w' ⟨a, m, c, rfl, K⟩
                have kk : Nw wr w' := Nw.trans ((Fr.refl _ _).drew) K.out.1
                exact ⟨a, m, c, rfl, hRG w' kk, kk, K.out.2⟩
              have hcx : ∀ U, Nw wr U → U.cell? ⟨nb, nj, none⟩ = some (.int .i64 (o : Nat)) := fun U hU => cell_of (Nw.heap hU (cell_kept HI.out.2.2 HWN.out (by have := HNB.out; omega))) nj _ hy.1
              have HCX := tHid hcx
              have HYO := tHid hy.1
              have HI2 : Hid (RcH rb R2 wr ∧ Fr (fun k => k = rb) WN wr) := HI.out.2
              have hRl := HI.out.1.len
              clear HI T hRG hcx hCH hCA hCN hokv hy hxi
              go_upto_region 21 with (first
                | (go_at_call 25; with_reducible refine (HHAS.out _).mono ?_; rintro e w' ⟨rfl, rfl⟩))
              refine wp_region_held_drew (S := fun U => U.rangeAt hb 0 CH ∧ U.rangeAt nb nj CN) (by kernel_rfl) HS21.out (fun hHeld => ?_)
              refine wpAnyH_take (i := 1) (oi := { dst := some 89, op := Op.move (Operand.tmp 11), type := 56, pos := "ref.go:157", after := #[], guard := none }) (v := ?_) rfl (by kernel_rfl) (by kernel_rfl) (by kernel_rfl) (fun _ _ _ h => h) (Or.inl ⟨by rfl, ?_⟩) (by assumption) ?_
              rotate_left
              · intro U hSw; obtain ⟨hSw0, hSw1⟩ := hSw; (go_simp <;> with_reducible rfl)
              try simp only [Act.put, List.setIfInBounds_toArray, List.set_cons_zero, List.set_cons_succ]
              refine wpAnyH_take (i := 2) (oi := { dst := some 90, op := Op.move (Operand.tmp 12), type := 3, pos := "ref.go:157", after := #[], guard := none }) (v := ?_) rfl (by kernel_rfl) (by kernel_rfl) (by kernel_rfl) (fun _ _ _ h => h) (Or.inl ⟨by rfl, ?_⟩) (by assumption) ?_
              rotate_left
              · intro U hSw; obtain ⟨hSw0, hSw1⟩ := hSw; (go_simp <;> with_reducible rfl)
              try simp only [Act.put, List.setIfInBounds_toArray, List.set_cons_zero, List.set_cons_succ]
              refine wpAnyH_take (i := 3) (oi := { dst := some 91, op := Op.indexAddr 56 (Operand.tmp 89) (Operand.tmp 90), type := 0, pos := "ref.go:157", after := #[{ on := 1, ground := Ground.data }, { on := 2, ground := Ground.data }], guard := none }) (v := ?_) rfl (by kernel_rfl) (by kernel_rfl) (by kernel_rfl) (fun _ _ _ h => h) (Or.inl ⟨by rfl, ?_⟩) (by assumption) ?_
              rotate_left
              · intro U hSw; obtain ⟨hSw0, hSw1⟩ := hSw; (go_simp <;> with_reducible rfl)
              try simp only [Act.put, List.setIfInBounds_toArray, List.set_cons_zero, List.set_cons_succ]
              refine wpAnyH_take (i := 0) (oi := { dst := some 88, op := Op.load 23 (Operand.tmp 1), type := 23, pos := "ref.go:157", after := #[], guard := none }) (v := .agg CH.toArray) rfl (by kernel_rfl) (by kernel_rfl) (by kernel_rfl) (fun _ _ _ h => h) (yieldsIf_load_mid (by rfl) _ _ rfl hb 0 rfl CH _ (fun U hU => hU.1) Try.underlying23 rfl HCHI.out) (by assumption) ?_
              try simp only [Act.put, List.setIfInBounds_toArray, List.set_cons_zero, List.set_cons_succ]
              refine wpAnyH_take (i := 4) (oi := { dst := some 92, op := Op.load 61 (Operand.tmp 91), type := 61, pos := "ref.go:157", after := #[{ on := 3, ground := Ground.data }], guard := none }) (v := .agg CN.toArray) rfl (by kernel_rfl) (by kernel_rfl) (by kernel_rfl) (fun _ _ _ h => h) (yieldsIf_load_mid (by rfl) _ _ rfl nb nj rfl CN _ (fun U hU => hU.2) Try.underlying61 rfl HCNI.out) (by assumption) ?_
              try simp only [Act.put, List.setIfInBounds_toArray, List.set_cons_zero, List.set_cons_succ]
              refine wpAnyH_ready (rs := [5]) (by kernel_rfl) (by simp) ?_
              refine AllReadyH.cons (o := { dst := some 93, op := Op.call { callee := Callee.value (Operand.func 26), args := #[Operand.tmp 88, Operand.tmp 92], argTypes := #[23, 61] }, type := 53, pos := "ref.go:157", after := #[{ on := 0, ground := Ground.data }, { on := 4, ground := Ground.data }], guard := none }) rfl (fun K hK => ?_) AllReadyH.nil
              go_simp
              go_at_call 26; with_reducible refine HDG.out.mono ?_; rintro e w4 ⟨a, m, c, rfl, K4⟩
              (try go_wp2_with fail)
              refine hK.out _ _ ?_ (fun hHeld4 => ?_)
              · exact K4.out.1
              clear hK K
              try simp only [Act.put, List.setIfInBounds_toArray, List.set_cons_zero, List.set_cons_succ]
              refine wpAnyH_take (i := 6) (oi := { dst := some 87, op := Op.move (Operand.tmp 93), type := 53, pos := "ref.go:157", after := #[{ on := 5, ground := Ground.data }], guard := none }) (v := ?_) rfl (by kernel_rfl) (by kernel_rfl) (by kernel_rfl) (fun _ _ _ h => h) (Or.inl ⟨by rfl, ?_⟩) (by assumption) ?_
              rotate_left
              · intro U hSw; obtain ⟨hSw0, hSw1⟩ := hSw; (go_simp <;> with_reducible rfl)
              try simp only [Act.put, List.setIfInBounds_toArray, List.set_cons_zero, List.set_cons_succ]
              refine wpAnyH_take (i := 7) (oi := { dst := some 94, op := Op.extract (Operand.tmp 87) 0, type := 52, pos := "ref.go:157", after := #[{ on := 6, ground := Ground.data }], guard := none }) (v := ?_) rfl (by kernel_rfl) (by kernel_rfl) (by kernel_rfl) (fun _ _ _ h => h) (Or.inl ⟨by rfl, ?_⟩) (by assumption) ?_
              rotate_left
              · intro U hSw; obtain ⟨hSw0, hSw1⟩ := hSw; (go_simp <;> with_reducible rfl)
              try simp only [Act.put, List.setIfInBounds_toArray, List.set_cons_zero, List.set_cons_succ]
              refine wpAnyH_take (i := 8) (oi := { dst := some 95, op := Op.extract (Operand.tmp 87) 1, type := 4, pos := "ref.go:157", after := #[{ on := 6, ground := Ground.data }, { on := 9, ground := Ground.gcOnly Departure.lateStores }], guard := none }) (v := ?_) rfl (by kernel_rfl) (by kernel_rfl) (by kernel_rfl) (fun _ _ _ h => h) (Or.inl ⟨by rfl, ?_⟩) (by assumption) ?_
              rotate_left
              · intro U hSw; obtain ⟨hSw0, hSw1⟩ := hSw; (go_simp <;> with_reducible rfl)
              try simp only [Act.put, List.setIfInBounds_toArray, List.set_cons_zero, List.set_cons_succ]
              refine wpAnyH_take (i := 9) (oi := { dst := some 13, op := Op.assign (Operand.tmp 94), type := 52, pos := "ref.go:157", after := #[{ on := 7, ground := Ground.data }, { on := 5, ground := Ground.chain }, { on := 0, ground := Ground.phase }, { on := 1, ground := Ground.phase }, { on := 2, ground := Ground.phase }, { on := 3, ground := Ground.phase }, { on := 4, ground := Ground.phase }, { on := 5, ground := Ground.phase }, { on := 6, ground := Ground.phase }, { on := 7, ground := Ground.phase }, { on := 8, ground := Ground.textOnly Departure.lateStores }], guard := none }) (v := ?_) rfl (by kernel_rfl) (by kernel_rfl) (by kernel_rfl) (fun _ _ _ h => h) (Or.inl ⟨by rfl, ?_⟩) (by assumption) ?_
              rotate_left
              · intro U hSw; obtain ⟨hSw0, hSw1⟩ := hSw; (go_simp <;> with_reducible rfl)
              try simp only [Act.put, List.setIfInBounds_toArray, List.set_cons_zero, List.set_cons_succ]
              refine wpAnyH_take (i := 10) (oi := { dst := some 14, op := Op.assign (Operand.tmp 95), type := 4, pos := "ref.go:157", after := #[{ on := 8, ground := Ground.data }, { on := 9, ground := Ground.chain }, { on := 0, ground := Ground.phase }, { on := 1, ground := Ground.phase }, { on := 2, ground := Ground.phase }, { on := 3, ground := Ground.phase }, { on := 4, ground := Ground.phase }, { on := 5, ground := Ground.phase }, { on := 6, ground := Ground.phase }, { on := 7, ground := Ground.phase }, { on := 8, ground := Ground.phase }, { on := 9, ground := Ground.phase }], guard := none }) (v := ?_) rfl (by kernel_rfl) (by kernel_rfl) (by kernel_rfl) (fun _ _ _ h => h) (Or.inl ⟨by rfl, ?_⟩) (by assumption) ?_
              rotate_left
              · intro U hSw; obtain ⟨hSw0, hSw1⟩ := hSw; (go_simp <;> with_reducible rfl)
              try simp only [Act.put, List.setIfInBounds_toArray, List.set_cons_zero, List.set_cons_succ]
              refine wpAnyH_done (by kernel_rfl) ?_ _
              cases okv with
              | false =>
                rw [if_neg (by decide), Bool.and_false] at HNX
                have HNX2 : Hid (EI h f 5 (J + 1) false R2 ∧ RcH rb R2 w4 ∧ Fr (fun k => k = rb) WN w4) := ⟨HNX.out, HI2.out.1.kept K4.out.2.1 (fun h => h), Fr.then HI2.out.2 K4.out.2.1 (fun i hi => hi.elim)⟩
                clear HNX HDG HI2 K4 HS21 HLN HCX HYO
                cases b2
                all_goals
                  go_wp2_with fail
                  go_roundg (N - (J + 1))
                  case measure => omega
                  case rel => exact ⟨J + 1, false, R2, by omega, by omega, rfl, by first | rfl | (congr 1), HNX2⟩
              | true =>
                rw [if_pos rfl, Bool.and_true] at HNX
                have hOL := K4.out.2.2 rfl
                obtain ⟨hml, _, _⟩ := slx_lenH hOL
                have hLn := HLN.out rfl
                obtain ⟨L, hL⟩ : ∃ L, nL f x n = L := ⟨_, rfl⟩
                rw [hL] at hOL hml HNX hLn
                have hoL : o + L.length ≤ 512 := by omega
                clear HLN hLn
                subst hml
                have fw4 : Fr (fun k => k = rb) WN w4.drew := (Fr.then HI2.out.2 K4.out.2.1 (fun i hi => hi.elim)).drew
                have HS24 : Hid (Fr (fun k => k = rb) WN w4.drew ∧ w4.drew.cell? ⟨nb, nj, none⟩ = some (.int .i64 (o : Nat))) := ⟨fw4, HCX.out w4.drew K4.out.2.1.drew⟩
                have HD24 : Hid (RcH rb R2 w4.drew) := HI2.out.1.kept (K4.out.2.1.drew) (fun h => h)
                have HI24 := tHid (rc_info R2 hRl)
                obtain ⟨C6, hC6⟩ : ∃ C6, rc (pt R2 o L) = C6 := ⟨_, rfl⟩
                have hpl : (pt R2 o L).length = 512 := by rw [pt_length _ _ _ (by omega)]; exact hRl
                have HN24 : Hid ((Try.prog.info? 24).map (·.size) = some C6.size ∧ (rc R2).size = C6.size ∧ C6.all (·.oneCell') = true) := by
                  rw [← hC6]
                  exact ⟨rc_info _ hpl, by rw [rc_size, rc_size, hRl, hpl], rc_one _⟩
                have HP24 : Hid (Calls Try.prog 23 #[.agg (rc R2), .int .i64 (o : Nat), .slice a L.length c] w4.drew fun e V' => e = .returned (.agg C6) ∧ ∃ W6, V'.setRow rb C6 = W6 ∧ Hid ((Fr (fun k => k = rb) WN V' ∧ V'.cell? ⟨nb, nj, none⟩ = some (.int .i64 (o : Nat))) ∧ RcH rb R2 V' ∧ (Fr (fun k => k = rb) WN W6 ∧ W6.cell? ⟨nb, nj, none⟩ = some (.int .i64 (o : Nat))) ∧ RcH rb (pt R2 o L) W6)) := by
                  rw [← hC6]
                  refine (wput_any R2 L hRl o hoL w4.drew a c (hOL.kept (X := fun k => w4.heap.size ≤ k) (Y := fun _ => False) ((Fr.refl _ _).drew) (fun g h => h.elim))).mono ?_
                  rintro e V' ⟨rfl, hN⟩
                  have h6 : RcH rb R2 V' := HD24.out.kept hN (fun h => h)
                  have hV : Fr (fun k => k = rb) WN V' := Fr.then fw4 hN (fun i hi => hi.elim)
                  have hW : Fr (fun k => k = rb) WN (V'.setRow rb (rc (pt R2 o L))) := hV.setRow rb _ (.inl rfl)
                  exact ⟨rfl, _, rfl, ⟨hV, Nw.cell hN HS24.out.2⟩, h6, ⟨hW, cell_of (cell_kept hW HWN.out (by have := HNB.out; omega)) _ _ HYO.out⟩, h6.setRow _⟩
                clear HDG HI2 K4 HS21 hOL hC6 HCX
                go_upto_region 22 with fail
                go_cut [5] from 96 to 99 (fun v wx => v = .bool b2 ∧ w4 = wx)
                case first =>
                  cases b2 <;>
                  · go_wp2_with fail
                    go_meet
                    exact ⟨rfl, rfl⟩
                case rest =>
                obtain ⟨rfl, rfl⟩ := hcut
                go_upto_region 24 with fail
                refine wp_region_held_drew (S := fun U => Fr (fun k => k = rb) WN U ∧ U.cell? ⟨nb, nj, none⟩ = some (.int .i64 (o : Nat))) (by kernel_rfl) HS24.out (fun hHeld => ?_)
                refine wpAnyH_take (i := 1) (oi := { dst := some 102, op := Op.move (Operand.tmp 11), type := 56, pos := "ref.go:160", after := #[], guard := none }) (v := ?_) rfl (by kernel_rfl) (by kernel_rfl) (by kernel_rfl) (fun _ _ _ h => h) (Or.inl ⟨by rfl, ?_⟩) (by assumption) ?_
                rotate_left
                · intro U hSw; obtain ⟨hSw0, hSw1⟩ := hSw; (go_simp <;> with_reducible rfl)
                try simp only [Act.put, List.setIfInBounds_toArray, List.set_cons_zero, List.set_cons_succ]
                refine wpAnyH_take (i := 2) (oi := { dst := some 103, op := Op.move (Operand.tmp 12), type := 3, pos := "ref.go:160", after := #[], guard := none }) (v := ?_) rfl (by kernel_rfl) (by kernel_rfl) (by kernel_rfl) (fun _ _ _ h => h) (Or.inl ⟨by rfl, ?_⟩) (by assumption) ?_
                rotate_left
                · intro U hSw; obtain ⟨hSw0, hSw1⟩ := hSw; (go_simp <;> with_reducible rfl)
                try simp only [Act.put, List.setIfInBounds_toArray, List.set_cons_zero, List.set_cons_succ]
                refine wpAnyH_take (i := 3) (oi := { dst := some 104, op := Op.indexAddr 56 (Operand.tmp 102) (Operand.tmp 103), type := 0, pos := "ref.go:160", after := #[{ on := 1, ground := Ground.data }, { on := 2, ground := Ground.data }], guard := none }) (v := ?_) rfl (by kernel_rfl) (by kernel_rfl) (by kernel_rfl) (fun _ _ _ h => h) (Or.inl ⟨by rfl, ?_⟩) (by assumption) ?_
                rotate_left
                · intro U hSw; obtain ⟨hSw0, hSw1⟩ := hSw; (go_simp <;> with_reducible rfl)
                try simp only [Act.put, List.setIfInBounds_toArray, List.set_cons_zero, List.set_cons_succ]
                refine wpAnyH_take (i := 4) (oi := { dst := some 105, op := Op.fieldAddr 61 (Operand.tmp 104) 0, type := 0, pos := "ref.go:160", after := #[{ on := 3, ground := Ground.data }], guard := none }) (v := ?_) rfl (by kernel_rfl) (by kernel_rfl) (by kernel_rfl) (fun _ _ _ h => h) (Or.inl ⟨by rfl, ?_⟩) (by assumption) ?_
                rotate_left
                · intro U hSw; obtain ⟨hSw0, hSw1⟩ := hSw; (go_simp <;> with_reducible rfl)
                try simp only [Act.put, List.setIfInBounds_toArray, List.set_cons_zero, List.set_cons_succ]
                refine wpAnyH_take (i := 5) (oi := { dst := some 106, op := Op.fieldAddr 50 (Operand.tmp 105) 0, type := 0, pos := "ref.go:160", after := #[{ on := 4, ground := Ground.data }], guard := none }) (v := ?_) rfl (by kernel_rfl) (by kernel_rfl) (by kernel_rfl) (fun _ _ _ h => h) (Or.inl ⟨by rfl, ?_⟩) (by assumption) ?_
                rotate_left
                · intro U hSw; obtain ⟨hSw0, hSw1⟩ := hSw; (go_simp <;> with_reducible rfl)
                try simp only [Act.put, List.setIfInBounds_toArray, List.set_cons_zero, List.set_cons_succ]
                refine wpAnyH_take (i := 6) (oi := { dst := some 107, op := Op.load 3 (Operand.tmp 106), type := 3, pos := "ref.go:160", after := #[{ on := 5, ground := Ground.data }], guard := none }) (v := ?_) rfl (by kernel_rfl) (by kernel_rfl) (by kernel_rfl) (fun _ _ _ h => h) (Or.inl ⟨by rfl, ?_⟩) (by assumption) ?_
                rotate_left
                · intro U hSw; obtain ⟨hSw0, hSw1⟩ := hSw; (go_simp <;> with_reducible rfl)
                try simp only [Act.put, List.setIfInBounds_toArray, List.set_cons_zero, List.set_cons_succ]
                refine wpAnyH_take (i := 7) (oi := { dst := some 108, op := Op.move (Operand.tmp 13), type := 52, pos := "ref.go:160", after := #[], guard := none }) (v := ?_) rfl (by kernel_rfl) (by kernel_rfl) (by kernel_rfl) (fun _ _ _ h => h) (Or.inl ⟨by rfl, ?_⟩) (by assumption) ?_
                rotate_left
                · intro U hSw; obtain ⟨hSw0, hSw1⟩ := hSw; (go_simp <;> with_reducible rfl)
                try simp only [Act.put, List.setIfInBounds_toArray, List.set_cons_zero, List.set_cons_succ]
                refine wpAnyH_ready (rs := [0]) (by kernel_rfl) (by simp) ?_
                refine AllReadyH.cons (o := { dst := some 101, op := Op.load 24 (Operand.tmp 4), type := 24, pos := "ref.go:160", after := #[], guard := none }) rfl (fun K hK => ?_) AllReadyH.nil
                rw [if_pos (by rfl)]
                refine wp_load_row 24 _ rfl rb (by first | rfl | simp [Act.eval]) 24 _ (0, 0) _ HD24.out Try.underlying24 rfl HI24.out ?_
                refine hK.out _ _ (by assumption) (fun _ => ?_)
                clear hK K
                try simp only [Act.put, List.setIfInBounds_toArray, List.set_cons_zero, List.set_cons_succ]
                refine wpAnyH_ready (rs := [8]) (by kernel_rfl) (by simp) ?_
                refine AllReadyH.cons (o := { dst := some 109, op := Op.call { callee := Callee.value (Operand.func 23), args := #[Operand.tmp 101, Operand.tmp 107, Operand.tmp 108], argTypes := #[24, 3, 52] }, type := 24, pos := "ref.go:160", after := #[{ on := 0, ground := Ground.data }, { on := 6, ground := Ground.data }, { on := 7, ground := Ground.data }], guard := none }) rfl (fun K hK => ?_) AllReadyH.nil
                go_simp
                go_at_call 23; with_reducible refine HP24.out.mono ?_; rintro e w5 ⟨rfl, W6, e6, K6⟩
                (try go_wp2_with fail)
                refine hK.out _ _ ?_ (fun hHeld5 => ?_)
                · exact K6.out.1
                clear hK K
                try simp only [Act.put, List.setIfInBounds_toArray, List.set_cons_zero, List.set_cons_succ]
                refine wpAnyH_ready (rs := [9]) (by kernel_rfl) (by simp) ?_
                refine AllReadyH.cons (o := { dst := none, op := Op.store 24 (Operand.tmp 4) (Operand.tmp 109), type := 0, pos := "ref.go:160", after := #[{ on := 8, ground := Ground.data }, { on := 8, ground := Ground.chain }, { on := 0, ground := Ground.phase }, { on := 1, ground := Ground.phase }, { on := 2, ground := Ground.phase }, { on := 3, ground := Ground.phase }, { on := 4, ground := Ground.phase }, { on := 5, ground := Ground.phase }, { on := 6, ground := Ground.phase }, { on := 7, ground := Ground.phase }, { on := 8, ground := Ground.phase }], guard := none }) rfl (fun K hK => ?_) AllReadyH.nil
                rw [if_pos (by rfl)]
                refine wp_store_row 24 _ _ rfl rb C6 (by first | rfl | simp [Act.eval]) (by first | rfl | simp [Act.eval]) 24 _ K6.out.2.1 HN24.out.1 HN24.out.2.1 HN24.out.2.2 ?_
                rw [e6]
                refine hK.out _ _ ?_ (fun hHeld6 => ?_)
                · exact K6.out.2.2.1
                clear hK K
                try simp only [Act.put, List.setIfInBounds_toArray, List.set_cons_zero, List.set_cons_succ]
                refine wpAnyH_done (by kernel_rfl) ?_ _
                have HNX2 : Hid (EI h f 5 (J + 1) b2 (pt R2 o L) ∧ RcH rb (pt R2 o L) W6 ∧ Fr (fun k => k = rb) WN W6) := ⟨HNX.out, K6.out.2.2.2, K6.out.2.2.1.1⟩
                clear HNX HP24 HN24 HD24 HS24 HI24
                go_wp2_with fail
                go_roundg (N - (J + 1))
                case measure => omega
                case rel => exact ⟨J + 1, b2, pt R2 o L, by omega, by omega, rfl, by first | rfl | (congr 1), HNX2⟩
            · have hJN : J = N := by omega
              have hnl : ¬ (J : Int) < (N : Int) := by omega
              have h7 : EI h f 5 7 b2 R2 := EI.all (by rw [HNe.out, ← hJN]; exact HI.out.1)
              have hfit := h7.fit
              have hNr : Nw w wr := Fr.then HNN.out HI.out.2.2 (fun i hi => .inr (by omega))
              have hQr : RcH qb zrec wr := HQN.out.kept HI.out.2.2 (by omega)
              clear hJN
              cases b2 with
              | false =>
                obtain ⟨eE, eR⟩ := enc_no h hcv ht (by rw [hf]; exact hfit)
                obtain ⟨W5, e5, y1, y2, y3, y4, HE⟩ := HEND.out wr zrec 133 hNr hQr zrec_length eR eE
                have Y1 := tHid y1
                have Y2 := tHid y2
                have Y3 := tHid y3
                have Y4 := tHid y4
                clear y1 y2 y3 y4 HEND HF HI h7 hNr hQr
                go_wp2_with (first
                  | (go_at_call 25; with_reducible refine (HHAS.out _).mono ?_; rintro e w' ⟨rfl, rfl⟩)
                  | (refine wpList_store_row rfl 24 _ _ rfl qb (rc zrec) (by first | rfl | simp [Act.eval]) (by first | rfl | simp [Act.eval]) 24 _ Y2.out Y1.out (by first | exact Y3.out | rfl) Y4.out ?_; rw [e5]))
                (try simp only [Exit.inBlock, Exit.then])
                exact HE.out _ rfl rfl
              | true =>
                obtain ⟨eE, eR⟩ := enc_yes h hcv ht (by rw [hf]; exact hfit)
                rw [hf, ← h7.last ok] at eR
                have c8r : wr.cell? ⟨hb, 8, none⟩ = some (.int .u8 h.typ.toNat) := cell_of (cell_kept HI.out.2.2 HHN.out (by omega)) 8 _ rfl
                have hRl := h7.len
                obtain ⟨r1, r2⟩ := HI.out.2.1.cell 156 (by omega)
                obtain ⟨R6, hR6⟩ : ∃ R6, R2.set 156 h.typ = R6 := ⟨_, rfl⟩
                have hR6l : R6.length = 512 := by rw [← hR6, List.length_set]; exact hRl
                obtain ⟨W5, hW5⟩ : ∃ W5, wr.setCell ⟨rb, 156, none⟩ (.int .u8 h.typ.toNat) = W5 := ⟨_, rfl⟩
                have hRc6 : RcH rb R6 W5 := by rw [← hW5, ← hR6]; exact HI.out.2.1.set 156 h.typ _ rfl
                have hF5 : Fr (fun k => k = rb) WN W5 := by rw [← hW5]; exact HI.out.2.2.setCell ⟨rb, 156, none⟩ _ (.inl rfl)
                rw [hR6] at eR
                obtain ⟨mL, hmL⟩ : ∃ mL, mg f = mL := ⟨_, rfl⟩
                have hm8 : mL.length = 8 := by rw [← hmL]; exact mg_length f
                have HMG : Hid (∀ V, Calls Try.prog 27 #[.int .i64 (f : Nat)] V fun e w' => e = .returned (.string (str mL)) ∧ w' = V) := fun V => by rw [← hmL]; exact wmagic_any f V
                rw [hmL] at eR
                obtain ⟨c5, V5, hcv5, hn5, ho5⟩ := cvb8 mL hm8 W5.drew
                obtain ⟨cb, hcb⟩ : ∃ cb, W5.drew.heap.size = cb := ⟨_, rfl⟩
                rw [hcb] at hcv5 ho5
                rw [hm8] at hcv5
                have n5 : Nw W5 V5 := Nw.trans ((Fr.refl _ _).drew) hn5
                have hcF : ∀ U, Fr (fun k => k = rb) WN U → U.cell? ⟨hb, 0, none⟩ = some (.int .i64 (f : Nat)) := fun U hU => by
                  have := cell_of (cell_kept hU HHN.out (by omega)) 0 (.int .i64 h.form) rfl
                  rw [hform] at this
                  exact this
                have HS28 : Hid (Fr (fun k => k = rb) WN W5.drew ∧ W5.drew.cell? ⟨hb, 0, none⟩ = some (.int .i64 (f : Nat))) := ⟨hF5.drew, hcF _ hF5.drew⟩
                have fv5 : Fr (fun k => k = rb) WN V5 := Fr.then hF5 n5 (fun i hi => hi.elim)
                have HS28c : Hid (Fr (fun k => k = rb) WN V5 ∧ V5.cell? ⟨hb, 0, none⟩ = some (.int .i64 (f : Nat))) := ⟨fv5, hcF _ fv5⟩
                have HD28 : Hid (RcH rb R6 W5.drew) := hRc6.kept ((Fr.refl _ _).drew : Nw W5 W5.drew) (fun h => h)
                have HD28c : Hid (RcH rb R6 V5) := hRc6.kept n5 (fun h => h)
                have HI28 := tHid (rc_info R6 hR6l)
                obtain ⟨R7, hR7⟩ : ∃ R7, pt R6 257 mL = R7 := ⟨_, rfl⟩
                have hR7l : R7.length = 512 := by rw [← hR7, pt_length _ _ _ (by omega)]; exact hR6l
                obtain ⟨C6, hC6⟩ : ∃ C6, rc R7 = C6 := ⟨_, rfl⟩
                have HN28 : Hid ((Try.prog.info? 24).map (·.size) = some C6.size ∧ (rc R6).size = C6.size ∧ C6.all (·.oneCell') = true) := by
                  rw [← hC6]
                  exact ⟨rc_info _ hR7l, by rw [rc_size, rc_size, hR6l, hR7l], rc_one _⟩
                have HP28 : Hid (Calls Try.prog 23 #[.agg (rc R6), .int .i64 257, .slice (some ⟨cb, 0, none⟩) 8 c5] V5 fun e V' => e = .returned (.agg C6) ∧ ∃ W6, V'.setRow rb C6 = W6 ∧ Hid ((Fr (fun k => k = rb) WN V' ∧ V'.cell? ⟨hb, 0, none⟩ = some (.int .i64 (f : Nat))) ∧ RcH rb R6 V' ∧ (Fr (fun k => k = rb) WN W6 ∧ W6.cell? ⟨hb, 0, none⟩ = some (.int .i64 (f : Nat))) ∧ RcH rb R7 W6)) := by
                  have t := wput_any R6 mL hR6l 257 (by omega) V5 (some ⟨cb, 0, none⟩) c5 ho5
                  have e257 : ((257 : Nat) : Int) = 257 := rfl
                  rw [e257, hm8, hR7, hC6] at t
                  refine t.mono ?_
                  rintro e V' ⟨rfl, hN⟩
                  have h6 : RcH rb R6 V' := HD28c.out.kept hN (fun h => h)
                  have hV : Fr (fun k => k = rb) WN V' := Fr.then fv5 hN (fun i hi => hi.elim)
                  have hW : Fr (fun k => k = rb) WN (V'.setRow rb C6) := hV.setRow rb _ (.inl rfl)
                  exact ⟨rfl, _, rfl, ⟨hV, hcF _ hV⟩, h6, ⟨hW, hcF _ hW⟩, by rw [← hC6]; exact h6.setRow _⟩
                have HSUM : Hid (∀ V, Calls Try.prog 28 #[.agg (rc R7)] V fun e w' => e = .returned (.agg (rc (psm R7))) ∧ Hid (Nw V w')) := fun V => rputSum_any R7 hR7l V
                rw [hR7] at eR
                clear HI h7 hNr hQr hF5 hRc6 hR6 hR7 hC6 ho5 hn5 n5 hcb fv5 hmL hfit
                go_upto_region 28 with (first
                  | (go_at_call 25; with_reducible refine (HHAS.out _).mono ?_; rintro e w' ⟨rfl, rfl⟩))
                go_cut [121] from 116 to 121 (fun v wx => Hid (RcH rb R7 wx ∧ Fr (fun k => k = rb) WN wx))
                case first =>
                  refine wp_region_held_drew (S := fun U => Fr (fun k => k = rb) WN U ∧ U.cell? ⟨hb, 0, none⟩ = some (.int .i64 (f : Nat))) (by kernel_rfl) HS28.out (fun hHeld => ?_)
                  refine wpAnyH_take (i := 1) (oi := { dst := some 117, op := Op.fieldAddr 23 (Operand.tmp 1) 0, type := 0, pos := "ref.go:167", after := #[], guard := none }) (v := ?_) rfl (by kernel_rfl) (by kernel_rfl) (by kernel_rfl) (fun _ _ _ h => h) (Or.inl ⟨by rfl, ?_⟩) (by assumption) ?_
                  rotate_left
                  · intro U hSw; obtain ⟨hSw0, hSw1⟩ := hSw; (go_simp <;> with_reducible rfl)
                  try simp only [Act.put, List.setIfInBounds_toArray, List.set_cons_zero, List.set_cons_succ]
                  refine wpAnyH_take (i := 2) (oi := { dst := some 118, op := Op.load 3 (Operand.tmp 117), type := 3, pos := "ref.go:167", after := #[{ on := 1, ground := Ground.data }], guard := none }) (v := ?_) rfl (by kernel_rfl) (by kernel_rfl) (by kernel_rfl) (fun _ _ _ h => h) (Or.inl ⟨by rfl, ?_⟩) (by assumption) ?_
                  rotate_left
                  · intro U hSw; obtain ⟨hSw0, hSw1⟩ := hSw; (go_simp <;> with_reducible rfl)
                  try simp only [Act.put, List.setIfInBounds_toArray, List.set_cons_zero, List.set_cons_succ]
                  refine wpAnyH_ready (rs := [0, 3]) (by kernel_rfl) (by simp) ?_
                  refine AllReadyH.cons (o := { dst := some 116, op := Op.load 24 (Operand.tmp 4), type := 24, pos := "ref.go:167", after := #[], guard := none }) rfl (fun K hK => ?_) (AllReadyH.cons (o := { dst := some 119, op := Op.call { callee := Callee.value (Operand.func 27), args := #[Operand.tmp 118], argTypes := #[3] }, type := 9, pos := "ref.go:167", after := #[{ on := 2, ground := Ground.data }], guard := none }) rfl (fun K hK => ?_) AllReadyH.nil)
                  · (
                    rw [if_pos (by rfl)]
                    refine wp_load_row 24 _ rfl rb (by first | rfl | simp [Act.eval]) 24 _ (0, 0) _ HD28.out Try.underlying24 rfl HI28.out ?_
                    refine hK.out _ _ (by assumption) (fun _ => ?_)
                    clear hK K
                    try simp only [Act.put, List.setIfInBounds_toArray, List.set_cons_zero, List.set_cons_succ]
                    refine wpAnyH_ready (rs := [3]) (by kernel_rfl) (by simp) ?_
                    refine AllReadyH.cons (o := { dst := some 119, op := Op.call { callee := Callee.value (Operand.func 27), args := #[Operand.tmp 118], argTypes := #[3] }, type := 9, pos := "ref.go:167", after := #[{ on := 2, ground := Ground.data }], guard := none }) rfl (fun K hK => ?_) AllReadyH.nil
                    go_simp
                    go_at_call 27; with_reducible refine (HMG.out _).mono ?_; rintro e w9 ⟨rfl, rfl⟩
                    (try go_wp2_with fail)
                    refine hK.out _ _ ?_ (fun _ => ?_)
                    · exact (by assumption)
                    clear hK K
                    try simp only [Act.put, List.setIfInBounds_toArray, List.set_cons_zero, List.set_cons_succ]
                    refine wpAnyH_ready (rs := [4]) (by kernel_rfl) (by simp) ?_
                    refine AllReadyH.cons (o := { dst := some 120, op := Op.convert 9 52 (Operand.tmp 119), type := 52, pos := "ref.go:167", after := #[{ on := 3, ground := Ground.data }], guard := none }) rfl (fun K hK => ?_) AllReadyH.nil
                    rw [if_pos (by rfl)]
                    go_simp
                    refine hK.out _ _ ?_ (fun hHeldC => ?_)
                    · exact HS28c.out
                    clear hK K
                    try simp only [Act.put, List.setIfInBounds_toArray, List.set_cons_zero, List.set_cons_succ]
                    refine wpAnyH_ready (rs := [5]) (by kernel_rfl) (by simp) ?_
                    refine AllReadyH.cons (o := { dst := some 121, op := Op.call { callee := Callee.value (Operand.func 23), args := #[Operand.tmp 116, Operand.const (Value.int IntKind.i64 257), Operand.tmp 120], argTypes := #[24, 3, 52] }, type := 24, pos := "ref.go:167", after := #[{ on := 0, ground := Ground.data }, { on := 4, ground := Ground.data }, { on := 3, ground := Ground.chain }], guard := none }) rfl (fun K hK => ?_) AllReadyH.nil
                    go_simp
                    go_at_call 23; with_reducible refine HP28.out.mono ?_; rintro e w5 ⟨rfl, W6, e6, K6⟩
                    (try go_wp2_with fail)
                    refine hK.out _ _ ?_ (fun hHeld5 => ?_)
                    · exact K6.out.1
                    clear hK K
                    try simp only [Act.put, List.setIfInBounds_toArray, List.set_cons_zero, List.set_cons_succ]
                    refine wpAnyH_ready (rs := [6]) (by kernel_rfl) (by simp) ?_
                    refine AllReadyH.cons (o := { dst := none, op := Op.store 24 (Operand.tmp 4) (Operand.tmp 121), type := 0, pos := "ref.go:167", after := #[{ on := 5, ground := Ground.data }, { on := 5, ground := Ground.chain }, { on := 0, ground := Ground.phase }, { on := 1, ground := Ground.phase }, { on := 2, ground := Ground.phase }, { on := 3, ground := Ground.phase }, { on := 4, ground := Ground.phase }, { on := 5, ground := Ground.phase }], guard := none }) rfl (fun K hK => ?_) AllReadyH.nil
                    rw [if_pos (by rfl)]
                    refine wp_store_row 24 _ _ rfl rb C6 (by first | rfl | simp [Act.eval]) (by first | rfl | simp [Act.eval]) 24 _ K6.out.2.1 HN28.out.1 HN28.out.2.1 HN28.out.2.2 ?_
                    rw [e6]
                    refine hK.out _ _ ?_ (fun hHeld6 => ?_)
                    · exact K6.out.2.2.1
                    clear hK K
                    try simp only [Act.put, List.setIfInBounds_toArray, List.set_cons_zero, List.set_cons_succ]
                    refine wpAnyH_done (by kernel_rfl) ?_ _
                    go_wp2_with fail
                    go_meet
                    exact ⟨K6.out.2.2.2, K6.out.2.2.1.1⟩
                    )
                  · (
                    go_simp
                    go_at_call 27; with_reducible refine (HMG.out _).mono ?_; rintro e w9 ⟨rfl, rfl⟩
                    (try go_wp2_with fail)
                    refine hK.out _ _ ?_ (fun _ => ?_)
                    · exact (by assumption)
                    clear hK K
                    try simp only [Act.put, List.setIfInBounds_toArray, List.set_cons_zero, List.set_cons_succ]
                    refine wpAnyH_ready (rs := [0, 4]) (by kernel_rfl) (by simp) ?_
                    refine AllReadyH.cons (o := { dst := some 116, op := Op.load 24 (Operand.tmp 4), type := 24, pos := "ref.go:167", after := #[], guard := none }) rfl (fun K hK => ?_) (AllReadyH.cons (o := { dst := some 120, op := Op.convert 9 52 (Operand.tmp 119), type := 52, pos := "ref.go:167", after := #[{ on := 3, ground := Ground.data }], guard := none }) rfl (fun K hK => ?_) AllReadyH.nil)
                    · (
                      rw [if_pos (by rfl)]
                      refine wp_load_row 24 _ rfl rb (by first | rfl | simp [Act.eval]) 24 _ (0, 0) _ HD28.out Try.underlying24 rfl HI28.out ?_
                      refine hK.out _ _ (by assumption) (fun _ => ?_)
                      clear hK K
                      try simp only [Act.put, List.setIfInBounds_toArray, List.set_cons_zero, List.set_cons_succ]
                      refine wpAnyH_ready (rs := [4]) (by kernel_rfl) (by simp) ?_
                      refine AllReadyH.cons (o := { dst := some 120, op := Op.convert 9 52 (Operand.tmp 119), type := 52, pos := "ref.go:167", after := #[{ on := 3, ground := Ground.data }], guard := none }) rfl (fun K hK => ?_) AllReadyH.nil
                      rw [if_pos (by rfl)]
                      go_simp
                      refine hK.out _ _ ?_ (fun hHeldC => ?_)
                      · exact HS28c.out
                      clear hK K
                      try simp only [Act.put, List.setIfInBounds_toArray, List.set_cons_zero, List.set_cons_succ]
                      refine wpAnyH_ready (rs := [5]) (by kernel_rfl) (by simp) ?_
                      refine AllReadyH.cons (o := { dst := some 121, op := Op.call { callee := Callee.value (Operand.func 23), args := #[Operand.tmp 116, Operand.const (Value.int IntKind.i64 257), Operand.tmp 120], argTypes := #[24, 3, 52] }, type := 24, pos := "ref.go:167", after := #[{ on := 0, ground := Ground.data }, { on := 4, ground := Ground.data }, { on := 3, ground := Ground.chain }], guard := none }) rfl (fun K hK => ?_) AllReadyH.nil
                      go_simp
                      go_at_call 23; with_reducible refine HP28.out.mono ?_; rintro e w5 ⟨rfl, W6, e6, K6⟩
                      (try go_wp2_with fail)
                      refine hK.out _ _ ?_ (fun hHeld5 => ?_)
                      · exact K6.out.1
                      clear hK K
                      try simp only [Act.put, List.setIfInBounds_toArray, List.set_cons_zero, List.set_cons_succ]
                      refine wpAnyH_ready (rs := [6]) (by kernel_rfl) (by simp) ?_
                      refine AllReadyH.cons (o := { dst := none, op := Op.store 24 (Operand.tmp 4) (Operand.tmp 121), type := 0, pos := "ref.go:167", after := #[{ on := 5, ground := Ground.data }, { on := 5, ground := Ground.chain }, { on := 0, ground := Ground.phase }, { on := 1, ground := Ground.phase }, { on := 2, ground := Ground.phase }, { on := 3, ground := Ground.phase }, { on := 4, ground := Ground.phase }, { on := 5, ground := Ground.phase }], guard := none }) rfl (fun K hK => ?_) AllReadyH.nil
                      rw [if_pos (by rfl)]
                      refine wp_store_row 24 _ _ rfl rb C6 (by first | rfl | simp [Act.eval]) (by first | rfl | simp [Act.eval]) 24 _ K6.out.2.1 HN28.out.1 HN28.out.2.1 HN28.out.2.2 ?_
                      rw [e6]
                      refine hK.out _ _ ?_ (fun hHeld6 => ?_)
                      · exact K6.out.2.2.1
                      clear hK K
                      try simp only [Act.put, List.setIfInBounds_toArray, List.set_cons_zero, List.set_cons_succ]
                      refine wpAnyH_done (by kernel_rfl) ?_ _
                      go_wp2_with fail
                      go_meet
                      exact ⟨K6.out.2.2.2, K6.out.2.2.1.1⟩
                      )
                    · (
                      rw [if_pos (by rfl)]
                      go_simp
                      refine hK.out _ _ ?_ (fun hHeldC => ?_)
                      · exact HS28c.out
                      clear hK K
                      try simp only [Act.put, List.setIfInBounds_toArray, List.set_cons_zero, List.set_cons_succ]
                      refine wpAnyH_ready (rs := [0]) (by kernel_rfl) (by simp) ?_
                      refine AllReadyH.cons (o := { dst := some 116, op := Op.load 24 (Operand.tmp 4), type := 24, pos := "ref.go:167", after := #[], guard := none }) rfl (fun K hK => ?_) AllReadyH.nil
                      rw [if_pos (by rfl)]
                      refine wp_load_row 24 _ rfl rb (by first | rfl | simp [Act.eval]) 24 _ (0, 0) _ HD28c.out Try.underlying24 rfl HI28.out ?_
                      refine hK.out _ _ (by assumption) (fun _ => ?_)
                      clear hK K
                      try simp only [Act.put, List.setIfInBounds_toArray, List.set_cons_zero, List.set_cons_succ]
                      refine wpAnyH_ready (rs := [5]) (by kernel_rfl) (by simp) ?_
                      refine AllReadyH.cons (o := { dst := some 121, op := Op.call { callee := Callee.value (Operand.func 23), args := #[Operand.tmp 116, Operand.const (Value.int IntKind.i64 257), Operand.tmp 120], argTypes := #[24, 3, 52] }, type := 24, pos := "ref.go:167", after := #[{ on := 0, ground := Ground.data }, { on := 4, ground := Ground.data }, { on := 3, ground := Ground.chain }], guard := none }) rfl (fun K hK => ?_) AllReadyH.nil
                      go_simp
                      go_at_call 23; with_reducible refine HP28.out.mono ?_; rintro e w5 ⟨rfl, W6, e6, K6⟩
                      (try go_wp2_with fail)
                      refine hK.out _ _ ?_ (fun hHeld5 => ?_)
                      · exact K6.out.1
                      clear hK K
                      try simp only [Act.put, List.setIfInBounds_toArray, List.set_cons_zero, List.set_cons_succ]
                      refine wpAnyH_ready (rs := [6]) (by kernel_rfl) (by simp) ?_
                      refine AllReadyH.cons (o := { dst := none, op := Op.store 24 (Operand.tmp 4) (Operand.tmp 121), type := 0, pos := "ref.go:167", after := #[{ on := 5, ground := Ground.data }, { on := 5, ground := Ground.chain }, { on := 0, ground := Ground.phase }, { on := 1, ground := Ground.phase }, { on := 2, ground := Ground.phase }, { on := 3, ground := Ground.phase }, { on := 4, ground := Ground.phase }, { on := 5, ground := Ground.phase }], guard := none }) rfl (fun K hK => ?_) AllReadyH.nil
                      rw [if_pos (by rfl)]
                      refine wp_store_row 24 _ _ rfl rb C6 (by first | rfl | simp [Act.eval]) (by first | rfl | simp [Act.eval]) 24 _ K6.out.2.1 HN28.out.1 HN28.out.2.1 HN28.out.2.2 ?_
                      rw [e6]
                      refine hK.out _ _ ?_ (fun hHeld6 => ?_)
                      · exact K6.out.2.2.1
                      clear hK K
                      try simp only [Act.put, List.setIfInBounds_toArray, List.set_cons_zero, List.set_cons_succ]
                      refine wpAnyH_done (by kernel_rfl) ?_ _
                      go_wp2_with fail
                      go_meet
                      exact ⟨K6.out.2.2.2, K6.out.2.2.1.1⟩
                      )
                    )
                case rest =>
                have HC : Hid (RcH rb R7 wc ∧ Fr (fun k => k = rb) WN wc) := hcut
                clear hcut HP28 HN28 HD28 HD28c HS28 HS28c hcv5
                have HR7 := tHid HC.out.1
                have HI7 := tHid (rc_info R7 hR7l)
                go_upto_region 29 with fail
                have HPS : Hid (Calls Try.prog 28 #[.agg (rc R7)] wc fun e w' => e = .returned (.agg (rc (psm R7))) ∧ Hid (Nw w w' ∧ RcH qb zrec w')) := (HSUM.out wc).mono (by
                  rintro e w' ⟨rfl, hk⟩
                  exact ⟨rfl, Nw.trans (Fr.then HNN.out HC.out.2 (fun i hi => .inr (by omega))) hk.out, (HQN.out.kept HC.out.2 (by omega)).kept hk.out (fun h => h)⟩)
                have hps : (psm R7).length = 512 := psm_length R7 hR7l
                have HE2 : Hid (∀ (W : World), Nw w W → RcH qb zrec W → _) := fun W h1 h2 => HEND.out W (psm R7) 0 h1 h2 hps eR eE
                clear HC HSUM HEND HNN HQN
                go_upto_region 29 with fail
                go_wp2_with (first
                  | (refine wpList_load_row rfl 24 _ rfl rb (by first | rfl | simp [Act.eval]) 24 _ (0, 0) _ HR7.out Try.underlying24 rfl HI7.out ?_)
                  | (go_at_call 28; with_reducible refine HPS.out.mono ?_; rintro e w7 ⟨rfl, K7⟩; obtain ⟨W8, e8, y1, y2, y3, y4, HE⟩ := HE2.out w7 K7.out.1 K7.out.2; have Y1 := tHid y1; have Y2 := tHid y2; have Y3 := tHid y3; have Y4 := tHid y4; clear y1 y2 y3 y4)
                  | (refine wpList_store_row rfl 24 _ _ rfl qb (rc (psm R7)) (by first | rfl | simp [Act.eval]) (by first | rfl | simp [Act.eval]) 24 _ Y2.out Y1.out Y3.out Y4.out ?_; rw [e8]))
                (try simp only [Exit.inBlock, Exit.then])
                exact HE.out _ rfl rfl
end Go.Proofs.Ytoegbaenheeogaa

namespace Go.Proofs.Ytoegbaenheeogaa
open Go.RowKit
set_option linter.unusedVariables false
set_option linter.unusedSimpArgs false
/-! ### HeaderWrites -/
set_option maxHeartbeats 1000000 in
set_option maxRecDepth 100000 in
theorem wname_any (h : Hr) (w : World) (hs : h.pfx.size + 1 + h.name.size ≤ 140737488351232) : Calls Try.prog 9 #[.agg h.C] w fun e w' => e = .returned (.string (nmF h)) ∧ Nw w w' := by
  obtain ⟨P, hP⟩ : ∃ P : Ending → World → Prop, P = fun e w' => e = .returned (.string (nmF h)) ∧ Nw w w' := ⟨_, rfl⟩
  rw [← hP]
  have HF : Hid (∀ W, Nw w W → P (.returned (.string (nmF h))) W) := fun W hW => by rw [hP]; exact ⟨rfl, hW⟩
  clear hP
  unfold nmF at HF
  have hb := eS_beq h.pfx
  unfold Hr.C
  by_cases h1 : h.pfx = eS
  · rw [if_pos h1] at HF
    rw [decide_eq_true h1] at hb
    clear h1
    generalize h.pfx = p at *
    generalize h.name = m at *
    go_enter Try.func9, Try.ntmps9
    go_wp2_with fail
    exact HF.out _ ((Fr.refl _ _).alloc _)
  · rw [if_neg h1] at HF
    rw [decide_eq_false h1] at hb
    clear h1
    generalize h.pfx = p at *
    generalize h.name = m at *
    go_enter Try.func9, Try.ntmps9
    go_wp2_with fail
    exact HF.out _ ((Fr.refl _ _).alloc _)
theorem RcH.rangeK {g : Nat} {b : List By} {w : World} (h : RcH g b w) : w.rangeAt g 0 (b.map bv) := fun j v hv => by
  rw [Nat.zero_add]
  unfold RcH rc at h
  simp only [World.cell?, h]
  simpa using hv
def hAB : Hr := { form := 0, name := ⟨#[98]⟩, pfx := ⟨#[97]⟩, mode := 0, uid := 0, gid := 0, size := 0, time := 0, typ := 0#8, link := ⟨#[]⟩, user := ⟨#[]⟩, group := ⟨#[]⟩, major := 0, minor := 0 }
theorem nmAB : nmF hAB = ⟨#[97, 47, 98]⟩ := by decide +kernel
set_option maxHeartbeats 16000000 in
set_option maxRecDepth 100000 in
theorem writes_walk (h : Hr) (ok : h.Ok) (w : World) (hs : h.name.size + h.pfx.size + h.link.size + h.user.size + h.group.size ≤ 1048576) :
    Calls Try.prog 3 #[.agg h.C] w fun e w' => e = .returned (.bool true) ∧ Nw w w' := by
  obtain ⟨P, hP⟩ : ∃ P : Ending → World → Prop, P = fun e w' => e = .returned (.bool true) ∧ Nw w w' := ⟨_, rfl⟩
  rw [← hP]
  have HF0 : Hid (∀ W, Nw w W → P (.returned (.bool true)) W) := fun W hW => by rw [hP]; exact ⟨rfl, hW⟩
  clear hP
  obtain ⟨R, hR⟩ : ∃ R, encR h = R := ⟨_, rfl⟩
  obtain ⟨E, hE⟩ : ∃ E : Nat, encE h = E := ⟨_, rfl⟩
  have hRl : R.length = 512 := by rw [← hR]; exact encR_length h ok
  have HC1 : Hid (∀ V, Calls Try.prog 6 #[.agg h.C] V fun e w' => e = .returned (.tuple #[.agg (rc R), .int .i64 (E : Nat)]) ∧ Hid (Nw V w')) := fun V => by rw [← hR, ← hE]; exact encode_any h ok V
  have HC2 : Hid (∀ V, Calls Try.prog 7 #[.agg h.C] V fun e w' => e = .returned (.tuple #[.agg (rc R), .int .i64 (E : Nat)]) ∧ Hid (Nw V w')) := fun V => by rw [← hR, ← hE]; exact wencode_any h ok V (by omega)
  obtain ⟨hb, hhb⟩ : ∃ hb, w.heap.size = hb := ⟨_, rfl⟩
  obtain ⟨W0, hW0⟩ : ∃ W0, w.alloc (.cells h.C 23) = W0 := ⟨_, rfl⟩
  have hN0 : Nw w W0 := by rw [← hW0]; exact (Fr.refl _ _).alloc _
  have hH0 : W0.heap[hb]? = some (.cells h.C 23) := by rw [← hW0, ← hhb]; exact newHeap _ _
  have HN0 := tHid hN0
  have HH0 := tHid hH0
  have HSZ := tHid (hcSize h)
  have HIX : Hid ((Try.prog.info? 24).map (·.size) = some (rc R).size ∧ (Try.zeroCells24 : Array Value).size = (rc R).size ∧ (rc R).all (·.oneCell') = true) := rz_facts R hRl
  have HST : Hid (∀ (V : World), ∃ W, (V.alloc (.cells Try.zeroCells24 24)).setRow V.heap.size (rc R) = W ∧ (V.alloc (.cells Try.zeroCells24 24)).heap[V.heap.size]? = some (.cells Try.zeroCells24 24) ∧ Hid (Nw V W ∧ RcH V.heap.size R W)) := fun V => by
    have h0 := newHeap V (.cells Try.zeroCells24 24)
    exact ⟨_, rfl, h0, ((Fr.refl _ _).alloc _).setRow _ _ (.inr (Nat.le_refl _)), setRow_heap _ _ _ _ 24 _ h0⟩
  obtain ⟨CH, hCH⟩ : ∃ CH, h.C.toList = CH := ⟨_, rfl⟩
  have hCA : h.C = CH.toArray := by rw [← hCH, Array.toArray_toList]
  obtain ⟨CR, hCR⟩ : ∃ CR, R.map bv = CR := ⟨_, rfl⟩
  have hRA : rc R = CR.toArray := by rw [← hCR]; rfl
  have heq := eql_rec R R hRl hRl
  rw [decide_eq_true rfl, hRA] at heq
  have hz1 : (Try.prog.info? 23).map (·.size) = some CH.length := by
    have := hcSize h
    rw [hCA] at this
    rw [this, List.size_toArray]
  have hz2 : (Try.prog.info? 24).map (·.size) = some CR.length := by
    have := rc_info R hRl
    rw [hRA] at this
    rw [this, List.size_toArray]
  have HCHI := tHid hz1
  have HCRI := tHid hz2
  have HCA := tHid hCA
  have HRA := tHid hRA
  have HCR := tHid hCR
  clear hz1 hz2 hN0 hH0 hCA hRA hCH hCR
  have HW0 := tHid hW0
  clear hW0
  go_enter Try.func3, Try.ntmps3
  go_upto_region 1 with fail
  rw [HW0.out]
  go_upto_region 2 with (first
    | (refine wpList_load_row rfl 23 _ rfl hb (by first | rfl | simp [Act.eval]) 23 h.C (0, 0) _ HH0.out Try.underlying23 rfl HSZ.out ?_)
    | (go_at_call 6; with_reducible refine (HC1.out _).mono ?_; rintro e w1 ⟨rfl, K1⟩; obtain ⟨W1, e1, q1, L1⟩ := HST.out w1; have Q1 := tHid q1)
    | (refine wpList_store_row rfl 24 _ _ rfl w1.heap.size (rc R) (by first | rfl | simp [Act.eval]) (by first | rfl | simp [Act.eval]) 24 _ Q1.out HIX.out.1 HIX.out.2.1 HIX.out.2.2 ?_; rw [e1]))
  have HNa := tHid (K1.out.trans L1.out.1)
  have HRx := tHid L1.out.2
  have HH1 : Hid (W1.heap[hb]? = some (.cells h.C 23)) := Nw.heap HNa.out HH0.out
  obtain ⟨xb, hxb⟩ : ∃ xb, w1.heap.size = xb := ⟨_, rfl⟩
  rw [hxb] at HRx
  clear K1 L1 e1 q1 Q1
  go_upto_region 3 with (first
    | (refine wpList_load_row rfl 23 _ rfl hb (by first | rfl | simp [Act.eval]) 23 h.C (0, 0) _ HH1.out Try.underlying23 rfl HSZ.out ?_)
    | (go_at_call 7; with_reducible refine (HC2.out _).mono ?_; rintro e w2 ⟨rfl, K2⟩; obtain ⟨W2, e2, q2, L2⟩ := HST.out w2; have Q2 := tHid q2)
    | (refine wpList_store_row rfl 24 _ _ rfl w2.heap.size (rc R) (by first | rfl | simp [Act.eval]) (by first | rfl | simp [Act.eval]) 24 _ Q2.out HIX.out.1 HIX.out.2.1 HIX.out.2.2 ?_; rw [e2]))
  have hNb := K2.out.trans L2.out.1
  have hRy := L2.out.2
  have hRx : RcH xb R W2 := HRx.out.kept hNb (fun h => h)
  have hH2 : W2.heap[hb]? = some (.cells h.C 23) := Nw.heap hNb HH1.out
  obtain ⟨yb, hyb⟩ : ∃ yb, w2.heap.size = yb := ⟨_, rfl⟩
  rw [hyb] at hRy ⊢
  have hNw : Nw w W2 := HN0.out.trans (HNa.out.trans hNb)
  have hS : ∀ U, Nw W2 U → U.rangeAt hb 0 CH ∧ U.rangeAt xb 0 CR ∧ U.rangeAt yb 0 CR := fun U hU => by
    have q1 : U.heap[hb]? = some (.cells h.C 23) := Nw.heap hU hH2
    have q2 : RcH xb R U := hRx.kept hU (fun h => h)
    have q3 : RcH yb R U := hRy.kept hU (fun h => h)
    refine ⟨fun j v hv => ?_, by rw [← HCR.out]; exact q2.rangeK, by rw [← HCR.out]; exact q3.rangeK⟩
    rw [Nat.zero_add]
    refine cell_of q1 j v ?_
    rw [HCA.out]; simpa using hv
  have HS3 := tHid (hS W2.drew ((Fr.refl _ _).drew))
  have HW3 : Hid (Nw W2 W2.drew) := (Fr.refl _ _).drew
  have HN1 : Hid (∀ V, Nw W2 V → Calls Try.prog 8 #[.agg CH.toArray] V fun e w' => e = .returned (.string (nmF h)) ∧ Hid ((w'.rangeAt hb 0 CH ∧ w'.rangeAt xb 0 CR ∧ w'.rangeAt yb 0 CR) ∧ Nw W2 w')) := fun V hV => by
    rw [← HCA.out]
    exact (name_any h V (by omega)).mono (fun e w' q => ⟨q.1, hS _ (hV.trans q.2), hV.trans q.2⟩)
  have HN2 : Hid (∀ V, Nw W2 V → Calls Try.prog 9 #[.agg CH.toArray] V fun e w' => e = .returned (.string (nmF h)) ∧ Hid ((w'.rangeAt hb 0 CH ∧ w'.rangeAt xb 0 CR ∧ w'.rangeAt yb 0 CR) ∧ Nw W2 w')) := fun V hV => by
    rw [← HCA.out]
    exact (wname_any h V (by omega)).mono (fun e w' q => ⟨q.1, hS _ (hV.trans q.2), hV.trans q.2⟩)
  have HNC : Hid (∀ V, Nw W2 V → Calls Try.prog 8 #[.agg #[.int .i64 0, .string ⟨#[98]⟩, .string ⟨#[97]⟩, .int .i64 0, .int .i64 0, .int .i64 0, .int .i64 0, .int .i64 0, .int .u8 0, .string ⟨#[]⟩, .string ⟨#[]⟩, .string ⟨#[]⟩, .int .i64 0, .int .i64 0]] V fun e w' => e = .returned (.string ⟨#[97, 47, 98]⟩) ∧ Hid ((w'.rangeAt hb 0 CH ∧ w'.rangeAt xb 0 CR ∧ w'.rangeAt yb 0 CR) ∧ Nw W2 w')) := fun V hV => by
    have t := name_any hAB V (by decide)
    rw [nmAB] at t
    exact t.mono (fun e w' q => ⟨q.1, hS _ (hV.trans q.2), hV.trans q.2⟩)
  have HF : Hid (∀ W, Nw W2 W → P (.returned (.bool true)) W) := fun W hW => HF0.out W (hNw.trans hW)
  obtain ⟨nm, hnm⟩ : ∃ nm, nmF h = nm := ⟨_, rfl⟩
  rw [hnm] at HN1 HN2
  have ess : (nm.toList == nm.toList) = true := by simp
  clear hS hNw hRx hRy hH2 hNb HRx HH1 HH0 HNa HN0 HC1 HC2 HST K2 L2 e2 q2 Q2 HCA HRA HCR hnm HF0
  refine wp_region_held_drew (S := fun U => U.rangeAt hb 0 CH ∧ U.rangeAt xb 0 CR ∧ U.rangeAt yb 0 CR) (by kernel_rfl) HS3.out (fun hHeld => ?_)
  refine wpAnyH_take (i := 0) (oi := { dst := some 17, op := Op.load 24 (Operand.tmp 3), type := 24, pos := "law.go:31", after := #[], guard := none }) (v := .agg CR.toArray) rfl (by kernel_rfl) (by kernel_rfl) (by kernel_rfl) (fun _ _ _ h => h) (yieldsIf_load_mid (by rfl) _ _ rfl xb 0 rfl CR _ (fun U hU => hU.2.1) Try.underlying24 rfl HCRI.out) (by assumption) ?_
  try simp only [Act.put, List.setIfInBounds_toArray, List.set_cons_zero, List.set_cons_succ]
  refine wpAnyH_take (i := 1) (oi := { dst := some 18, op := Op.load 24 (Operand.tmp 5), type := 24, pos := "law.go:31", after := #[], guard := none }) (v := .agg CR.toArray) rfl (by kernel_rfl) (by kernel_rfl) (by kernel_rfl) (fun _ _ _ h => h) (yieldsIf_load_mid (by rfl) _ _ rfl yb 0 rfl CR _ (fun U hU => hU.2.2) Try.underlying24 rfl HCRI.out) (by assumption) ?_
  try simp only [Act.put, List.setIfInBounds_toArray, List.set_cons_zero, List.set_cons_succ]
  refine wpAnyH_take (i := 2) (oi := { dst := some 19, op := Op.binOp BinOp.eql 24 (Operand.tmp 17) (Operand.tmp 18) 24, type := 4, pos := "law.go:31", after := #[{ on := 0, ground := Ground.data }, { on := 1, ground := Ground.data }], guard := none }) (v := ?_) rfl (by kernel_rfl) (by kernel_rfl) (by kernel_rfl) (fun _ _ _ h => h) (Or.inl ⟨by rfl, ?_⟩) (by assumption) ?_
  rotate_left
  · intro U hSw; obtain ⟨hSw0, hSw1, hSw2⟩ := hSw; (go_simp <;> with_reducible rfl)
  try simp only [Act.put, List.setIfInBounds_toArray, List.set_cons_zero, List.set_cons_succ]
  refine wpAnyH_take (i := 3) (oi := { dst := some 20, op := Op.move (Operand.tmp 19), type := 4, pos := "law.go:31", after := #[{ on := 2, ground := Ground.data }], guard := none }) (v := ?_) rfl (by kernel_rfl) (by kernel_rfl) (by kernel_rfl) (fun _ _ _ h => h) (Or.inl ⟨by rfl, ?_⟩) (by assumption) ?_
  rotate_left
  · intro U hSw; obtain ⟨hSw0, hSw1, hSw2⟩ := hSw; (go_simp <;> with_reducible rfl)
  try simp only [Act.put, List.setIfInBounds_toArray, List.set_cons_zero, List.set_cons_succ]
  refine wpAnyH_take (i := 4) (oi := { dst := some 21, op := Op.move (Operand.tmp 4), type := 25, pos := "law.go:31", after := #[{ on := 3, ground := Ground.guard }], guard := some (3, true) }) (v := ?_) rfl (by kernel_rfl) (by kernel_rfl) (by kernel_rfl) (fun _ _ _ h => h) (Or.inl ⟨by rfl, ?_⟩) (by assumption) ?_
  rotate_left
  · intro U hSw; obtain ⟨hSw0, hSw1, hSw2⟩ := hSw; (go_simp <;> with_reducible rfl)
  try simp only [Act.put, List.setIfInBounds_toArray, List.set_cons_zero, List.set_cons_succ]
  refine wpAnyH_take (i := 5) (oi := { dst := some 22, op := Op.move (Operand.tmp 6), type := 25, pos := "law.go:31", after := #[{ on := 3, ground := Ground.guard }], guard := some (3, true) }) (v := ?_) rfl (by kernel_rfl) (by kernel_rfl) (by kernel_rfl) (fun _ _ _ h => h) (Or.inl ⟨by rfl, ?_⟩) (by assumption) ?_
  rotate_left
  · intro U hSw; obtain ⟨hSw0, hSw1, hSw2⟩ := hSw; (go_simp <;> with_reducible rfl)
  try simp only [Act.put, List.setIfInBounds_toArray, List.set_cons_zero, List.set_cons_succ]
  refine wpAnyH_take (i := 6) (oi := { dst := some 23, op := Op.binOp BinOp.eql 25 (Operand.tmp 21) (Operand.tmp 22) 25, type := 4, pos := "law.go:31", after := #[{ on := 4, ground := Ground.data }, { on := 5, ground := Ground.data }, { on := 3, ground := Ground.guard }], guard := some (3, true) }) (v := ?_) rfl (by kernel_rfl) (by kernel_rfl) (by kernel_rfl) (fun _ _ _ h => h) (Or.inl ⟨by rfl, ?_⟩) (by assumption) ?_
  rotate_left
  · intro U hSw; obtain ⟨hSw0, hSw1, hSw2⟩ := hSw; (go_simp <;> with_reducible rfl)
  try simp only [Act.put, List.setIfInBounds_toArray, List.set_cons_zero, List.set_cons_succ]
  refine wpAnyH_take (i := 7) (oi := { dst := some 24, op := Op.pick (Operand.tmp 20) (Operand.tmp 23) (Operand.const (Value.bool false)), type := 4, pos := "law.go:31", after := #[{ on := 3, ground := Ground.data }, { on := 6, ground := Ground.data }], guard := none }) (v := ?_) rfl (by kernel_rfl) (by kernel_rfl) (by kernel_rfl) (fun _ _ _ h => h) (Or.inl ⟨by rfl, ?_⟩) (by assumption) ?_
  rotate_left
  · intro U hSw; obtain ⟨hSw0, hSw1, hSw2⟩ := hSw; (go_simp <;> with_reducible rfl)
  try simp only [Act.put, List.setIfInBounds_toArray, List.set_cons_zero, List.set_cons_succ]
  refine wpAnyH_take (i := 8) (oi := { dst := some 25, op := Op.move (Operand.tmp 24), type := 4, pos := "law.go:31", after := #[{ on := 7, ground := Ground.data }, { on := 3, ground := Ground.chain }], guard := none }) (v := ?_) rfl (by kernel_rfl) (by kernel_rfl) (by kernel_rfl) (fun _ _ _ h => h) (Or.inl ⟨by rfl, ?_⟩) (by assumption) ?_
  rotate_left
  · intro U hSw; obtain ⟨hSw0, hSw1, hSw2⟩ := hSw; (go_simp <;> with_reducible rfl)
  try simp only [Act.put, List.setIfInBounds_toArray, List.set_cons_zero, List.set_cons_succ]
  refine wpAnyH_take (i := 9) (oi := { dst := some 26, op := Op.load 23 (Operand.tmp 1), type := 23, pos := "law.go:31", after := #[{ on := 8, ground := Ground.guard }], guard := some (8, true) }) (v := .agg CH.toArray) rfl (by kernel_rfl) (by kernel_rfl) (by kernel_rfl) (fun _ _ _ h => h) (yieldsIf_load_mid (by rfl) _ _ rfl hb 0 rfl CH _ (fun U hU => hU.1) Try.underlying23 rfl HCHI.out) (by assumption) ?_
  try simp only [Act.put, List.setIfInBounds_toArray, List.set_cons_zero, List.set_cons_succ]
  refine wpAnyH_take (i := 11) (oi := { dst := some 28, op := Op.load 23 (Operand.tmp 1), type := 23, pos := "law.go:31", after := #[{ on := 8, ground := Ground.guard }], guard := some (8, true) }) (v := .agg CH.toArray) rfl (by kernel_rfl) (by kernel_rfl) (by kernel_rfl) (fun _ _ _ h => h) (yieldsIf_load_mid (by rfl) _ _ rfl hb 0 rfl CH _ (fun U hU => hU.1) Try.underlying23 rfl HCHI.out) (by assumption) ?_
  try simp only [Act.put, List.setIfInBounds_toArray, List.set_cons_zero, List.set_cons_succ]
  refine wpAnyH_ready (rs := [10]) (by kernel_rfl) (by simp) ?_
  refine AllReadyH.cons (o := { dst := some 27, op := Op.call { callee := Callee.value (Operand.func 8), args := #[Operand.tmp 26], argTypes := #[23] }, type := 9, pos := "law.go:31", after := #[{ on := 9, ground := Ground.data }, { on := 8, ground := Ground.chain }, { on := 8, ground := Ground.guard }], guard := some (8, true) }) rfl (fun K hK => ?_) AllReadyH.nil
  go_simp
  go_at_call 8; with_reducible refine (HN1.out _ HW3.out).mono ?_; rintro e w4 ⟨rfl, K4⟩
  (try go_wp2_with fail)
  refine hK.out _ _ ?_ (fun hHeld4 => ?_)
  · exact K4.out.1
  clear hK K
  try simp only [Act.put, List.setIfInBounds_toArray, List.set_cons_zero, List.set_cons_succ]
  refine wpAnyH_ready (rs := [12]) (by kernel_rfl) (by simp) ?_
  refine AllReadyH.cons (o := { dst := some 29, op := Op.call { callee := Callee.value (Operand.func 9), args := #[Operand.tmp 28], argTypes := #[23] }, type := 9, pos := "law.go:31", after := #[{ on := 11, ground := Ground.data }, { on := 10, ground := Ground.chain }, { on := 8, ground := Ground.guard }], guard := some (8, true) }) rfl (fun K hK => ?_) AllReadyH.nil
  go_simp
  go_at_call 9; with_reducible refine (HN2.out _ K4.out.2).mono ?_; rintro e w5 ⟨rfl, K5⟩
  (try go_wp2_with fail)
  refine hK.out _ _ ?_ (fun hHeld5 => ?_)
  · exact K5.out.1
  clear hK K
  try simp only [Act.put, List.setIfInBounds_toArray, List.set_cons_zero, List.set_cons_succ]
  refine wpAnyH_take (i := 13) (oi := { dst := some 30, op := Op.binOp BinOp.eql 9 (Operand.tmp 27) (Operand.tmp 29) 9, type := 4, pos := "law.go:31", after := #[{ on := 10, ground := Ground.data }, { on := 12, ground := Ground.data }, { on := 8, ground := Ground.guard }], guard := some (8, true) }) (v := ?_) rfl (by kernel_rfl) (by kernel_rfl) (by kernel_rfl) (fun _ _ _ h => h) (Or.inl ⟨by rfl, ?_⟩) (by assumption) ?_
  rotate_left
  · intro U hSw; obtain ⟨hSw0, hSw1, hSw2⟩ := hSw; (go_simp <;> with_reducible rfl)
  try simp only [Act.put, List.setIfInBounds_toArray, List.set_cons_zero, List.set_cons_succ]
  refine wpAnyH_take (i := 14) (oi := { dst := some 31, op := Op.pick (Operand.tmp 25) (Operand.tmp 30) (Operand.const (Value.bool false)), type := 4, pos := "law.go:31", after := #[{ on := 8, ground := Ground.data }, { on := 13, ground := Ground.data }], guard := none }) (v := ?_) rfl (by kernel_rfl) (by kernel_rfl) (by kernel_rfl) (fun _ _ _ h => h) (Or.inl ⟨by rfl, ?_⟩) (by assumption) ?_
  rotate_left
  · intro U hSw; obtain ⟨hSw0, hSw1, hSw2⟩ := hSw; (go_simp <;> with_reducible rfl)
  try simp only [Act.put, List.setIfInBounds_toArray, List.set_cons_zero, List.set_cons_succ]
  refine wpAnyH_take (i := 15) (oi := { dst := some 32, op := Op.move (Operand.tmp 31), type := 4, pos := "law.go:31", after := #[{ on := 14, ground := Ground.data }, { on := 12, ground := Ground.chain }], guard := none }) (v := ?_) rfl (by kernel_rfl) (by kernel_rfl) (by kernel_rfl) (fun _ _ _ h => h) (Or.inl ⟨by rfl, ?_⟩) (by assumption) ?_
  rotate_left
  · intro U hSw; obtain ⟨hSw0, hSw1, hSw2⟩ := hSw; (go_simp <;> with_reducible rfl)
  try simp only [Act.put, List.setIfInBounds_toArray, List.set_cons_zero, List.set_cons_succ]
  refine wpAnyH_take (i := 16) (oi := { dst := some 33, op := Op.build 23 #[(1, Operand.const (Value.string { data := #[98] })), (2, Operand.const (Value.string { data := #[97] }))], type := 23, pos := "law.go:31", after := #[{ on := 15, ground := Ground.guard }], guard := some (15, true) }) (v := ?_) rfl (by kernel_rfl) (by kernel_rfl) (by kernel_rfl) (fun _ _ _ h => h) (Or.inl ⟨by rfl, ?_⟩) (by assumption) ?_
  rotate_left
  · intro U hSw; obtain ⟨hSw0, hSw1, hSw2⟩ := hSw; (go_simp <;> with_reducible rfl)
  try simp only [Act.put, List.setIfInBounds_toArray, List.set_cons_zero, List.set_cons_succ]
  refine wpAnyH_ready (rs := [17]) (by kernel_rfl) (by simp) ?_
  refine AllReadyH.cons (o := { dst := some 34, op := Op.call { callee := Callee.value (Operand.func 8), args := #[Operand.tmp 33], argTypes := #[23] }, type := 9, pos := "law.go:31", after := #[{ on := 16, ground := Ground.data }, { on := 15, ground := Ground.chain }, { on := 15, ground := Ground.guard }], guard := some (15, true) }) rfl (fun K hK => ?_) AllReadyH.nil
  go_simp
  go_at_call 8; with_reducible refine (HNC.out _ K5.out.2).mono ?_; rintro e w6 ⟨rfl, K6⟩
  (try go_wp2_with fail)
  refine hK.out _ _ ?_ (fun hHeld6 => ?_)
  · exact K6.out.1
  clear hK K
  try simp only [Act.put, List.setIfInBounds_toArray, List.set_cons_zero, List.set_cons_succ]
  refine wpAnyH_take (i := 18) (oi := { dst := some 35, op := Op.binOp BinOp.eql 9 (Operand.tmp 34) (Operand.const (Value.string { data := #[97, 47, 98] })) 9, type := 4, pos := "law.go:31", after := #[{ on := 17, ground := Ground.data }, { on := 15, ground := Ground.guard }], guard := some (15, true) }) (v := ?_) rfl (by kernel_rfl) (by kernel_rfl) (by kernel_rfl) (fun _ _ _ h => h) (Or.inl ⟨by rfl, ?_⟩) (by assumption) ?_
  rotate_left
  · intro U hSw; obtain ⟨hSw0, hSw1, hSw2⟩ := hSw; (go_simp <;> with_reducible rfl)
  try simp only [Act.put, List.setIfInBounds_toArray, List.set_cons_zero, List.set_cons_succ]
  refine wpAnyH_take (i := 19) (oi := { dst := some 36, op := Op.pick (Operand.tmp 32) (Operand.tmp 35) (Operand.const (Value.bool false)), type := 4, pos := "law.go:31", after := #[{ on := 15, ground := Ground.data }, { on := 18, ground := Ground.data }], guard := none }) (v := ?_) rfl (by kernel_rfl) (by kernel_rfl) (by kernel_rfl) (fun _ _ _ h => h) (Or.inl ⟨by rfl, ?_⟩) (by assumption) ?_
  rotate_left
  · intro U hSw; obtain ⟨hSw0, hSw1, hSw2⟩ := hSw; (go_simp <;> with_reducible rfl)
  try simp only [Act.put, List.setIfInBounds_toArray, List.set_cons_zero, List.set_cons_succ]
  refine wpAnyH_take (i := 20) (oi := { dst := some 2, op := Op.assign (Operand.tmp 36), type := 4, pos := "law.go:31", after := #[{ on := 19, ground := Ground.data }, { on := 17, ground := Ground.chain }, { on := 0, ground := Ground.phase }, { on := 1, ground := Ground.phase }, { on := 2, ground := Ground.phase }, { on := 3, ground := Ground.phase }, { on := 4, ground := Ground.phase }, { on := 5, ground := Ground.phase }, { on := 6, ground := Ground.phase }, { on := 7, ground := Ground.phase }, { on := 8, ground := Ground.phase }, { on := 9, ground := Ground.phase }, { on := 10, ground := Ground.phase }, { on := 11, ground := Ground.phase }, { on := 12, ground := Ground.phase }, { on := 13, ground := Ground.phase }, { on := 14, ground := Ground.phase }, { on := 15, ground := Ground.phase }, { on := 16, ground := Ground.phase }, { on := 17, ground := Ground.phase }, { on := 18, ground := Ground.phase }, { on := 19, ground := Ground.phase }], guard := none }) (v := ?_) rfl (by kernel_rfl) (by kernel_rfl) (by kernel_rfl) (fun _ _ _ h => h) (Or.inl ⟨by rfl, ?_⟩) (by assumption) ?_
  rotate_left
  · intro U hSw; obtain ⟨hSw0, hSw1, hSw2⟩ := hSw; (go_simp <;> with_reducible rfl)
  try simp only [Act.put, List.setIfInBounds_toArray, List.set_cons_zero, List.set_cons_succ]
  refine wpAnyH_done (by kernel_rfl) ?_ _
  go_wp2_with fail
  exact HF.out _ K6.out.2
end Go.Proofs.Ytoegbaenheeogaa

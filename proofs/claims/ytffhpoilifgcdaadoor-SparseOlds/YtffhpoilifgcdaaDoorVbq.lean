import Derived.Test.YtffhpoilifgcdaaDoorVbp
import Derived.Test.YtffhpoilifgcdaaDoorVas
namespace Go.Proofs.YtffhpoilifgcdaaDoor
open Go.RowKit
set_option linter.unusedVariables false
set_option linter.unusedSimpArgs false
/-! ### The document's PutOld -/
theorem pto_one (R : List By) (o : Nat) (y : By) (h : o < R.length) : pto R o [y] = R.set o y := by
  have := pto_cons R o y [] (by simp only [List.length_nil]; omega)
  rw [pto_nil] at this
  exact this.symm
theorem smT_tab (l : List Rg) (r : Nat) : tabI r l (min l.length r) = smT l r ++ [flg r l] := by
  unfold tabI smT
  rw [← List.append_assoc]
  have e1 : l.take (min l.length r) = l.take r := by
    by_cases h : l.length ≤ r
    · rw [List.take_of_length_le (by omega), List.take_of_length_le h]
    · rw [show min l.length r = r by omega]
  rw [e1, show r - min l.length r = r - l.length by omega]
theorem some_tab (R : List By) (hR : R.length = 512) (f r : Nat) (hfr : f + r * 24 < 512) (l : List Rg) (h : ∀ x ∈ l, OkG x) : (pto R f (smT l r)).set (f + r * 24) (flg r l) = pto R f (tabI r l (min l.length r)) := by
  have hs := smT_len l h r
  have e2 := pto_app R (smT l r) [flg r l] f (by rw [hs, List.length_singleton]; omega)
  rw [smT_tab, ← e2, hs, pto_one _ _ _ (by rw [pto_len _ _ _ (by omega)]; omega)]
theorem set_same (X : List By) (i : Nat) (y : By) (h : X[i]? = some y) : X.set i y = X := by
  apply List.ext_getElem?
  intro j
  rw [List.getElem?_set]
  have hi := (List.getElem?_eq_some_iff.1 h).1
  by_cases e : i = j
  · rw [if_pos e, if_pos hi, ← e, h]
  · rw [if_neg e]
theorem fur_yes (l : List Rg) (h : ∀ x ∈ l, OkG x) (hl : 21 < l.length) : (pto zrec 0 (smT l 21)).set 504 1#8 = furR l := by
  have := some_tab zrec zrec_length 0 21 (by omega) l h
  unfold furR
  rw [← this]
  unfold flg
  rw [if_pos hl]
theorem fur_no (l : List Rg) (h : ∀ x ∈ l, OkG x) (hl : ¬ 21 < l.length) : pto zrec 0 (smT l 21) = furR l := by
  have := some_tab zrec zrec_length 0 21 (by omega) l h
  unfold furR
  rw [← this]
  unfold flg
  rw [if_neg hl]
  refine (set_same _ _ _ ?_).symm
  have hs := smT_len l h 21
  rw [pto_at _ _ _ (by rw [hs, zrec_length]; omega), if_neg (by omega)]
  unfold zrec
  rw [List.getElem?_replicate, if_pos (by omega)]
theorem fst_tab (R : List By) (hR : R.length = 512) (l : List Rg) (h : ∀ x ∈ l, OkG x) (z : Int) : pto ((pto R 386 (smT l 4)).set 482 (flg 4 l)) 483 (pnL z 12) = fstR R l z := by
  unfold fstR
  rw [← some_tab R hR 386 4 (by omega) l h]
set_option maxHeartbeats 16000000 in
set_option maxRecDepth 100000 in
theorem yputOld_any (w : World) (R : List By) (hR : R.length = 512) (l : List Rg) (z : Int) (hz : z ≤ 9223372036854775807) (a : Option Addr) (n c : Nat) (hl : SlR RG (fun k => w.heap.size ≤ k) (.slice a n c) l w) :
    Calls Tryd.prog 18 #[.agg (rc R), .slice a n c, .int .i64 z] w (PoA w R l z) := by
  obtain ⟨P, hP⟩ : ∃ P : Ending → World → Prop, P = PoA w R l z := ⟨_, rfl⟩
  rw [← hP]
  obtain ⟨rb, hrb⟩ : ∃ rb, w.heap.size = rb := ⟨_, rfl⟩
  obtain ⟨qb, hqb⟩ : ∃ qb, rb + 1 = qb := ⟨_, rfl⟩
  obtain ⟨W1, hW1⟩ : ∃ W1, (w.alloc (.cells (rc R) 36)).alloc (.cells Tryd.zeroCells36 36) = W1 := ⟨_, rfl⟩
  have s1 : (w.alloc (.cells (rc R) 36)).heap.size = w.heap.size + 1 := by simp
  have s2 : W1.heap.size = qb + 1 := by rw [← hW1]; simp; omega
  have hN1 : Nw w W1 := by rw [← hW1]; exact ((Fr.refl _ _).alloc _).alloc _
  have hr1 : RcO rb R W1 := by rw [← hW1, ← hrb]; exact Nw.heap ((Fr.refl _ _).alloc _) (nHeap _ _)
  have hq1 : RcO qb zrec W1 := by
    rw [← hW1, ← hqb, ← hrb, ← s1]
    unfold RcO
    rw [← zrec_rc]
    exact nHeap _ _
  have HV : Hid (Calls Tryd.prog 26 #[.slice a n c, .int .i64 z] W1 fun e w' => e = .returned (.bool (vld l z)) ∧ Hid (Nw W1 w')) := (rvalid_any W1 a n c l (hl.nw hN1) z).mono (fun e w' q => ⟨q.1, q.2⟩)
  have HI : Hid (∀ b : List By, b.length = 512 → (Tryd.prog.info? 36).map (·.size) = some (rc b).size ∧ (∀ d : List By, d.length = 512 → (rc d).size = (rc b).size) ∧ (rc b).all (·.oneCell') = true) := fun b hb => ⟨rc_info b hb, fun d hd => by rw [rc_size, rc_size, hd, hb], rc_one b⟩
  have HEND : Hid (∀ (W : World) (b : List By) (v : Value) (E : Nat), Nw W1 W → b.length = 512 → ∃ W5, W.setRow qb (rc b) = W5 ∧ W.heap[qb]? = some (.cells (rc zrec) 36) ∧ Hid (Nw w W5 ∧ Fr (fun k => k = qb) W W5 ∧ ∀ tmps : Array Value, tmps.getD 6 undef = .pointer (some ⟨qb, 0, none⟩) → tmps.getD 7 undef = v → tmps.getD 8 undef = .int .i64 (E : Nat) → P (.returned (.tuple #[.agg (rc b), v, .int .i64 (E : Nat)])) W5 → bodyPost Tryd.prog Tryd.f18 P .ret ⟨tmps, []⟩ W5)) := fun W b v E hW hbl => by
    have hq : W.heap[qb]? = some (.cells (rc zrec) 36) := Nw.heap hW hq1
    have f5 : Fr (fun k => k = qb) W (W.setRow qb (rc b)) := (Fr.refl _ _).setRow qb _ (.inl rfl)
    refine ⟨_, rfl, hq, (hN1.trans hW).then f5 (fun i hi => .inr (by omega)), f5, fun tmps h4 h5 h6 h7 => ?_⟩
    have hq5 : (W.setRow qb (rc b)).heap[qb]? = some (.cells (rc b) 36) := setRow_heap _ _ _ _ 36 _ hq
    refine bodyPost_ret (v := .tuple #[.agg (rc b), v, .int .i64 (E : Nat)]) ?_ rfl h7
    rw [results_c33 rfl tmps _ qb (rc b) h4 hq5 (rc_info b hbl), h5, h6]
  have HN1 := tHid hN1
  have HR1 := tHid hr1
  have HW1 := tHid hW1
  have HL := tHid hl
  have HS2 := tHid s2
  have HRB := tHid hrb
  have HZC : Hid ((Tryd.zeroCells36 : Array Value) = rc zrec) := zrec_rc
  clear hr1 hq1 hW1 hN1 hl s1 s2
  obtain ⟨a', c', e, m1, m2, mf⟩ := HL.out.form
  injection e with e1 e2 e3
  subst e1 e2 e3
  cases hv : vld l z with
  | false =>
    rw [hv] at HV
    have HFB : Hid (∀ W5, Nw w W5 → P (.returned (.tuple #[.agg (rc R), .slice none 0 0, .int .i64 (1 : Nat)])) W5) := fun W5 h => by rw [hP]; exact .inl ⟨hv, rfl, h⟩
    clear hP mf
    go_enter Tryd.func18, Tryd.ntmps18
    go_upto_region 1 with fail
    rw [HW1.out]
    go_upto_region 2 with (first | (go_at_call 26; with_reducible refine HV.out.mono ?_; rintro e w2 ⟨rfl, K2⟩))
    obtain ⟨W5, e5, hq5, HE⟩ := HEND.out w2 R (.slice none 0 0) 1 K2.out hR
    have HQ5 := tHid hq5
    have HR2 : Hid (w2.heap[rb]? = some (.cells (rc R) 36)) := Nw.heap K2.out HR1.out
    have HI2 := tHid (HI.out R hR)
    have HI3 := tHid (HI2.out.2.1 zrec zrec_length)
    clear hq5
    go_wp2_with (first
      | (refine wpList_load_row rfl 36 _ rfl rb (by first | rfl | simp [Act.eval]) 36 _ (0, 0) _ HR2.out Tryd.underlying36 rfl HI2.out.1 ?_)
      | (refine wpList_store_row rfl 36 _ _ rfl qb (rc R) (by first | rfl | simp [Act.eval]) (by first | rfl | simp [Act.eval]) 36 _ HQ5.out HI2.out.1 HI3.out HI2.out.2.2 ?_; rw [e5]))
    (try simp only [Exit.inBlock, Exit.then])
    exact HE.out.2.2 _ rfl rfl rfl (HFB.out W5 HE.out.1)
  | true =>
    rw [hv] at HV
    obtain ⟨hz0, hln, hok⟩ := vld_ok hv hz
    have HFO : Hid (∀ W5 a' n' c' og, Nw w W5 → OgR RR og (.slice a' n' c') (furs (l.drop 4).length (l.drop 4)) W5 → (∀ g, og = some g → w.heap.size ≤ g) → P (.returned (.tuple #[.agg (rc (fstR R l z)), .slice a' n' c', .int .i64 (0 : Nat)])) W5) := fun W5 a' n' c' og h1 h2 h3 => by rw [hP]; exact .inr ⟨hv, a', n', c', rfl, h1, og, h2, h3⟩
    clear hP hv
    have hFL := fstR_len R hR l hok z hz0 hz
    have hok4 : ∀ j, ∀ x ∈ (l.drop 4).drop (j * 21), OkG x := fun j x hx => hok x (List.mem_of_mem_drop (List.mem_of_mem_drop hx))
    obtain ⟨R1, hR1⟩ : ∃ R1, pto R 386 (smT l 4) = R1 := ⟨_, rfl⟩
    have l1 : R1.length = 512 := by rw [← hR1, pto_len _ _ _ (by rw [smT_len l hok]; omega)]; exact hR
    have HFT := tHid (fst_tab R hR l hok z)
    rw [hR1] at HFT
    have HSo : Hid (∀ V, Nw W1 V → Calls Tryd.prog 35 #[.agg (rc R), .int .i64 386, .int .i64 4, .slice a l.length c] V fun e w' => e = .returned (.tuple #[.agg (rc R1), .bool true]) ∧ Hid (Nw V w')) := fun V hV => by
      have t := ysome_any V R hR 386 4 (by omega) l hok a _ c ((HL.out.nw (HN1.out.trans hV)).mono (fun g h => by have := (HN1.out.trans hV).size; show _ ≤ _; omega))
      rw [hR1] at t
      exact t
    go_enter Tryd.func18, Tryd.ntmps18
    go_upto_region 1 with fail
    rw [HW1.out]
    go_upto_region 3 with (first | (go_at_call 26; with_reducible refine HV.out.mono ?_; rintro e w2 ⟨rfl, K2⟩))
    have HR2 : Hid (w2.heap[rb]? = some (.cells (rc R) 36)) := Nw.heap K2.out HR1.out
    have HI2 := tHid (HI.out R hR)
    have HSo2 : Hid (Calls Tryd.prog 35 #[.agg (rc R), .int .i64 386, .int .i64 4, .slice a l.length c] w2 fun e w4 => e = .returned (.tuple #[.agg (rc R1), .bool true]) ∧ ∃ fb W5, w4.heap.size = fb ∧ (w4.alloc (.cells Tryd.zeroCells36 36)).heap[fb]? = some (.cells (rc zrec) 36) ∧ (w4.alloc (.cells Tryd.zeroCells36 36)).setRow fb (rc R1) = W5 ∧ Hid (Nw w2 W5 ∧ RcO fb R1 W5 ∧ w2.heap.size ≤ fb)) := (HSo.out w2 K2.out).mono (fun e w4 q => by
      have h0 : (w4.alloc (.cells Tryd.zeroCells36 36)).heap[w4.heap.size]? = some (.cells (rc zrec) 36) := by rw [← HZC.out]; exact nHeap _ _
      refine ⟨q.1, _, _, rfl, h0, rfl, q.2.out.trans (((Fr.refl _ _).alloc _).setRow _ _ (.inr (Nat.le_refl _))), setRow_heap _ _ _ _ 36 _ h0, q.2.out.size⟩)
    have HI5 := tHid (HI.out R1 l1)
    have HI6 := tHid (HI5.out.2.1 zrec zrec_length)
    go_upto_region 4 with (first
      | (refine wpList_load_row rfl 36 _ rfl rb (by first | rfl | simp [Act.eval]) 36 _ (0, 0) _ HR2.out Tryd.underlying36 rfl HI2.out.1 ?_)
      | (go_at_call 35; with_reducible refine HSo2.out.mono ?_; rintro e w4 ⟨rfl, fb, W5, hfb, h5, e5, K5⟩)
      | (rw [hfb]; refine wpList_store_row rfl 36 _ _ rfl fb (rc R1) (by first | rfl | simp [Act.eval]) (by first | rfl | simp [Act.eval]) 36 _ h5 HI5.out.1 HI6.out HI5.out.2.2 ?_; rw [e5])
      | (refine wpList_store_row rfl 36 _ _ rfl fb (rc R1) (by first | rfl | simp [Act.eval]) (by first | rfl | simp [Act.eval]) 36 _ h5 HI5.out.1 HI6.out HI5.out.2.2 ?_; rw [e5]))
    obtain ⟨W6, hW6⟩ : ∃ W6, W5.alloc (.cells #[] 51) = W6 := ⟨_, rfl⟩
    have hN56 : Nw W5 W6 := by rw [← hW6]; exact (Fr.refl _ _).alloc _
    have hN16 : Nw W1 W6 := K2.out.trans (K5.out.1.trans hN56)
    have HN16 := tHid hN16
    have HR6 : Hid (RcO fb R1 W6) := Nw.heap hN56 K5.out.2.1
    have HFB : Hid (W1.heap.size ≤ fb) := Nat.le_trans K2.out.size K5.out.2.2
    have hL6 := HL.out.nw (HN1.out.trans hN16)
    go_upto_region 5 with fail
    (try rw [hW6])
    clear hW6 hN56 hN16 HSo HSo2 HI5 HI6 HR2 h5 e5 K5
    go_upto_if 30 with fail
    go_cut [11] from 31 to 32 (fun v wx => ∃ a5 n5 c5, v = .slice a5 n5 c5 ∧ W6 = wx ∧ Hid (SlR RG (fun k => w.heap.size ≤ k) (.slice a5 n5 c5) (l.drop 4) W6))
    case first =>
      by_cases h4 : 4 < l.length
      · have q1 : (4 : Int) < (l.length : Int) := by omega
        have q2 : (l.length : Int) ≤ (c : Int) := by omega
        obtain ⟨g, o, rfl⟩ : ∃ g o, a = some ⟨g, o, none⟩ := mf.resolve_left (by omega)
        have hd := tHid (SlR.dropG hL6 4 (by omega))
        clear hL6
        go_wp2_with fail
        go_meet
        exact ⟨_, _, _, rfl, rfl, hd⟩
      · have q1 : ¬ (4 : Int) < (l.length : Int) := by omega
        have hd : l.drop 4 = [] := List.drop_eq_nil_of_le (by omega)
        have HDD := tHid hd
        clear hL6 hd
        go_wp2_with fail
        go_meet
        exact ⟨_, 0, 0, rfl, rfl, .inl ⟨_, rfl, HDD.out⟩⟩
    case rest =>
      obtain ⟨a5, n5, c5, rfl, rfl, HS6⟩ := hcut
      clear hL6
      have HN5 : Hid (n5 = (l.drop 4).length) := by
        obtain ⟨_, _, e, _, _, _⟩ := HS6.out.form
        injection e with _ h _
      have hcl := HR6.out.cellF 482 (by omega)
      have r1 := hcl.1
      have r2 := hcl.2
      obtain ⟨W7, hW7⟩ : ∃ W7, W6.setCell ⟨fb, 482, none⟩ (.int .u8 0) = W7 := ⟨_, rfl⟩
      have hF7 : Fr (fun k => k = fb) W6 W7 := by rw [← hW7]; exact (Fr.refl _ _).setCell _ _ (.inl rfl)
      have hr7 : RcO fb (R1.set 482 0#8) W7 := by rw [← hW7]; exact HR6.out.set1 482 0#8
      have HF7 := tHid hF7
      have HR7 := tHid hr7
      have hcl2 := hr7.cellF 482 (by rw [List.length_set]; omega)
      have r3 := hcl2.1
      have r4 := hcl2.2
      clear hcl hF7 hr7
      go_upto_if 36 with fail
      (try rw [hW7])
      clear hcl2 r1 r2 hW7
      go_cut [36] from 37 to 37 (fun v wx => Hid (RcO fb (R1.set 482 (flg 4 l)) wx ∧ Fr (fun k => k = fb) W6 wx))
      case first =>
        by_cases h4 : 4 < l.length
        · have q1 : (0 : Int) < (n5 : Int) := by rw [HN5.out, List.length_drop]; omega
          have HX : Hid (RcO fb (R1.set 482 (flg 4 l)) (W7.setCell ⟨fb, 482, none⟩ (.int .u8 1)) ∧ Fr (fun k => k = fb) W6 (W7.setCell ⟨fb, 482, none⟩ (.int .u8 1))) := by
            refine ⟨?_, HF7.out.setCell _ _ (.inl rfl)⟩
            have t := HR7.out.set1 482 1#8
            rw [List.set_set] at t
            unfold flg
            rw [if_pos h4]
            exact t
          go_wp2_with fail
          go_meet
          exact HX
        · have q1 : n5 = 0 := by rw [HN5.out, List.length_drop]; omega
          have HX : Hid (RcO fb (R1.set 482 (flg 4 l)) W7 ∧ Fr (fun k => k = fb) W6 W7) := by
            refine ⟨?_, HF7.out⟩
            unfold flg
            rw [if_neg h4]
            exact HR7.out
          subst q1
          go_wp2_with fail
          go_meet
          exact HX
      case rest =>
        have HC := tHid hcut
        clear hcut r3 r4
        obtain ⟨W8, hW8⟩ : ∃ z, z = wc := ⟨_, rfl⟩
        subst hW8
        obtain ⟨R2, hR2⟩ : ∃ R2, R1.set 482 (flg 4 l) = R2 := ⟨_, rfl⟩
        rw [hR2] at HC HFT
        have l2 : R2.length = 512 := by rw [← hR2, List.length_set]; exact l1
        have HI2 := tHid (HI.out R2 l2)
        have HI5 := tHid (HI.out (fstR R l z) hFL)
        have HI6 := tHid (HI5.out.2.1 R2 l2)
        have HRC : Hid (W8.heap[fb]? = some (.cells (rc R2) 36)) := HC.out.out.1
        have HPu : Hid (Calls Tryd.prog 36 #[.agg (rc R2), .int .i64 483, .int .i64 z] W8 fun e w9 => e = .returned (.tuple #[.agg (rc (fstR R l z)), .bool true]) ∧ ∃ W9, w9.heap[fb]? = some (.cells (rc R2) 36) ∧ w9.setRow fb (rc (fstR R l z)) = W9 ∧ Hid (Fr (fun k => k = fb) W6 W9 ∧ RcO fb (fstR R l z) W9)) := by
          have t := yput_any W8 R2 l2 483 (by omega) z hz0 hz
          rw [HFT.out] at t
          refine t.mono (fun e w9 q => ?_)
          have h6 : RcO fb R2 w9 := Nw.heap q.2.out HRC.out
          exact ⟨q.1, _, h6, rfl, Fr.trans (X := fun k => k = fb) HC.out.out.2 (Fr.trans (X := fun k => k = fb) (Fr.mono q.2.out (fun i hi => hi.elim)) ((Fr.refl _ _).setRow fb _ (.inl rfl))), setRow_heap _ _ _ _ 36 _ h6⟩
        clear HC HFT hR2 l1 l2 hR1
        go_upto_region 12 with (first
          | (refine wpList_load_row rfl 36 _ rfl fb (by first | rfl | simp [Act.eval]) 36 _ (0, 0) _ HRC.out Tryd.underlying36 rfl HI2.out.1 ?_)
          | (go_at_call 36; with_reducible refine HPu.out.mono ?_; rintro e w9 ⟨rfl, W9, h9, e9, K9⟩)
          | (refine wpList_store_row rfl 36 _ _ rfl fb (rc (fstR R l z)) (by first | rfl | simp [Act.eval]) (by first | rfl | simp [Act.eval]) 36 _ h9 HI5.out.1 HI6.out HI5.out.2.2 ?_; rw [e9]))
        obtain ⟨mb0, hmb0⟩ : ∃ mb0, W9.heap.size = mb0 := ⟨_, rfl⟩
        obtain ⟨Wa, hWa⟩ : ∃ Wa, W9.alloc (.cells #[] 36) = Wa := ⟨_, rfl⟩
        have hN9a : Nw W9 Wa := by rw [← hWa]; exact (Fr.refl _ _).alloc _
        have hN1a : Nw W1 Wa := (HN16.out.then K9.out.1 (fun i hi => .inr (by have := HFB.out; omega))).trans hN9a
        have HOa : Hid (OgR RR (some mb0) (.slice (some ⟨mb0, 0, none⟩) 0 0) [] Wa) := by
          have : OgR RR (some mb0) (.slice (some ⟨mb0, 0, none⟩) 0 0) [] Wa := by rw [← hWa, ← hmb0]; exact OwR.empty (R := RR) W9
          exact this
        have HFa : Hid (RcO fb (fstR R l z) Wa) := Nw.heap hN9a K9.out.2
        have HSa : Hid (SlR RG (fun k => w.heap.size ≤ k) (.slice a5 n5 c5) (l.drop 4) Wa) := (HS6.out.kept K9.out.1 (fun k h => by rw [h]; have := HFB.out; have := HN1.out.size; show _ ≤ _; omega)).nw hN9a
        have HN1a := tHid hN1a
        have HMB : Hid (w.heap.size ≤ mb0) := by have := (HN16.out.then K9.out.1 (fun i hi => .inr (by have := HFB.out; omega))).size; have := HN1.out.size; show _ ≤ _; omega
        have hN19 : Nw W1 W9 := HN16.out.then K9.out.1 (fun i hi => .inr (by have := HFB.out; omega))
        have HN19 := tHid hN19
        have HF9 : Hid (RcO fb (fstR R l z) W9) := K9.out.2
        obtain ⟨L4, hL4⟩ : ∃ L4, l.drop 4 = L4 := ⟨_, rfl⟩
        rw [hL4] at HFO HSa hok4
        have hL4l : L4.length ≤ 65536 := by rw [← hL4, List.length_drop]; omega
        have HMB0 := tHid hmb0
        have HN9a := tHid hN9a
        go_upto_region 13 with fail
        (try rw [hWa])
        (try rw [hmb0])
        clear hL4 HS6 HN5 hmb0 hWa hN9a hN1a hN19 HPu HRC HI2 HI5 HI6 h9 e9 K9 HFa HR6 HR7 HF7 HN16
        go_loopg [10, 11, 13] (L4.length + 1) (fun kx b v m wr => ∃ (j : Nat) (og : Option Nat) (a10 : Option Addr) (n10 c10 : Nat) (a12 : Option Addr) (n12 c12 : Nat), j ≤ L4.length ∧ L4.length - j + 1 ≤ kx ∧ b = .bool true ∧ v = .slice a10 n10 c10 ∧ m = .slice a12 n12 c12 ∧ Hid (SlR RG (fun k => w.heap.size ≤ k) (.slice a10 n10 c10) (L4.drop (j * 21)) wr ∧ OgR RR og (.slice a12 n12 c12) (furs j L4) wr ∧ (∀ g, og = some g → W9.heap.size ≤ g) ∧ Nw W9 wr))
        case atStart => exact ⟨0, some mb0, _, _, _, _, 0, 0, by omega, by omega, rfl, rfl, rfl, by rw [Nat.zero_mul, List.drop_zero]; exact HSa.out, HOa.out, (fun g e => by injection e with e; have := HMB0.out; omega), HN9a.out⟩
        case round =>
          obtain ⟨j, og, a10, n10, c10, a12, n12, c12, hj, hkx, rfl, rfl, rfl, HJ⟩ := hrel
          obtain ⟨Lj, hLj⟩ : ∃ Lj, L4.drop (j * 21) = Lj := ⟨_, rfl⟩
          have hokj := hok4 j
          rw [hLj] at hokj
          have hs10 := HJ.out.1
          rw [hLj] at hs10
          obtain ⟨a', c', e, q1, q2, q3⟩ := hs10.form
          injection e with e1 e2 e3
          subst e1 e3
          by_cases hne : Lj = []
          · have hn0 : n10 = 0 := by rw [e2, hne]; rfl
            subst hn0
            clear e2
            have hfe : furs L4.length L4 = furs j L4 := furs_end j L4 _ hj (by rw [hLj]; exact hne)
            obtain ⟨W5', e5', hq5, HE⟩ := HEND.out wr (fstR R l z) (.slice a12 n12 c12) 0 (HN19.out.trans HJ.out.2.2.2) hFL
            have HQ5 := tHid hq5
            have HI2 := tHid (HI.out (fstR R l z) hFL)
            have HI3 := tHid (HI2.out.2.1 zrec zrec_length)
            have HFr : Hid (wr.heap[fb]? = some (.cells (rc (fstR R l z)) 36)) := Nw.heap HJ.out.2.2.2 HF9.out
            have hog5 : OgR RR og (.slice a12 n12 c12) (furs L4.length L4) W5' := by
              rw [hfe]
              refine HJ.out.2.1.kept HE.out.2.1 (fun g e1 e2 => ?_)
              have := HJ.out.2.2.1 g e1
              have := HN19.out.size
              have := HS2.out
              omega
            have HPP := tHid (HFO.out W5' a12 n12 c12 og HE.out.1 hog5 (fun g e => by
              have := HJ.out.2.2.1 g e
              have := HN19.out.size
              have := HN1.out.size
              omega))
            clear hq5 HJ HFO hog5 hfe HEND hs10 hokj hok4
            go_wp2_with (first
              | (refine wpList_load_row rfl 36 _ rfl fb (by first | rfl | simp [Act.eval]) 36 _ (0, 0) _ HFr.out Tryd.underlying36 rfl HI2.out.1 ?_)
              | (refine wpList_store_row rfl 36 _ _ rfl qb (rc (fstR R l z)) (by first | rfl | simp [Act.eval]) (by first | rfl | simp [Act.eval]) 36 _ HQ5.out HI2.out.1 HI3.out HI2.out.2.2 ?_; rw [e5']))
            (try simp only [Exit.inBlock, Exit.then])
            exact HE.out.2.2 _ rfl rfl rfl HPP.out
          · have hn0 : (0 : Int) < (n10 : Int) := by
              have : 0 < Lj.length := List.length_pos_iff.2 hne
              omega
            have hjl : j * 21 < L4.length := by
              rcases Nat.lt_or_ge (j * 21) L4.length with h | h
              · exact h
              · exact absurd (by rw [← hLj]; exact List.drop_eq_nil_of_le h) hne
            obtain ⟨M, hM⟩ : ∃ M, pto zrec 0 (smT Lj 21) = M := ⟨_, rfl⟩
            have lM : M.length = 512 := by rw [← hM, pto_len _ _ _ (by rw [smT_len Lj hokj, zrec_length]; omega)]; exact zrec_length
            have HIM := tHid (HI.out M lM)
            have HIM3 := tHid (HIM.out.2.1 zrec zrec_length)
            have hww : w.heap.size ≤ wr.heap.size := by have := HN1.out.size; have := HN19.out.size; have := HJ.out.2.2.2.size; omega
            have HSo3 : Hid (Calls Tryd.prog 35 #[.agg Tryd.zeroCells36, .int .i64 0, .int .i64 21, .slice a10 n10 c10] wr fun e w5 => e = .returned (.tuple #[.agg (rc M), .bool true]) ∧ ∃ mb W8, w5.heap.size = mb ∧ (w5.alloc (.cells Tryd.zeroCells36 36)).heap[mb]? = some (.cells (rc zrec) 36) ∧ (w5.alloc (.cells Tryd.zeroCells36 36)).setRow mb (rc M) = W8 ∧ Hid (Nw wr W8 ∧ RcO mb M W8 ∧ wr.heap.size ≤ mb)) := by
              have t := ysome_any wr zrec zrec_length 0 21 (by omega) Lj hokj a10 n10 c10 (hs10.mono (fun g h => by show _ ≤ _; omega))
              rw [hM, ← HZC.out] at t
              refine t.mono (fun e w4 q => ?_)
              have h0 : (w4.alloc (.cells Tryd.zeroCells36 36)).heap[w4.heap.size]? = some (.cells (rc zrec) 36) := by rw [← HZC.out]; exact nHeap _ _
              exact ⟨q.1, _, _, rfl, h0, rfl, q.2.out.trans (((Fr.refl _ _).alloc _).setRow _ _ (.inr (Nat.le_refl _))), setRow_heap _ _ _ _ 36 _ h0, q.2.out.size⟩
            have hfl := furR_len Lj hokj
            have HSN : Hid (furs (j + 1) L4 = furs j L4 ++ [mk512 (furR Lj)]) := by
              have := furs_snoc (j + 1) L4 j (by omega) (by rw [hLj]; exact hne)
              rw [hLj] at this
              exact this
            have HMV : Hid ((mk512 (furR Lj)).1 = furR Lj) := mk512_val _ hfl
            have HDD : Hid (Lj.drop 21 = L4.drop ((j + 1) * 21)) := by
              have : Lj.drop 21 = L4.drop ((j + 1) * 21) := by rw [← hLj, List.drop_drop]; congr 1; omega
              exact this
            have HE2 := tHid e2
            have HS10 := tHid hs10
            have HOKJ := tHid hokj
            have HQ3 := tHid q3
            have hq1c : n10 ≤ c10 := by omega
            clear hs10 hokj hok4 hLj e2 hne q3
            go_upto_if 64 with (first
              | (go_at_call 35; with_reducible refine HSo3.out.mono ?_; rintro e w5 ⟨rfl, mb, W8', hmb, h8, e8, K8⟩)
              | (rw [hmb]; refine wpList_store_row rfl 36 _ _ rfl mb (rc M) (by first | rfl | simp [Act.eval]) (by first | rfl | simp [Act.eval]) 36 _ h8 HIM.out.1 HIM3.out HIM.out.2.2 ?_; rw [e8])
              | (refine wpList_store_row rfl 36 _ _ rfl mb (rc M) (by first | rfl | simp [Act.eval]) (by first | rfl | simp [Act.eval]) 36 _ h8 HIM.out.1 HIM3.out HIM.out.2.2 ?_; rw [e8]))
            clear HSo3 HIM HIM3 h8 e8 hmb
            go_cut [11] from 65 to 67 (fun v wx => ∃ a6 n6 c6, v = .slice a6 n6 c6 ∧ Hid (SlR RG (fun k => w.heap.size ≤ k) (.slice a6 n6 c6) (Lj.drop 21) wx ∧ RcO mb (furR Lj) wx ∧ Nw wr wx))
            case first =>
              by_cases h21 : 21 < Lj.length
              · have p1 : (21 : Int) < (n10 : Int) := by have := HE2.out; omega
                have p2 : (n10 : Int) ≤ (c10 : Int) := by omega
                obtain ⟨g, o, rfl⟩ : ∃ g o, a10 = some ⟨g, o, none⟩ := HQ3.out.resolve_left (by omega)
                have hcl := K8.out.2.1.cellF 504 (by omega)
                have r1 := hcl.1
                have r2 := hcl.2
                have hF : Fr (fun k => k = mb) W8' (W8'.setCell ⟨mb, 504, none⟩ (.int .u8 1)) := (Fr.refl _ _).setCell _ _ (.inl rfl)
                have hmr : wr.heap.size ≤ mb := K8.out.2.2
                have HX : Hid (SlR RG (fun k => w.heap.size ≤ k) (.slice (some ⟨g, o + 21 * 2, none⟩) (n10 - 21) (c10 - 21)) (Lj.drop 21) (W8'.setCell ⟨mb, 504, none⟩ (.int .u8 1)) ∧ RcO mb (furR Lj) (W8'.setCell ⟨mb, 504, none⟩ (.int .u8 1)) ∧ Nw wr (W8'.setCell ⟨mb, 504, none⟩ (.int .u8 1))) := by
                  refine ⟨SlR.dropG ((HS10.out.nw K8.out.1).kept hF (fun k h => by rw [h]; show _ ≤ _; omega)) 21 (by omega), ?_, K8.out.1.then hF (fun i hi => .inr (by omega))⟩
                  have t := K8.out.2.1.set1 504 1#8
                  rw [← hM, fur_yes Lj HOKJ.out h21] at t
                  exact t
                clear hF hcl
                go_wp2_with fail
                go_meet
                exact ⟨_, _, _, rfl, HX⟩
              · have p1 : ¬ (21 : Int) < (n10 : Int) := by have := HE2.out; omega
                have HX : Hid (SlR RG (fun k => w.heap.size ≤ k) (.slice none 0 0) (Lj.drop 21) W8' ∧ RcO mb (furR Lj) W8' ∧ Nw wr W8') := by
                  refine ⟨.inl ⟨_, rfl, List.drop_eq_nil_of_le (by omega)⟩, ?_, K8.out.1⟩
                  have t := K8.out.2.1
                  rw [← hM, fur_no Lj HOKJ.out h21] at t
                  exact t
                go_wp2_with fail
                go_meet
                exact ⟨_, _, _, rfl, HX⟩
            case rest =>
              obtain ⟨a5', n5', c5', rfl, KX⟩ := hcut
              obtain ⟨wx, hwx⟩ : ∃ z, z = wc := ⟨_, rfl⟩
              subst hwx
              obtain ⟨hSx, hrx, hN18⟩ := KX.out
              have HI2 := tHid (HI.out (furR Lj) hfl)
              have hln : (furs j L4).length ≤ 100000000 := by have := furs_len j L4; omega
              obtain ⟨og', v', W7', a1, a2, a3, a4⟩ := pushR wx og _ (furs j L4) (HJ.out.2.1.nw hN18) hln (mk512 (furR Lj))
              rw [HMV.out] at a1
              rw [← HSN.out] at a2
              have hfr : ∀ g, og = some g → W9.heap.size ≤ g := HJ.out.2.2.1
              have hN7 : Nw W9 W7' := (HJ.out.2.2.2.trans hN18).then a3 (fun i hi => .inr (hfr i hi))
              have hfr' : ∀ g, og' = some g → W9.heap.size ≤ g := fun g e => by
                rcases a4 with h | ⟨g', e', hg'⟩
                · exact hfr g (by rw [← h]; exact e)
                · rw [e'] at e
                  injection e with e
                  have := (HJ.out.2.2.2.trans hN18).size; omega
              obtain ⟨a8, c8, rfl, _, _⟩ := a2.form
              have hS7 : SlR RG (fun k => w.heap.size ≤ k) (.slice a5' n5' c5') (L4.drop ((j + 1) * 21)) W7' := by
                rw [← HDD.out]
                exact hSx.kept a3 (fun k h => by have := hfr k h; have := HN19.out.size; have := HN1.out.size; show _ ≤ _; omega)
              have HNX : Hid (SlR RG (fun k => w.heap.size ≤ k) (.slice a5' n5' c5') (L4.drop ((j + 1) * 21)) W7' ∧ OgR RR og' (.slice a8 (furs (j + 1) L4).length c8) (furs (j + 1) L4) W7' ∧ (∀ g, og' = some g → W9.heap.size ≤ g) ∧ Nw W9 W7') := ⟨hS7, a2, hfr', hN7⟩
              have HRX : Hid (wx.heap[mb]? = some (.cells (rc (furR Lj)) 36)) := hrx
              have HCS : Hid ((rc (furR Lj)).size = 512) := by show _ = _; rw [rc_size, hfl]
              generalize (furs (j + 1) L4).length = n8 at *
              clear HJ KX hrx hSx a2 a3 a4 hN7 hfr hfr' hS7 hln hN18 HSN HMV HDD HEND HFO hfl HS10 HOKJ HQ3 K8 HE2
              generalize rc (furR Lj) = C at *
              go_wp2_with (first
                | (refine wpList_load_row rfl 36 _ rfl mb (by first | rfl | simp [Act.eval]) 36 _ (0, 0) _ HRX.out Tryd.underlying36 rfl HI2.out.1 ?_)
                | (refine wpList_bsR rfl _ rfl C (by first | rfl | simp [Act.eval]) HCS.out ?_)
                | (at_builtin; refine Lib.wpList_append_run _ rfl _ _ 37 37 rfl (.slice a12 n12 c12) (.slice (some ⟨wx.heap.size, 0, none⟩) 1 1) (by first | rfl | simp [Act.eval]) (by first | rfl | simp [Act.eval]) _ _ (a1.out _) ?_))
              go_roundg (L4.length - (j + 1) + 1)
              case measure => omega
              case rel => exact ⟨j + 1, og', a5', n5', c5', a8, n8, c8, by omega, by omega, rfl, rfl, rfl, HNX⟩
end Go.Proofs.YtffhpoilifgcdaaDoor

namespace Go.Proofs.YtffhpoilifgcdaaDoor
open Go.RowKit
set_option linter.unusedVariables false
/-! ### The law's record; two records compared -/
theorem rz15 (R : List By) (hR : R.length = 512) : (Tryd.prog.info? 36).map (·.size) = some (rc R).size ∧ Tryd.zeroCells36.size = (rc R).size ∧ (rc R).all (·.oneCell') = true := ⟨rc_info R hR, by rw [zrec_rc, rc_size, rc_size, zrec_length, hR], rc_one R⟩
def rcB (l : List By) (I : Nat) : List By := l.take I ++ List.replicate (512 - I) 0#8
theorem rcB_length (l : List By) (I : Nat) (h1 : I ≤ l.length) (h2 : I ≤ 512) : (rcB l I).length = 512 := by
  unfold rcB
  rw [List.length_append, List.length_take, List.length_replicate]; omega
theorem rcB_set (l : List By) (I : Nat) (h1 : I < l.length) (h2 : I < 512) : (rcB l I).set I l[I] = rcB l (I + 1) := by
  unfold rcB
  have e : 512 - I = (512 - (I + 1)) + 1 := by omega
  have hl : (l.take I).length = I := by rw [List.length_take]; omega
  rw [e, List.replicate_succ]
  have := set_mid 0#8 l[I] (l.take I) (List.replicate (512 - (I + 1)) 0#8)
  rw [hl] at this
  rw [this, take_snoc l I h1, List.append_assoc]
  rfl
theorem rcB_zero (l : List By) : rcB l 0 = zrec := by unfold rcB zrec; rw [List.take_zero, List.nil_append]
def rcOf (l : List By) : List By := rcB l (min l.length 512)
theorem rcOf_length (l : List By) : (rcOf l).length = 512 := rcB_length l _ (by omega) (by omega)
set_option maxHeartbeats 4000000 in
set_option maxRecDepth 100000 in
theorem record15_any (w : World) (a : Option Addr) (c : Nat) (l : List By) (hl : Old w (.slice a l.length c) l) (hbig : l.length ≤ 140737488351232) : Calls Tryd.prog 17 #[.slice a l.length c] w fun e w' => e = .returned (.agg (rc (rcOf l))) ∧ Nw w w' := by
  obtain ⟨P, hP⟩ : ∃ P : Ending → World → Prop, P = fun e w' => e = .returned (.agg (rc (rcOf l))) ∧ Nw w w' := ⟨_, rfl⟩
  rw [← hP]
  have HF : Hid (∀ W, Nw w W → P (.returned (.agg (rc (rcOf l)))) W) := fun W hW => by rw [hP]; exact ⟨rfl, hW⟩
  clear hP
  obtain ⟨qb, hqb⟩ : ∃ qb, w.heap.size = qb := ⟨_, rfl⟩
  obtain ⟨rb, hrb⟩ : ∃ rb, qb + 1 = rb := ⟨_, rfl⟩
  obtain ⟨W0, hW0⟩ : ∃ W0, w.alloc (.cells Tryd.zeroCells36 36) = W0 := ⟨_, rfl⟩
  have s1 : (w.alloc (.cells Tryd.zeroCells36 36)).heap.size = w.heap.size + 1 := by simp
  have hQ0 : RcO qb zrec W0 := by rw [← hW0, ← hqb]; unfold RcO; rw [← zrec_rc]; exact nHeap _ _
  obtain ⟨W1, hW1⟩ : ∃ W1, (W0.alloc (.cells Tryd.zeroCells36 36)).setRow rb (rc zrec) = W1 := ⟨_, rfl⟩
  have hsz : W0.heap.size = rb := by rw [← hW0, s1, hqb]; exact hrb
  have hb0 : (W0.alloc (.cells Tryd.zeroCells36 36)).heap[rb]? = some (.cells Tryd.zeroCells36 36) := by rw [← hsz]; exact nHeap _ _
  have hR1 : RcO rb zrec W1 := by rw [← hW1]; exact setRow_heap _ _ _ _ 36 _ hb0
  have k1 : Nw W0 W1 := by rw [← hW1]; exact ((Fr.refl _ _).alloc _).setRow _ _ (.inr (by omega))
  have hN0 : Nw w W0 := by rw [← hW0]; exact (Fr.refl _ _).alloc _
  have HQ1 : Hid (RcO qb zrec W1) := hQ0.keptF k1 (fun h => h)
  have HN1 : Hid (Nw w W1) := hN0.trans k1
  have HR1 := tHid hR1
  have HW0 := tHid hW0
  have HB0 := tHid hb0
  have hzf := rz15 zrec zrec_length
  have Z1 := tHid hzf.1
  have Z2 := tHid hzf.2.1
  have Z3 := tHid hzf.2.2
  have HW1 := tHid hW1
  have hll : (l.length : Int) ≤ 140737488351232 := by omega
  have hzz : Tryd.zeroCells36 = rc zrec := zrec_rc
  clear hW0 hW1 hQ0 hR1 k1 hN0 hb0 s1 hzf
  rw [hzz] at HW0 HB0 HW1 Z2
  have HEN0 : Hid (∀ (W : World) (R : List By), R.length = 512 → Nw w W → RcO qb R W → rcOf l = R → ∀ tmps : Array Value, tmps.getD 2 undef = .pointer (some ⟨qb, 0, none⟩) → bodyPost Tryd.prog Tryd.f17 P .ret ⟨tmps, []⟩ W) := fun W R hRl hW hq h1 tmps g2 => by
    refine bodyPost_ret (results_cell_row (P := Tryd.prog) (p := 2) (ty := 36) rfl _ _ qb 36 (rc R) (0, 0) _ g2 hq Tryd.underlying36 rfl (rc_info R hRl)) rfl ?_
    rw [← h1]
    exact HF.out W hW
  go_enter Tryd.func17, Tryd.ntmps17
  go_upto_region 1 with fail
  rw [HW0.out]
  go_upto_region 3 with (first
    | (refine wpList_store_row rfl 36 _ _ rfl rb (rc zrec) (by first | rfl | simp [Act.eval]) (by first | rfl | simp [Act.eval]) 36 _ HB0.out Z1.out (by first | exact Z2.out | rfl) Z3.out ?_; rw [HW1.out]))
  go_loopg [4] 512 (fun kx v wr => ∃ I : Nat, I ≤ l.length ∧ I ≤ 512 ∧ min l.length 512 ≤ I + kx ∧ v = .int .i64 (I : Int) ∧ Hid (RcO rb (rcB l I) wr ∧ Fr (fun k => k = rb) W1 wr))
  case atStart => exact ⟨0, by omega, by omega, by omega, rfl, by rw [rcB_zero]; exact ⟨HR1.out, Fr.refl _ _⟩⟩
  case round =>
    obtain ⟨I, hI1, hI2, hkx, rfl, HI⟩ := hrel
    by_cases hlt : I < l.length ∧ I < 512
    · obtain ⟨q1, q2⟩ := hlt
      have q1' : (I : Int) < (l.length : Int) := by omega
      have q2' : (I : Int) < 512 := by omega
      obtain ⟨g, o, rfl, hg, hrd⟩ : ∃ g o, a = some ⟨g, o, none⟩ ∧ ¬ w.heap.size ≤ g ∧ Rd g o l w := by
        rcases hl with ⟨a', e, rfl⟩ | ⟨g, hg, o, c', e, _, _, hr⟩
        · simp at q1
        · injection e with ea _ _
          exact ⟨g, o, ea, hg, hr⟩
      have hfw : Fr (fun k => k = rb) w wr := Fr.then (Fr.mono HN1.out (fun i hi => hi.elim)) HI.out.2 (fun i hi => .inl hi)
      have hcl : wr.cell? ⟨g, o + I, none⟩ = some (.int .u8 (l[I]'q1).toNat) := by
        have h0 := hrd.at I l[I] (List.getElem?_eq_getElem q1)
        have hgl : g < w.heap.size := by omega
        have hb := hfw.block g hgl (by omega)
        unfold World.cell? at h0 ⊢
        rw [hb]
        exact h0
      have hrc := HI.out.1.cellF I (by rw [rcB_length l I hI1 hI2]; exact q2)
      have r1 := hrc.1
      have r2 := hrc.2
      have HNX : Hid (RcO rb (rcB l (I + 1)) (wr.setCell ⟨rb, I, none⟩ (.int .u8 (l[I]'q1).toNat)) ∧ Fr (fun k => k = rb) W1 (wr.setCell ⟨rb, I, none⟩ (.int .u8 (l[I]'q1).toNat))) := by
        refine ⟨?_, HI.out.2.setCell ⟨rb, I, none⟩ _ (.inl rfl)⟩
        rw [← rcB_set l I q1 q2]
        exact HI.out.1.set1 I l[I]
      clear hrd hfw hrc HI hl
      generalize (l[I]'q1) = x at *
      go_wp2_with fail
      go_roundg (min l.length 512 - (I + 1))
      case measure => omega
      case rel => exact ⟨I + 1, by omega, by omega, by omega, by first | rfl | (congr 1), HNX⟩
    · have hR : rcOf l = rcB l I := by unfold rcOf; congr 1; omega
      have hRl := rcB_length l I hI1 hI2
      have hq5 := HQ1.out.keptF HI.out.2 (fun e => by omega)
      obtain ⟨W5, e5⟩ : ∃ W5, wr.setRow qb (rc (rcB l I)) = W5 := ⟨_, rfl⟩
      have hq6 : RcO qb (rcB l I) W5 := by rw [← e5]; exact setRow_heap _ _ _ _ 36 _ hq5
      have hn6 : Nw w W5 := by
        rw [← e5]
        exact (Fr.then HN1.out HI.out.2 (fun i hi => .inr (by omega))).setRow _ _ (.inr (by omega))
      have Y1 := tHid HI.out.1
      have Y2 := tHid (rc_info (rcB l I) hRl)
      have Y3 := tHid hq5
      have Y4 : Hid ((rc zrec).size = (rc (rcB l I)).size) := by show _ = _; rw [rc_size, rc_size, zrec_length, hRl]
      have Y5 := tHid (rc_one (rcB l I))
      have HE := tHid (HEN0.out W5 (rcB l I) hRl hn6 hq6 hR)
      clear HI hq5 hq6 hn6 hRl HEN0 HF hR hl
      generalize rcB l I = R at *
      by_cases hp : (I : Int) < (l.length : Int)
      · have hp2 : ¬ (I : Int) < 512 := by omega
        go_wp2_with (first
          | (refine wpList_load_row rfl 36 _ rfl rb (by first | rfl | simp [Act.eval]) 36 _ (0, 0) _ Y1.out Tryd.underlying36 rfl Y2.out ?_)
          | (refine wpList_store_row rfl 36 _ _ rfl qb (rc R) (by first | rfl | simp [Act.eval]) (by first | rfl | simp [Act.eval]) 36 _ Y3.out Y2.out Y4.out Y5.out ?_; rw [e5]))
        (try simp only [Exit.inBlock, Exit.then])
        exact HE.out _ rfl
      · go_wp2_with (first
          | (refine wpList_load_row rfl 36 _ rfl rb (by first | rfl | simp [Act.eval]) 36 _ (0, 0) _ Y1.out Tryd.underlying36 rfl Y2.out ?_)
          | (refine wpList_store_row rfl 36 _ _ rfl qb (rc R) (by first | rfl | simp [Act.eval]) (by first | rfl | simp [Act.eval]) 36 _ Y3.out Y2.out Y4.out Y5.out ?_; rw [e5]))
        (try simp only [Exit.inBlock, Exit.then])
        exact HE.out _ rfl
end Go.Proofs.YtffhpoilifgcdaaDoor

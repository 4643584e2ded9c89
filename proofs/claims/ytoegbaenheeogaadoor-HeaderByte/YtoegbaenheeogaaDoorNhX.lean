import Derived.Test.YtoegbaenheeogaaDoorNhW
namespace Go.Proofs.YtoegbaenheeogaaDoor
open Go.RowKit
set_option linter.unusedVariables false
theorem RcH.rangeH {g : Nat} {b : List By} {w : World} (h : RcH g b w) : w.rangeAt g 0 (b.map bv) := fun j v hv => by
  rw [Nat.zero_add]
  unfold RcH rc at h
  simp only [World.cell?, h]
  simpa using hv
set_option maxHeartbeats 8000000 in
set_option maxRecDepth 100000 in
theorem byte_walk (h : Hr) (ok : h.Ok) (at_ : Int) (tn : Nat) (htn : tn ≤ 255) (hat1 : -9223372036854775808 ≤ at_) (hat2 : at_ ≤ 9223372036854775807) (w : World) : Calls Tryd.prog 4 #[.agg h.C, .int .i64 at_, .int .u8 (tn : Nat)] w fun e w' => e = .returned (.bool true) ∧ Nw w w' := by
  obtain ⟨P, hP⟩ : ∃ P : Ending → World → Prop, P = fun e w' => e = .returned (.bool true) ∧ Nw w w' := ⟨_, rfl⟩
  rw [← hP]
  have HF : Hid (∀ W, Nw w W → P (.returned (.bool true)) W) := fun W hW => by rw [hP]; exact ⟨rfl, hW⟩
  clear hP
  obtain ⟨hb, hhb⟩ : ∃ hb, w.heap.size = hb := ⟨_, rfl⟩
  obtain ⟨W1, hW1⟩ : ∃ W1, w.alloc (.cells h.C 23) = W1 := ⟨_, rfl⟩
  have hN1 : Nw w W1 := by rw [← hW1]; exact (Fr.refl _ _).alloc _
  have hH1 : HcH hb h W1 := by rw [← hW1, ← hhb]; exact newHeap _ _
  have HL1 := tHid hH1
  have HSZ := tHid hcSize
  have HON := tHid hc_one
  have HEN := tHid (enc_blk h ok W1)
  have HZI := tHid (fun R hR => rz_facts R hR)
  have HRL := tHid (encR_length h ok)
  have HN1 := tHid hN1
  have HW1 := tHid hW1
  have hzz : Tryd.zeroCells24 = rc zrec := zrec_rc
  have HZD : Hid (∀ V, Nw W1 V → Calls Tryd.prog 6 #[.agg Tryd.zeroCells24] V fun e w2 => e = .returned (.tuple #[.agg (decH zrec).C, .int .i64 (decP zrec : Nat), .int .i64 131]) ∧ ∃ W3, (w2.alloc (.cells #[.int .i64 0, .string ⟨#[]⟩, .string ⟨#[]⟩, .int .i64 0, .int .i64 0, .int .i64 0, .int .i64 0, .int .i64 0, .int .u8 0, .string ⟨#[]⟩, .string ⟨#[]⟩, .string ⟨#[]⟩, .int .i64 0, .int .i64 0] 23)).setRow w2.heap.size (decH zrec).C = W3 ∧ Hid (Nw W1 W3)) := fun V hV => by
    have t := dec_blk zrec zrec_length V
    rw [zrec_dec] at t
    rw [hzz]
    refine t.mono ?_
    rintro e w2 ⟨rfl, W3, e3, K⟩
    exact ⟨rfl, W3, e3, hV.trans K.out.2.1⟩
  have HZ1 : Hid (∀ m : Hr, (#[.int .i64 0, .string ⟨#[]⟩, .string ⟨#[]⟩, .int .i64 0, .int .i64 0, .int .i64 0, .int .i64 0, .int .i64 0, .int .u8 0, .string ⟨#[]⟩, .string ⟨#[]⟩, .string ⟨#[]⟩, .int .i64 0, .int .i64 0] : Array Value).size = m.C.size) := fun m => rfl
  clear hW1 hN1 hH1 hzz
  obtain ⟨E, hE⟩ : ∃ E, encE h = E := ⟨_, rfl⟩
  rw [hE] at HEN
  have HE := tHid hE
  clear hE
  by_cases hcond : E = 0 ∧ 0 ≤ at_ ∧ at_ < 512 ∧ ¬ (148 ≤ at_ ∧ at_ < 156) ∧ tn ≠ 0
  · obtain ⟨hE0, ha0, ha5, hin, ht0⟩ := hcond
    subst hE0
    obtain ⟨i, rfl⟩ : ∃ i : Nat, at_ = (i : Int) := ⟨at_.toNat, by omega⟩
    obtain ⟨t, ht⟩ : ∃ t : By, t.toNat = tn := ⟨BitVec.ofNat 8 tn, by rw [BitVec.toNat_ofNat, Nat.mod_eq_of_lt (by omega)]⟩
    have hi5 : i < 512 := by omega
    obtain ⟨x, hx⟩ : ∃ x, (encR h)[i]'(by rw [HRL.out]; exact hi5) = x := ⟨_, rfl⟩
    have hx? : (encR h)[i]? = some x := by rw [List.getElem?_eq_getElem (by rw [HRL.out]; exact hi5), hx]
    have htz : t ≠ 0#8 := fun e => ht0 (by rw [← ht, e]; rfl)
    have hturn := turned h ok HE.out i hi5 (by omega) t htz x hx?
    obtain ⟨Y, hY⟩ : ∃ Y, (encR h).set i (x ^^^ t) = Y := ⟨_, rfl⟩
    rw [hY] at hturn
    have hYl : Y.length = 512 := by rw [← hY, List.length_set]; exact HRL.out
    have hxor : bits .xor .u8 (x.toNat : Int) (tn : Int) = ((x ^^^ t).toNat : Int) := by rw [← ht]; exact xor_u8 x t
    obtain ⟨y, hy⟩ : ∃ y : By, x ^^^ t = y := ⟨_, rfl⟩
    rw [hy] at hY hxor
    clear hy
    have HRO : Hid (∀ W3 rb, EnB h rb W1 W3 → W1.heap.size ≤ rb → W3.cell? ⟨rb, i, none⟩ = some (.int .u8 x.toNat) ∧ W3.frozen? ⟨rb, i, none⟩ = false ∧ ∃ W4, W3.setCell ⟨rb, i, none⟩ (.int .u8 (y.toNat : Nat)) = W4 ∧ Hid (RcH rb Y W4 ∧ Nw W1 W4)) := fun W3 rb q hle => by
      obtain ⟨c1, c2⟩ := q.rec1.cell i (by rw [HRL.out]; exact hi5)
      rw [hx] at c1
      refine ⟨c1, c2, _, rfl, ?_, ?_⟩
      · rw [← hY]
        exact q.rec1.set i y _ rfl
      · exact q.nw.setCell ⟨rb, i, none⟩ _ (.inr hle)
    have HDC : Hid (∀ V, Nw W1 V → Calls Tryd.prog 6 #[.agg (rc Y)] V fun e w2 => e = .returned (.tuple #[.agg (decH Y).C, .int .i64 (decP Y : Nat), .int .i64 (decE Y : Nat)]) ∧ ∃ W3, (w2.alloc (.cells #[.int .i64 0, .string ⟨#[]⟩, .string ⟨#[]⟩, .int .i64 0, .int .i64 0, .int .i64 0, .int .i64 0, .int .i64 0, .int .u8 0, .string ⟨#[]⟩, .string ⟨#[]⟩, .string ⟨#[]⟩, .int .i64 0, .int .i64 0] 23)).setRow w2.heap.size (decH Y).C = W3 ∧ Hid (Nw V W3)) := fun V hV => by
      refine (dec_blk Y hYl V).mono ?_
      rintro e w2 ⟨rfl, W3, e3, K⟩
      exact ⟨rfl, W3, e3, K.out.2.1⟩
    have HIY := tHid (rc_info Y hYl)
    have HSG := tHid (fun V => signed_any Y hYl V)
    have HSD := tHid (fun V => said_any Y hYl V)
    have g1 : ¬ (i : Int) < 0 := by omega
    have g2 : ¬ (512 : Int) ≤ (i : Int) := by omega
    have g3 : ((tn : Int) == 0) = false := by rw [beq_eq_false_iff_ne]; omega
    have g4 : (i : Int) < 512 := by omega
    have htn0 : ¬ tn = 0 := ht0
    have hSD : decE Y ≠ 131 → ss (blk Y) = sd (fd Y 148 6) := fun q => hturn.resolve_left q
    have HSDE := tHid hSD
    have h148 : (148 : Int) ≤ (i : Int) ∧ ¬ (i : Int) < 156 ∨ ¬ (148 : Int) ≤ (i : Int) := by omega
    clear hturn hSD hin ht0 hx hx? hY htz HZD
    obtain ⟨EE, hEE⟩ : ∃ EE, decE Y = EE := ⟨_, rfl⟩
    rw [hEE] at HDC HSDE
    rcases h148 with ⟨p1, p2⟩ | p1
    all_goals
      generalize hR : encR h = R at *
      have HRR := tHid hR
      clear hR
      generalize hM : h.C = M at *
      have HM := tHid hM
      go_enter Tryd.func4, Tryd.ntmps4
      go_upto_region 1 with fail
      rw [HW1.out]
      have HL1' : Hid (W1.heap[hb]? = some (.cells M 23)) := by rw [← HM.out]; exact HL1.out
      have HS1 : Hid ((Tryd.prog.info? 23).map (·.size) = some M.size) := by rw [← HM.out]; exact HSZ.out h
      go_upto_region 5 with (first
          | (refine wpList_load_row rfl 23 _ rfl hb (by first | rfl | simp [Act.eval]) 23 _ (0, 0) _ HL1'.out Tryd.underlying23 rfl HS1.out ?_)
          | (go_at_call 5; with_reducible refine HEN.out.mono ?_; rintro e w2 ⟨rfl, W3, e3, K3⟩)
          | (refine wpList_store_row rfl 24 _ _ rfl w2.heap.size (rc R) (by first | rfl | simp [Act.eval]) (by first | rfl | simp [Act.eval]) 24 _ (newHeap w2 _) (HZI.out _ HRL.out).1 (HZI.out _ HRL.out).2.1 (HZI.out _ HRL.out).2.2 ?_; rw [e3]))
      obtain ⟨c1, c2, W4, e4, K4⟩ := HRO.out W3 w2.heap.size (by first | exact K3.out.1) K3.out.2
      generalize w2.heap.size = rb at *
      clear e3 HEN HRO
      go_upto_region 6 with fail
      (try rw [e4])
      have HRB : Hid (W4.heap[rb]? = some (.cells (rc Y) 24)) := K4.out.1
      have HDC2 := tHid (HDC.out W4 K4.out.2)
      go_upto_region 7 with (first
        | (refine wpList_load_row rfl 24 _ rfl rb (by first | rfl | simp [Act.eval]) 24 _ (0, 0) _ HRB.out Tryd.underlying24 rfl HIY.out ?_)
        | (go_at_call 6; with_reducible refine HDC2.out.mono ?_; rintro e w6 ⟨rfl, W7, e7, K7⟩)
        | (refine wpList_store_row rfl 23 _ _ rfl w6.heap.size (decH Y).C (by first | rfl | simp [Act.eval]) (by first | rfl | simp [Act.eval]) 23 _ (newHeap w6 _) (HSZ.out _) (HZ1.out _) (HON.out _) ?_; rw [e7]))
      generalize w6.heap.size = db at *
      have HNF : Hid (Nw w W7) := HN1.out.trans (K4.out.2.trans K7.out)
      by_cases h131 : EE = 131
      · have hq : ((EE : Int) == 131) = true := by rw [h131]; rfl
        have HF2 := tHid (fun n => HF.out _ (Fr.drewN HNF.out n))
        subst h131
        go_quiet (fail)
        go_wp2_with fail
        exact HF2.out _
      · have hq : ((EE : Int) == 131) = false := by rw [beq_eq_false_iff_ne]; omega
        have hss := HSDE.out h131
        have HRG : Hid (∀ U, Nw W7 U → U.rangeAt rb 0 (Y.map bv)) := fun U hU => RcH.rangeH (Nw.heap (K7.out.trans hU) HRB.out)
        have hinf : (Tryd.prog.info? 24).map (·.size) = some (Y.map bv).length := by
          have := HIY.out
          unfold rc at this
          simpa using this
        have hund := Tryd.underlying24
        have HSG2 : Hid (∀ U, Nw W7 U → Calls Tryd.prog 7 #[.agg (Y.map bv).toArray] U fun e w' => e = .returned (.int .i64 (ss (blk Y))) ∧ Hid (Nw W7 w')) := fun U hU => (HSG.out U).mono (fun e w' q => ⟨q.1, hU.trans q.2⟩)
        have HSD2 : Hid (∀ U, Nw W7 U → Calls Tryd.prog 8 #[.agg (Y.map bv).toArray] U fun e w' => e = .returned (.int .i64 (ss (blk Y))) ∧ Hid (Nw W7 w')) := fun U hU => by
          have t := HSD.out U
          rw [← hss] at t
          exact t.mono (fun e w' q => ⟨q.1, hU.trans q.2⟩)
        clear hss h131 HSG HSD HSDE
        generalize ss (blk Y) = SS at *
        generalize Y.map bv = C at *
        refine wp_region_held_drew (S := fun U => Nw W7 U) (by kernel_rfl) ((Fr.refl _ _).drew) (fun hHeld => ?_)
        refine wpAnyH_take (i := 0) (oi := { dst := some 63, op := Op.move (Operand.tmp 14), type := 25, pos := "law.go:100", after := #[], guard := none }) (v := ?_) rfl (by kernel_rfl) (by kernel_rfl) (by kernel_rfl) (fun _ _ _ h => h) (Or.inl ⟨by rfl, ?_⟩) (by assumption) ?_
        rotate_left
        · intro U hSw; (try dsimp only at hSw); (go_simp <;> with_reducible rfl)
        try simp only [Act.put, List.setIfInBounds_toArray, List.set_cons_zero, List.set_cons_succ]
        refine wpAnyH_take (i := 1) (oi := { dst := some 64, op := Op.binOp BinOp.eql 25 (Operand.tmp 63) (Operand.const (Value.int IntKind.i64 131)) 25, type := 4, pos := "law.go:100", after := #[{ on := 0, ground := Ground.data }], guard := none }) (v := ?_) rfl (by kernel_rfl) (by kernel_rfl) (by kernel_rfl) (fun _ _ _ h => h) (Or.inl ⟨by rfl, ?_⟩) (by assumption) ?_
        rotate_left
        · intro U hSw; (try dsimp only at hSw); (go_simp <;> with_reducible rfl)
        try simp only [Act.put, List.setIfInBounds_toArray, List.set_cons_zero, List.set_cons_succ]
        refine wpAnyH_take (i := 2) (oi := { dst := some 65, op := Op.move (Operand.tmp 64), type := 4, pos := "law.go:100", after := #[{ on := 1, ground := Ground.data }], guard := none }) (v := ?_) rfl (by kernel_rfl) (by kernel_rfl) (by kernel_rfl) (fun _ _ _ h => h) (Or.inl ⟨by rfl, ?_⟩) (by assumption) ?_
        rotate_left
        · intro U hSw; (try dsimp only at hSw); (go_simp <;> with_reducible rfl)
        try simp only [Act.put, List.setIfInBounds_toArray, List.set_cons_zero, List.set_cons_succ]
        refine wpAnyH_take (i := 3) (oi := { dst := some 66, op := Op.load 24 (Operand.tmp 7), type := 24, pos := "law.go:100", after := #[{ on := 2, ground := Ground.guard }], guard := some (2, false) }) (v := .agg C.toArray) rfl (by kernel_rfl) (by kernel_rfl) (by kernel_rfl) (fun _ _ _ h => h) (yieldsIf_load_mid (by rfl) _ _ rfl rb 0 rfl C _ (fun U hU => HRG.out U hU) hund rfl hinf) (by assumption) ?_
        try simp only [Act.put, List.setIfInBounds_toArray, List.set_cons_zero, List.set_cons_succ]
        refine wpAnyH_take (i := 5) (oi := { dst := some 68, op := Op.load 24 (Operand.tmp 7), type := 24, pos := "law.go:100", after := #[{ on := 2, ground := Ground.guard }], guard := some (2, false) }) (v := .agg C.toArray) rfl (by kernel_rfl) (by kernel_rfl) (by kernel_rfl) (fun _ _ _ h => h) (yieldsIf_load_mid (by rfl) _ _ rfl rb 0 rfl C _ (fun U hU => HRG.out U hU) hund rfl hinf) (by assumption) ?_
        try simp only [Act.put, List.setIfInBounds_toArray, List.set_cons_zero, List.set_cons_succ]
        refine wpAnyH_ready (rs := [4]) (by kernel_rfl) (by simp) ?_
        refine AllReadyH.cons (o := { dst := some 67, op := Op.call { callee := Callee.value (Operand.func 7), args := #[Operand.tmp 66], argTypes := #[24] }, type := 2, pos := "law.go:100", after := #[{ on := 3, ground := Ground.data }, { on := 2, ground := Ground.chain }, { on := 2, ground := Ground.guard }], guard := some (2, false) }) rfl (fun K hK => ?_) AllReadyH.nil
        go_simp
        go_at_call 7; with_reducible refine (HSG2.out _ (by assumption)).mono ?_; rintro e x3 ⟨rfl, H3⟩
        (try go_wp2_with fail)
        refine hK.out _ _ ?_ (fun hHeld3 => ?_)
        · exact H3.out
        clear hK K
        try simp only [Act.put, List.setIfInBounds_toArray, List.set_cons_zero, List.set_cons_succ]
        refine wpAnyH_ready (rs := [6]) (by kernel_rfl) (by simp) ?_
        refine AllReadyH.cons (o := { dst := some 69, op := Op.call { callee := Callee.value (Operand.func 8), args := #[Operand.tmp 68], argTypes := #[24] }, type := 2, pos := "law.go:100", after := #[{ on := 5, ground := Ground.data }, { on := 4, ground := Ground.chain }, { on := 2, ground := Ground.guard }], guard := some (2, false) }) rfl (fun K hK => ?_) AllReadyH.nil
        go_simp
        go_at_call 8; with_reducible refine (HSD2.out _ (by assumption)).mono ?_; rintro e x4 ⟨rfl, H4⟩
        (try go_wp2_with fail)
        refine hK.out _ _ ?_ (fun hHeld4 => ?_)
        · exact H4.out
        clear hK K
        try simp only [Act.put, List.setIfInBounds_toArray, List.set_cons_zero, List.set_cons_succ]
        refine wpAnyH_take (i := 7) (oi := { dst := some 70, op := Op.binOp BinOp.eql 2 (Operand.tmp 67) (Operand.tmp 69) 2, type := 4, pos := "law.go:100", after := #[{ on := 4, ground := Ground.data }, { on := 6, ground := Ground.data }, { on := 2, ground := Ground.guard }], guard := some (2, false) }) (v := ?_) rfl (by kernel_rfl) (by kernel_rfl) (by kernel_rfl) (fun _ _ _ h => h) (Or.inl ⟨by rfl, ?_⟩) (by assumption) ?_
        rotate_left
        · intro U hSw; (try dsimp only at hSw); (go_simp <;> with_reducible rfl)
        try simp only [Act.put, List.setIfInBounds_toArray, List.set_cons_zero, List.set_cons_succ]
        refine wpAnyH_take (i := 8) (oi := { dst := some 71, op := Op.pick (Operand.tmp 65) (Operand.const (Value.bool true)) (Operand.tmp 70), type := 4, pos := "law.go:100", after := #[{ on := 2, ground := Ground.data }, { on := 7, ground := Ground.data }], guard := none }) (v := ?_) rfl (by kernel_rfl) (by kernel_rfl) (by kernel_rfl) (fun _ _ _ h => h) (Or.inl ⟨by rfl, ?_⟩) (by assumption) ?_
        rotate_left
        · intro U hSw; (try dsimp only at hSw); (go_simp <;> with_reducible rfl)
        try simp only [Act.put, List.setIfInBounds_toArray, List.set_cons_zero, List.set_cons_succ]
        refine wpAnyH_take (i := 9) (oi := { dst := some 6, op := Op.assign (Operand.tmp 71), type := 4, pos := "law.go:100", after := #[{ on := 8, ground := Ground.data }, { on := 6, ground := Ground.chain }, { on := 0, ground := Ground.phase }, { on := 1, ground := Ground.phase }, { on := 2, ground := Ground.phase }, { on := 3, ground := Ground.phase }, { on := 4, ground := Ground.phase }, { on := 5, ground := Ground.phase }, { on := 6, ground := Ground.phase }, { on := 7, ground := Ground.phase }, { on := 8, ground := Ground.phase }], guard := none }) (v := ?_) rfl (by kernel_rfl) (by kernel_rfl) (by kernel_rfl) (fun _ _ _ h => h) (Or.inl ⟨by rfl, ?_⟩) (by assumption) ?_
        rotate_left
        · intro U hSw; (try dsimp only at hSw); (go_simp <;> with_reducible rfl)
        try simp only [Act.put, List.setIfInBounds_toArray, List.set_cons_zero, List.set_cons_succ]
        refine wpAnyH_done (by kernel_rfl) ?_ _
        go_wp2_with fail
        exact HF.out _ (HNF.out.trans hHeld4)
  · have HDZ := tHid (fun V hV => HZD.out V hV)
    have hex : (¬ (E : Int) = 0) ∨ ((E : Int) = 0 ∧ at_ < 0) ∨ ((E : Int) = 0 ∧ ¬ at_ < 0 ∧ 512 ≤ at_) ∨ ((E : Int) = 0 ∧ ¬ at_ < 0 ∧ ¬ 512 ≤ at_ ∧ 148 ≤ at_ ∧ at_ < 156) ∨ ((E : Int) = 0 ∧ ¬ at_ < 0 ∧ ¬ 512 ≤ at_ ∧ ((148 : Int) ≤ at_ ∧ ¬ at_ < 156 ∨ ¬ (148 : Int) ≤ at_) ∧ tn = 0) := by omega
    clear hcond HE
    generalize hR : encR h = R at *
    have HRR := tHid hR
    clear hR
    generalize hM : h.C = M at *
    have HM := tHid hM
    go_enter Tryd.func4, Tryd.ntmps4
    go_upto_region 1 with fail
    rw [HW1.out]
    have HL1' : Hid (W1.heap[hb]? = some (.cells M 23)) := by rw [← HM.out]; exact HL1.out
    have HS1 : Hid ((Tryd.prog.info? 23).map (·.size) = some M.size) := by rw [← HM.out]; exact HSZ.out h
    go_upto_region 2 with (first
        | (refine wpList_load_row rfl 23 _ rfl hb (by first | rfl | simp [Act.eval]) 23 _ (0, 0) _ HL1'.out Tryd.underlying23 rfl HS1.out ?_)
        | (go_at_call 5; with_reducible refine HEN.out.mono ?_; rintro e w2 ⟨rfl, W3, e3, K3⟩)
        | (refine wpList_store_row rfl 24 _ _ rfl w2.heap.size (rc R) (by first | rfl | simp [Act.eval]) (by first | rfl | simp [Act.eval]) 24 _ (newHeap w2 _) (HZI.out _ HRL.out).1 (HZI.out _ HRL.out).2.1 (HZI.out _ HRL.out).2.2 ?_; rw [e3]))
    obtain ⟨HD3⟩ : Nonempty (Hid (Calls Tryd.prog 6 #[.agg Tryd.zeroCells24] W3 fun e w2 => e = .returned (.tuple #[.agg (decH zrec).C, .int .i64 (decP zrec : Nat), .int .i64 131]) ∧ ∃ W5, (w2.alloc (.cells #[.int .i64 0, .string ⟨#[]⟩, .string ⟨#[]⟩, .int .i64 0, .int .i64 0, .int .i64 0, .int .i64 0, .int .i64 0, .int .u8 0, .string ⟨#[]⟩, .string ⟨#[]⟩, .string ⟨#[]⟩, .int .i64 0, .int .i64 0] 23)).setRow w2.heap.size (decH zrec).C = W5 ∧ Hid (Nw W1 W5))) := ⟨HDZ.out W3 K3.out.1.nw⟩
    generalize w2.heap.size = rb at *
    clear e3 HEN HDZ HZD
    rcases hex with h1 | ⟨h1, h2⟩ | ⟨h1, h2, h3⟩ | ⟨h1, h2, h3, h4, h5⟩ | ⟨h1, h2, h3, h4 | h4, h5⟩
    all_goals
      (try (have hq : ((E : Int) == 0) = false := by rw [beq_eq_false_iff_ne]; exact h1))
      (try subst h5)
      (try (have hE0 : E = 0 := by omega); try subst hE0)
      (try obtain ⟨h4a, h4b⟩ := h4)
      go_wp2_with (first
        | (go_at_call 6; with_reducible refine HD3.out.mono ?_; rintro e w6 ⟨rfl, W7, e7, K7⟩)
        | (refine wpList_store_row rfl 23 _ _ rfl w6.heap.size (decH zrec).C (by first | rfl | simp [Act.eval]) (by first | rfl | simp [Act.eval]) 23 _ (newHeap w6 _) (HSZ.out _) (HZ1.out _) (HON.out _) ?_; rw [e7]))
      exact HF.out _ (HN1.out.trans K7.out)
end Go.Proofs.YtoegbaenheeogaaDoor

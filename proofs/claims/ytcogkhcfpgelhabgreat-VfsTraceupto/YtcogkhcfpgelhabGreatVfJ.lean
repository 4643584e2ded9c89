import Derived.Test.YtcogkhcfpgelhabGreatVfI
namespace Go.Proofs.YtcogkhcfpgelhabGreat
open Go.RowKit
set_option linter.unusedVariables false
set_option maxRecDepth 100000
variable {fb mb : Nat} {ot : Option Nat} {L : Int → Lay} {h : Hx} {q : Int → Option Pn} {cnt : Nat} {T : List Ac} {w w' : World} {X : Nat → Prop}
/-- What add answers and leaves. -/
def AddO (fb mb : Nat) (ot : Option Nat) (L : Int → Lay) (h : Hx) (q : Int → Option Pn) (cnt : Nat) (T : List Ac) (op d : Int) (s : Tx) (kd : Int) (mt : Mt) (tgt : Tx) (w0 : World) (e : Ending) (w' : World) : Prop :=
  (addE h q cnt d s kd mt tgt ≠ 0 ∧ e = .returned (.tuple #[.int .i64 0, .int .i64 (addE h q cnt d s kd mt tgt)]) ∧ Nw w0 w') ∨
  (addE h q cnt d s kd mt tgt = 0 ∧ e = .returned (.tuple #[.int .i64 h.next, .int .i64 0]) ∧ MutO fb mb ot L q { h with next := h.next + 1 } (addQ q d s h.next (newP kd mt tgt)) (cnt + 1) (T ++ [⟨op, d, s, h.next, 0, [], 0, 0⟩]) w0 w')
theorem rdp_one {w : World} (d : Int) (s : Tx) : RdP w.heap.size 0 [(d, s)] (w.alloc (.cells #[.int .i64 d, .string (mk s)] 110)) := fun i hi => by
  have h0 : i = 0 := by simp at hi; omega
  subst h0
  exact ⟨(rc (nh w _) 0 _ rfl).1, (rc (nh w _) 1 _ rfl).1⟩
set_option maxHeartbeats 16000000 in
theorem add_any {w0 : World} (H0 : FsH fb mb ot L h q cnt T w0) (hN0 : Nw w0 w) (hfr : q h.next = none) (hnx : 0 ≤ h.next ∧ h.next ≤ 1099511627776) (hT : T.length ≤ 2000000000000) (hcn : cnt ≤ 1000000) (d : Int) (hd64 : I64 d) (s : Tx) (hs : s.length ≤ 140737488351232)
    (hzero : ∀ p n, q d = some p → p.ents s = some n → n ≠ 0) (hneb : ∀ p, q d = some p → p.ne ≤ 1000000000000000) (kd : Int) (mt : Mt) (tgt : Tx) (htl : tgt.length ≤ 140737488351232) (eb : Nat) (hE : kd = 1 → w0.heap.size ≤ eb ∧ Mp ME eb (fun _ => none) 0 w) (op : Int) :
    Calls Tryz.prog 51 #[.pointer (some ⟨fb, 0, none⟩), .int .i64 op, .agg #[.int .i64 d, .string (mk s)], .agg (ndC (newP kd mt tgt) (.slice none 0 0) (newE kd eb))] w (AddO fb mb ot L h q cnt T op d s kd mt tgt w0) := by
  obtain ⟨P, hP⟩ : ∃ P : Ending → World → Prop, P = AddO fb mb ot L h q cnt T op d s kd mt tgt w0 := ⟨_, rfl⟩
  rw [← hP]
  have HP := tHid hP
  clear hP
  obtain ⟨V1, hV1⟩ : ∃ V1, V1 = w.alloc (.cells #[.int .i64 d, .string (mk s)] 110) := ⟨_, rfl⟩
  obtain ⟨V2, hV2⟩ : ∃ V2, V2 = V1.alloc (.cells (ndC (newP kd mt tgt) (.slice none 0 0) (newE kd eb)) 91) := ⟨_, rfl⟩
  have hN1 : Nw w V1 := by rw [hV1]; exact (Fr.refl _ _).alloc _
  have hN2 : Nw V1 V2 := by rw [hV2]; exact (Fr.refl _ _).alloc _
  have hsz : V1.heap.size = w.heap.size + 1 := by rw [hV1]; simp
  have hs0 := hN0.size
  obtain ⟨sb, hsb⟩ : ∃ sb, sb = w.heap.size := ⟨_, rfl⟩
  obtain ⟨ib, hib⟩ : ∃ ib, ib = V1.heap.size := ⟨_, rfl⟩
  have hI0 : V2.heap[ib]? = some (.cells (ndC (newP kd mt tgt) (.slice none 0 0) (newE kd eb)) 91) := by rw [hib, hV2]; exact nh _ _
  have HC : Hid (∀ V, Nw V2 V → FsH fb mb ot L h q cnt T V ∧ V.cell? ⟨sb, 0, none⟩ = some (.int .i64 d) ∧ V.cell? ⟨sb, 1, none⟩ = some (.string (mk s)) ∧ NdC ib (newP kd mt tgt) (.slice none 0 0) (newE kd eb) V ∧ V.heap[ib]? = some (.cells (ndC (newP kd mt tgt) (.slice none 0 0) (newE kd eb)) 91)) := fun V hV => by
    have hI := hV.heap hI0
    refine ⟨H0.nw (((hN0.trans hN1).trans hN2).trans hV), (hN2.trans hV).cell ?_, (hN2.trans hV).cell ?_, ndc_of hI, hI⟩
    · rw [hV1, hsb]; exact (rc (nh w _) 0 _ rfl).1
    · rw [hV1, hsb]; exact (rc (nh w _) 1 _ rfl).1
  have HNw : Hid (∀ V, Nw V2 V → Nw w0 V) := fun V hV => ((hN0.trans hN1).trans hN2).trans hV
  have HU : Hid (Calls Tryz.prog 54 #[.pointer (some ⟨fb, 0, none⟩), .slice (some ⟨V2.heap.size, 0, none⟩) 1 1] (V2.alloc (.cells #[.int .i64 d, .string (mk s)] 110)) fun e w4 => e = .returned (.int .i64 (unfQ q [(d, s)])) ∧ Hid (Nw V2 w4)) := by
    have hA : Nw V2 (V2.alloc (.cells #[.int .i64 d, .string (mk s)] 110)) := (Fr.refl _ _).alloc _
    have := unfit_any (HC.out _ hA).1 V2.heap.size 0 [(d, s)] (rdp_one d s) (fun x hx => by rw [List.mem_singleton] at hx; subst hx; exact ⟨hd64, hs⟩) 1 (by simp) (by omega)
    exact this.mono (fun e w' hh => ⟨hh.1, hA.trans hh.2⟩)
  have HTg : Hid (∀ V, Calls Tryz.prog 74 #[.string (mk tgt)] V fun e w' => e = .returned (.bool (tgOk tgt)) ∧ V = w') := fun V => isTarget_any tgt V htl
  have HMt : Hid (∀ V, Nw V2 V → Calls Tryz.prog 63 #[mtV mt] V fun e w' => e = .returned (.bool (mtOk mt)) ∧ Hid (Nw V2 w')) := fun V hV => (isMeta_any mt V).mono (fun e w' hh => ⟨hh.1, hV.trans hh.2⟩)
  have HTail : Hid (∀ pd, q d = some pd → pd.kind = 1 → pd.ents s = none → ∀ V, Nw V2 V → ∃ W6, (Instr.mapUpdate 80 (.map (some mb)) (.int .i64 h.next) (.pointer (some ⟨ib, 0, none⟩))).run Tryz.prog (V.setCell ⟨fb, 4, none⟩ (.int .i64 (h.next + 1))) = .ok () W6 ∧ W6.cell? ⟨sb, 0, none⟩ = some (.int .i64 d) ∧ W6.cell? ⟨sb, 1, none⟩ = some (.string (mk s)) ∧ Hid (Calls Tryz.prog 56 #[.pointer (some ⟨fb, 0, none⟩), .agg #[.int .i64 d, .string (mk s)], .int .i64 h.next] W6 fun e w7 => (∃ r, e = .returned r) ∧ w7.cell? ⟨sb, 0, none⟩ = some (.int .i64 d) ∧ w7.cell? ⟨sb, 1, none⟩ = some (.string (mk s)) ∧ Hid (Calls Tryz.prog 53 #[.pointer (some ⟨fb, 0, none⟩), .agg (acC ⟨op, d, s, h.next, 0, [], 0, 0⟩)] w7 fun e w8 => (∃ r, e = .returned r) ∧ Hid (MutO fb mb ot L q { h with next := h.next + 1 } (addQ q d s h.next (newP kd mt tgt)) (cnt + 1) (T ++ [⟨op, d, s, h.next, 0, [], 0, 0⟩]) w0 w8)))) := fun pd hd hk hf V hV => by
    have hc := HC.out V hV
    exact add_tail H0 (HNw.out V hV) hfr hnx hT hcn hd64 hs hd hk hf (hneb pd hd) kd mt tgt ib eb sb (by omega) (by omega) (by omega) hc.2.1 hc.2.2.1 hc.2.2.2.2 (fun hk1 => ⟨(hE hk1).1, (hE hk1).2.nw ((hN1.trans hN2).trans hV)⟩) op
  have HAt : Hid (∀ pd, q d = some pd → pd.kind = 1 → ∀ V, Nw V2 V → Calls Tryz.prog 55 #[.pointer (some ⟨fb, 0, none⟩), .agg #[.int .i64 d, .string (mk s)]] V fun e w' => e = .returned (.int .i64 ((pd.ents s).getD 0)) ∧ Hid (Nw V2 w')) := fun pd hd hk V hV => (at_any (HC.out V hV).1 d hd64 s hs hd hk).mono (fun e w' hh => ⟨hh.1, hV.trans hh.2⟩)
  have HZ := tHid hzero
  have hfl : fb < w0.heap.size := H0.cs.lt
  have n1 : ¬ fb = sb := by omega
  have n2 : ¬ fb = ib := by omega
  have hib2 : w.heap.size + 1 = ib := by omega
  have HFE : Hid (∀ er V, er ≠ 0 → addE h q cnt d s kd mt tgt = er → Nw V2 V → P (.returned (.tuple #[.int .i64 0, .int .i64 er])) V) := fun er V h1 h2 hV => by
    rw [HP.out]
    subst h2
    exact .inl ⟨h1, rfl, HNw.out V hV⟩
  have HFO : Hid (∀ V, addE h q cnt d s kd mt tgt = 0 → MutO fb mb ot L q { h with next := h.next + 1 } (addQ q d s h.next (newP kd mt tgt)) (cnt + 1) (T ++ [⟨op, d, s, h.next, 0, [], 0, 0⟩]) w0 V → P (.returned (.tuple #[.int .i64 h.next, .int .i64 0])) V) := fun V h1 hm => by
    rw [HP.out]
    exact .inr ⟨h1, rfl, hm⟩
  have HFC : Hid (∀ V, Nw V2 V → HdC fb mb h V ∧ ∀ k ty, (Builtin.len_ #[80] ty #[.map (some mb)]).run Tryz.prog (V.drewN k) = .ok (.int .i64 cnt) (V.drewN k)) := fun V hV => ⟨(HC.out V hV).1.cs, fun k ty => ((HC.out V hV).1.nw ((Fr.refl _ _).drewN k)).len ty⟩
  have HCI : Hid (∀ V, Nw V2 V → V.cell? ⟨sb, 0, none⟩ = some (.int .i64 d) ∧ V.cell? ⟨sb, 1, none⟩ = some (.string (mk s)) ∧ V.cell? ⟨ib, 0, none⟩ = some (.int .i64 kd) ∧ V.cell? ⟨ib, 1, none⟩ = some (.int .u32 mt.mode) ∧ V.cell? ⟨ib, 2, none⟩ = some (.int .u32 mt.uid) ∧ V.cell? ⟨ib, 3, none⟩ = some (.int .u32 mt.gid) ∧ V.cell? ⟨ib, 4, none⟩ = some (.int .i64 mt.time) ∧ V.cell? ⟨ib, 5, none⟩ = some (.int .i32 mt.nano) ∧ V.cell? ⟨ib, 7, none⟩ = some (.string (mk tgt))) := fun V hV => by
    obtain ⟨_, k1, k2, _, k3⟩ := HC.out V hV
    exact ⟨k1, k2, (rc k3 0 _ rfl).1, (rc k3 1 _ rfl).1, (rc k3 2 _ rfl).1, (rc k3 3 _ rfl).1, (rc k3 4 _ rfl).1, (rc k3 5 _ rfl).1, (rc k3 7 _ rfl).1⟩
  have HQ1 : Hid (unfQ q [(d, s)] = 0 → ∃ pd, q d = some pd ∧ pd.kind = 1 ∧ nmOk s = true) := unfQ_one
  have HAE : Hid (addE h q cnt d s kd mt tgt = if unfQ q [(d, s)] ≠ 0 then unfQ q [(d, s)] else if kd = 3 ∧ tgOk tgt = false then 107 else if mtOk mt = false then 1 else if ((q d).bind (fun p => p.ents s)).isSome then 104 else if (cnt : Int) ≥ h.nodes ∨ h.next ≥ 1099511627776 then 105 else 0) := rfl
  have hnd : mk [] = ⟨#[]⟩ := rfl
  clear H0 hN0 hN1 hN2 hE hI0 hzero hneb hfr HC
  generalize addE h q cnt d s kd mt tgt = er at *
  generalize newE kd eb = ev at *
  obtain ⟨s0, s1, i0, i1, i2, i3, i4, i5, i7⟩ := HCI.out V2 (Fr.refl _ _)
  have HW1 := tHid hV1
  have HW2 := tHid hV2
  have HW3 := tHid hib2
  have HW4 := tHid hsb
  clear hV1 hV2 hib2 hsb hib hsz
  go_enter Tryz.func51, Tryz.ntmps51
  go_upto_region 1 with fail
  rw [← HW1.out, ← HW2.out, HW3.out, ← HW4.out]
  clear HW1 HW2 HW3 HW4
  go_upto_region 2 with (first | (go_at_call 54; with_reducible refine HU.out.mono ?_; rintro e w4 ⟨rfl, H4⟩))
  obtain ⟨s0', s1', i0', i1', i2', i3', i4', i5', i7'⟩ := HCI.out w4 H4.out
  clear HU s0 s1 i0 i1 i2 i3 i4 i5 i7
  by_cases hu : unfQ q [(d, s)] = 0
  · obtain ⟨pd, hd, hk, hnm⟩ := HQ1.out hu
    have HT := tHid (HTail.out pd hd hk)
    have HA := tHid (HAt.out pd hd hk)
    have HZ1 : Hid (∀ n, pd.ents s = some n → n ≠ 0) := fun n hn => HZ.out pd n hd hn
    have HAE1 := HAE.out
    rw [hu, hd] at HAE1
    simp only [ne_eq, not_true_eq_false, if_false, Option.bind_some] at HAE1
    have HAE2 := tHid HAE1
    have hent : Hid (pd.ents s = pd.ents s) := rfl
    rw [hu]
    clear HAE HAE1 HQ1 HTail HAt HZ hu hd hk hnm
    go_upto_region 4 with fail
    go_cut [20] (fun v wr => v = .bool (decide (kd = 3 ∧ tgOk tgt = false)) ∧ wr = w4)
    case first =>
      clear HT HA HZ1 HAE2 HFE HFO HFC HCI HMt HNw
      by_cases hk3 : kd = 3
      · subst hk3
        generalize tgOk tgt = Bt at *
        generalize mk tgt = tt at *
        go_wp2_with (first | (go_at_call 74; with_reducible refine (HTg.out _).mono ?_; rintro e w5 ⟨rfl, rfl⟩))
        go_meet
        exact ⟨by cases Bt <;> rfl, rfl⟩
      · have hkb : (kd == 3) = false := by rw [beq_eq_false_iff_ne]; exact hk3
        have hdd : decide (kd = 3 ∧ tgOk tgt = false) = false := decide_eq_false (fun hh => hk3 hh.1)
        go_wp2_with fail
        go_meet
        exact ⟨by rw [hdd], rfl⟩
    case rest =>
    obtain ⟨rfl, rfl⟩ := hcut
    by_cases h3 : kd = 3 ∧ tgOk tgt = false
    · have e1 := HAE2.out
      rw [if_pos h3] at e1
      have HF := tHid (HFE.out er wc (by rw [e1]; decide) rfl H4.out)
      rw [e1] at HF
      rw [decide_eq_true h3]
      clear HT HA HZ1 HAE2 HFE HFO HFC HCI HMt HNw e1
      go_wp2_with fail
      exact HF.out
    · have e1 := HAE2.out
      rw [if_neg h3] at e1
      have HAE3 := tHid e1
      rw [decide_eq_false h3]
      clear e1 HAE2 h3 HTg
      have HM := tHid (HMt.out wc H4.out)
      obtain ⟨Bm, hBm⟩ : ∃ Bm, mtOk mt = Bm := ⟨_, rfl⟩
      rw [hBm] at HM HAE3
      clear HMt
      cases Bm with
      | false =>
        have e1 := HAE3.out
        rw [if_pos rfl] at e1
        have HF : Hid (∀ V, Nw V2 V → P (.returned (.tuple #[.int .i64 0, .int .i64 1])) V) := fun V hV => by
          have := HFE.out er V (by rw [e1]; decide) rfl hV
          rw [e1] at this
          exact this
        clear HT HA HZ1 HAE3 HFE HFO HFC HCI HNw e1
        go_wp2_with (first | (go_at_call 63; with_reducible refine HM.out.mono ?_; rintro e w5 ⟨rfl, H5⟩))
        exact HF.out _ H5.out
      | true =>
        have e1 := HAE3.out
        rw [if_neg (by decide)] at e1
        have HAE4 := tHid e1
        clear e1 HAE3
        go_upto_region 8 with (first | (go_at_call 63; with_reducible refine HM.out.mono ?_; rintro e w5 ⟨rfl, H5⟩))
        clear s0' s1' i0' i1' i2' i3' i4' i5' i7'
        obtain ⟨s0, s1, i0, _⟩ := HCI.out w5 H5.out
        have HA5 := tHid (HA.out w5 H5.out)
        clear HA HM
        obtain ⟨oe, hoe⟩ : ∃ oe, pd.ents s = oe := ⟨_, rfl⟩
        rw [hoe] at HA5 HT HZ1
        simp only [hoe] at HAE4
        clear hent hoe
        cases oe with
        | some y =>
          have e1 := HAE4.out
          simp only [Option.isSome_some, if_true] at e1
          have hy : y ≠ 0 := HZ1.out y (by first | trivial | rfl)
          have hyb : (y == 0) = false := by rw [beq_eq_false_iff_ne]; exact hy
          have HF : Hid (∀ V, Nw V2 V → P (.returned (.tuple #[.int .i64 0, .int .i64 104])) V) := fun V hV => by
            have := HFE.out er V (by rw [e1]; decide) rfl hV
            rw [e1] at this
            exact this
          simp only [Option.getD_some] at HA5
          clear HT HZ1 HAE4 HFE HFO HFC HCI HNw e1
          go_wp2_with (first | (go_at_call 55; with_reducible refine HA5.out.mono ?_; rintro e w6 ⟨rfl, H6⟩))
          exact HF.out _ H6.out
        | none =>
          have e1 := HAE4.out
          simp only [Option.isSome_none, Bool.false_eq_true, if_false] at e1
          have HAE5 := tHid e1
          simp only [Option.getD_none] at HA5
          clear e1 HAE4 HZ1
          go_upto_region 10 with (first | (go_at_call 55; with_reducible refine HA5.out.mono ?_; rintro e w6 ⟨rfl, H6⟩))
          clear s0 s1 i0
          obtain ⟨hC, hlen⟩ := HFC.out w6 H6.out
          have c0 := hC.c0
          have c1 := hC.c1
          have c4 := hC.c4
          clear hC
          by_cases hfull : h.nodes ≤ (cnt : Int)
          · have hfd : decide (h.nodes ≤ (cnt : Int)) = true := decide_eq_true hfull
            have e1 := HAE5.out
            rw [if_pos (.inl hfull)] at e1
            have HF : Hid (∀ V, Nw V2 V → P (.returned (.tuple #[.int .i64 0, .int .i64 105])) V) := fun V hV => by
              have := HFE.out er V (by rw [e1]; decide) rfl hV
              rw [e1] at this
              exact this
            clear HT HAE5 HFE HFO HFC HCI HNw e1
            go_quiet (fail)
            go_wp2_with fail
            exact HF.out _ (H6.out.drewN _)
          · have hfd : decide (h.nodes ≤ (cnt : Int)) = false := decide_eq_false hfull
            by_cases hlast : 1099511627776 ≤ h.next
            · have hld : decide (1099511627776 ≤ h.next) = true := decide_eq_true hlast
              have e1 := HAE5.out
              rw [if_pos (.inr hlast)] at e1
              have HF : Hid (∀ V, Nw V2 V → P (.returned (.tuple #[.int .i64 0, .int .i64 105])) V) := fun V hV => by
                have := HFE.out er V (by rw [e1]; decide) rfl hV
                rw [e1] at this
                exact this
              clear HT HAE5 HFE HFO HFC HCI HNw e1
              go_quiet (fail)
              go_wp2_with fail
              exact HF.out _ (H6.out.drewN _)
            · have hld : decide (1099511627776 ≤ h.next) = false := decide_eq_false hlast
              have e1 := HAE5.out
              rw [if_neg (fun hh => hh.elim hfull hlast)] at e1
              have HF := tHid (fun V hm => HFO.out V e1 hm)
              have HT6 := tHid (HT.out (by first | trivial | rfl))
              clear HT HAE5 HFE HFO HCI HNw e1
              go_quiet (fail)
              go_upto_region 13 with fail
              have hN6 : Nw V2 (w6.drewN nq) := H6.out.drewN nq
              generalize w6.drewN nq = V6 at *
              obtain ⟨hC6, _⟩ := HFC.out V6 hN6
              obtain ⟨W6, hmu, s06, s16, HE⟩ := HT6.out V6 hN6
              have c06 := hC6.c0
              have c46 := hC6.c4
              have f46 := hC6.f4
              obtain ⟨W5, hW5⟩ : ∃ W5, V6.setCell ⟨fb, 4, none⟩ (.int .i64 (h.next + 1)) = W5 := ⟨_, rfl⟩
              have c05 : W5.cell? ⟨fb, 0, none⟩ = some (.map (some mb)) := by
                rw [← hW5, World.cell?_setCell_other _ _ _ _ (by simp)]
                exact c06
              rw [hW5] at hmu
              have hwr : IntKind.i64.wrap (h.next + 1) = h.next + 1 := by rw [IntKind.wrap_i64]; omega
              clear hC6 HFC HT6 hN6 c0 c1 c4 hlen
              go_upto_region 14 with fail
              clear hW5 c06 c46 f46
              go_upto_region 16 with (first | (go_at_call 56; with_reducible refine HE.out.mono ?_; rintro e w7 ⟨⟨r7, rfl⟩, s07, s17, HD⟩))
              unfold acC at HD
              simp only [hnd] at HD
              go_wp2_with (first | (go_at_call 53; with_reducible refine HD.out.mono ?_; rintro e w8 ⟨⟨r8, rfl⟩, HM8⟩))
              exact HF.out _ HM8.out
  · have e1 := HAE.out
    rw [if_pos hu] at e1
    have HF := tHid (HFE.out er w4 (by rw [e1]; exact hu) rfl H4.out)
    rw [e1] at HF
    have hub : (unfQ q [(d, s)] == 0) = false := by rw [beq_eq_false_iff_ne]; exact hu
    clear HAE HFE HFO HFC HCI HMt HNw HQ1 HTail HAt HZ e1
    generalize unfQ q [(d, s)] = u at *
    go_wp2_with fail
    exact HF.out
end Go.Proofs.YtcogkhcfpgelhabGreat

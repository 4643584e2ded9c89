import Derived.Test.YtoegbaenheeogabNhP
namespace Go.Proofs.Ytoegbaenheeogab
open Go.RowKit
set_option linter.unusedVariables false
set_option maxHeartbeats 8000000 in
set_option maxRecDepth 100000 in
theorem forms_walk (h : Hr) (ok : h.Ok) (w : World) : Calls Try.prog 3 #[.agg h.C] w fun e w' => e = .returned (.bool true) ∧ Nw w w' := by
  obtain ⟨P, hP⟩ : ∃ P : Ending → World → Prop, P = fun e w' => e = .returned (.bool true) ∧ Nw w w' := ⟨_, rfl⟩
  rw [← hP]
  have HF : Hid (∀ W, Nw w W → P (.returned (.bool true)) W) := fun W hW => by rw [hP]; exact ⟨rfl, hW⟩
  clear hP
  obtain ⟨hb, hhb⟩ : ∃ hb, w.heap.size = hb := ⟨_, rfl⟩
  obtain ⟨W1, hW1⟩ : ∃ W1, w.alloc (.cells #[.int .i64 1, .string h.name, .string ⟨#[]⟩, .int .i64 h.mode, .int .i64 h.uid, .int .i64 h.gid, .int .i64 h.size, .int .i64 h.time, .int .u8 h.typ.toNat, .string h.link, .string ⟨#[]⟩, .string ⟨#[]⟩, .int .i64 0, .int .i64 0] 23) = W1 := ⟨_, rfl⟩
  have hN1 : Nw w W1 := by rw [← hW1]; exact (Fr.refl _ _).alloc _
  have hH1 : HcH hb (plainH h 1) W1 := by rw [← hW1, ← hhb]; exact newHeap _ _
  have ok1 := plain_ok h ok 1 (.inl rfl)
  have HL1 := tHid hH1
  have HSZ := tHid (hcSize (plainH h 1))
  have HEN : Hid (Calls Try.prog 4 #[.agg (plainH h 1).C] W1 fun e w2 => e = .returned (.tuple #[.agg (rc (encR (plainH h 1))), .int .i64 (encE (plainH h 1) : Nat)]) ∧ ∃ W3, (w2.alloc (.cells zRe 24)).setRow w2.heap.size (rc (encR (plainH h 1))) = W3 ∧ Hid (EnB (plainH h 1) w2.heap.size W1 W3 ∧ W1.heap.size ≤ w2.heap.size)) := enc_blk _ ok1 W1
  have HZI := tHid (fun R hR => rz_facts R hR)
  have HRL1 := tHid (encR_length _ ok1)
  have HPB := tHid (fun f hf he => plain_bytes h f hf ok1 (plain_ok h ok f hf) he)
  have HENF : Hid (∀ f V, isF f → Calls Try.prog 4 #[.agg (plainH h f).C] V fun e w2 => e = .returned (.tuple #[.agg (rc (encR (plainH h f))), .int .i64 (encE (plainH h f) : Nat)]) ∧ ∃ W3, (w2.alloc (.cells zRe 24)).setRow w2.heap.size (rc (encR (plainH h f))) = W3 ∧ Hid (EnB (plainH h f) w2.heap.size V W3 ∧ V.heap.size ≤ w2.heap.size)) := fun f V hf => enc_blk _ (plain_ok h ok f hf) V
  have HRLF := tHid (fun f hf => encR_length _ (plain_ok h ok f hf))
  have HONE : Hid (∀ V, Calls Try.prog 4 #[.agg #[.int .i64 3, .string ⟨#[97]⟩, .string ⟨#[]⟩, .int .i64 0, .int .i64 0, .int .i64 0, .int .i64 0, .int .i64 0, .int .u8 53, .string ⟨#[]⟩, .string ⟨#[]⟩, .string ⟨#[]⟩, .int .i64 0, .int .i64 0]] V fun e w2 => e = .returned (.tuple #[.agg (rc (encR hOne)), .int .i64 0]) ∧ ∃ W3, (w2.alloc (.cells zRe 24)).setRow w2.heap.size (rc (encR hOne)) = W3 ∧ W3.cell? ⟨w2.heap.size, 156, none⟩ = some (.int .u8 53) ∧ Hid (Nw V W3)) := fun V => by
    have t := enc_blk hOne hOne_ok V
    rw [hOne_e] at t
    refine t.mono ?_
    rintro e w2 ⟨rfl, W3, e3, K⟩
    obtain ⟨hl, e156⟩ := List.getElem?_eq_some_iff.1 hOne_t
    have c := (K.out.1.rec1.cell 156 hl).1
    rw [e156] at c
    exact ⟨rfl, W3, e3, c, K.out.1.nw⟩
  have HRO := tHid (encR_length hOne hOne_ok)
  have HW1 := tHid hW1
  have HN1 := tHid hN1
  have hCu : h.C = #[.int .i64 h.form, .string h.name, .string h.pfx, .int .i64 h.mode, .int .i64 h.uid, .int .i64 h.gid, .int .i64 h.size, .int .i64 h.time, .int .u8 h.typ.toNat, .string h.link, .string h.user, .string h.group, .int .i64 h.major, .int .i64 h.minor] := rfl
  rw [hCu]
  clear hCu hW1 hN1 hH1
  have hzR := zeroRe
  go_enter Try.func3, Try.ntmps3
  go_upto_region 2 with fail
  rw [HW1.out]
  go_upto_region 4 with (first
    | (refine wpList_load_row rfl 23 _ rfl hb (by first | rfl | simp [Act.eval]) 23 _ (0, 0) _ HL1.out Try.underlying23 rfl HSZ.out ?_)
    | (go_at_call 4; with_reducible refine HEN.out.mono ?_; rintro e w2 ⟨rfl, W3, e3, K3⟩)
    | (refine wpList_store_row rfl 24 _ _ rfl w2.heap.size (rc (encR (plainH h 1))) (by first | rfl | simp [Act.eval]) (by first | rfl | simp [Act.eval]) 24 _ (newHeap w2 _) (HZI.out _ HRL1.out).1 (HZI.out _ HRL1.out).2.1 (HZI.out _ HRL1.out).2.2 ?_; rw [e3]))
  obtain ⟨E, hE⟩ : ∃ E, encE (plainH h 1) = E := ⟨_, rfl⟩
  rw [hE]
  have HE := tHid hE
  have HRB : Hid (hb ≠ w2.heap.size) := by
    have h1 := (Array.getElem?_eq_some_iff.1 HL1.out).1
    have h2 := K3.out.2
    show hb ≠ _
    omega
  generalize w2.heap.size = rb at *
  have HST : Hid (HcH hb (plainH h 1) W3 ∧ RcH rb (encR (plainH h 1)) W3 ∧ Nw w W3) := ⟨Nw.heap K3.out.1.nw HL1.out, K3.out.1.rec1, HN1.out.trans K3.out.1.nw⟩
  clear K3 e3 HEN HL1 HSZ HW1 HN1 hE
  go_loopg [5] 4 (fun kx v wr => ∃ f : Nat, 2 ≤ f ∧ f ≤ 4 ∧ 4 ≤ f + kx ∧ v = .int .i64 (f : Int) ∧ Hid (HcH hb (plainH h (f - 1)) wr ∧ RcH rb (encR (plainH h 1)) wr ∧ Nw w wr))
  case atStart => exact ⟨2, by omega, by omega, by omega, rfl, HST.out⟩
  case round =>
    obtain ⟨f, hf2, hf4, hkx, rfl, HI⟩ := hrel
    by_cases hlt : f ≤ 3
    · have hltI : (f : Int) ≤ 3 := by omega
      have hF : isF f := by unfold isF; omega
      have c0 : wr.cell? ⟨hb, 0, none⟩ = some (.int .i64 ((f - 1 : Nat) : Int)) := cell_of HI.out.1 0 _ rfl
      have g0 : wr.frozen? ⟨hb, 0, none⟩ = false := frz_of HI.out.1 0
      obtain ⟨V, hV⟩ : ∃ V, wr.setCell ⟨hb, 0, none⟩ (.int .i64 (f : Int)) = V := ⟨_, rfl⟩
      have fV : Fr (fun k => k = hb) wr V := by rw [← hV]; exact (Fr.refl _ _).setCell _ _ (.inl rfl)
      have hHV : HcH hb (plainH h f) V := by
        have := HI.out.1
        rw [← hV]
        unfold HcH at this ⊢
        simp only [World.setCell, Array.getElem?_modify, this]
        simp [Hr.C, plainH]
      have hRV := HI.out.2.1.kept fV (fun e => HRB.out e.symm)
      have hNV : Nw w V := Fr.then HI.out.2.2 fV (fun i hi => .inr (by omega))
      have HHV := tHid hHV
      have HSZ := tHid (hcSize (plainH h f))
      have HEN := tHid (HENF.out f V hF)
      have HRL := tHid (HRLF.out f hF)
      have HV := tHid hV
      have HNX : Hid (∀ W3 sb, EnB (plainH h f) sb V W3 → HcH hb (plainH h (f + 1 - 1)) W3 ∧ RcH rb (encR (plainH h 1)) W3 ∧ Nw w W3) := fun W3 sb q => ⟨Nw.heap q.nw hHV, hRV.kept q.nw (fun h => h), hNV.trans q.nw⟩
      have HPF := tHid (HPB.out f hF)
      rw [HE.out] at HPF
      clear hHV hRV hNV fV hV HI HENF HRLF HPB HF
      go_upto_region 7 with fail
      rw [HV.out]
      go_upto_region 8 with (first
        | (refine wpList_load_row rfl 23 _ rfl hb (by first | rfl | simp [Act.eval]) 23 _ (0, 0) _ HHV.out Try.underlying23 rfl HSZ.out ?_)
        | (go_at_call 4; with_reducible refine HEN.out.mono ?_; rintro e w4 ⟨rfl, W5, e5, K5⟩)
        | (refine wpList_store_row rfl 24 _ _ rfl w4.heap.size (rc (encR (plainH h f))) (by first | rfl | simp [Act.eval]) (by first | rfl | simp [Act.eval]) 24 _ (newHeap w4 _) (HZI.out _ HRL.out).1 (HZI.out _ HRL.out).2.1 (HZI.out _ HRL.out).2.2 ?_; rw [e5]))
      generalize w4.heap.size = sb at *
      have HN2 := tHid (HNX.out W5 sb K5.out.1)
      by_cases hE0 : E = 0
      · obtain ⟨hEf, hby⟩ := HPF.out hE0
        have HBY := tHid hby
        have HS5 := tHid K5.out.1.rec1
        have HR5 := tHid HN2.out.2.1
        rw [hEf]
        subst hE0
        clear hEf hby HPF K5 e5 HEN HNX
        go_upto_region 12 with fail
        go_loopg [8] 148 (fun kx v wz => ∃ I : Nat, I ≤ 148 ∧ 148 ≤ I + kx ∧ v = .int .i64 (I : Int) ∧ Hid (Nw W5 wz))
        case atStart => exact ⟨0, by omega, by omega, rfl, Fr.refl _ _⟩
        case round =>
          obtain ⟨I, hI, hk2, rfl, HJ⟩ := hrel
          by_cases hl : I < 148
          · have hlI : (I : Int) < 148 := by omega
            have h512 : (I : Int) < 512 := by omega
            have hcr := (HR5.out.kept HJ.out (fun h => h)).cell I (by rw [HRL1.out]; omega)
            have hcs := (HS5.out.kept HJ.out (fun h => h)).cell I (by rw [HRL.out]; omega)
            have hxy : (encR (plainH h 1))[I]'(by rw [HRL1.out]; omega) = (encR (plainH h f))[I]'(by rw [HRL.out]; omega) := by
              have := HBY.out I (.inl hl)
              rw [List.getElem?_eq_getElem (by rw [HRL1.out]; omega), List.getElem?_eq_getElem (by rw [HRL.out]; omega)] at this
              injection this
            have c1 := hcr.1
            have c2 := hcs.1
            rw [← hxy] at c2
            generalize (encR (plainH h 1))[I]'(by rw [HRL1.out]; omega) = x at *
            have HJ2 := tHid (fun n => Fr.drewN HJ.out n)
            clear hcr hcs hxy
            go_upto_region 14 with fail
            go_quiet (fail)
            go_wp2_with fail
            go_roundg (148 - (I + 1))
            case measure => omega
            case rel => exact ⟨I + 1, by omega, by omega, by first | rfl | (congr 1), HJ2.out _⟩
          · have hlI : ¬ (I : Int) < 148 := by omega
            go_upto_region 17 with fail
            go_loopg [9] 257 (fun kx v wz => ∃ I : Nat, 156 ≤ I ∧ I ≤ 257 ∧ 257 ≤ I + kx ∧ v = .int .i64 (I : Int) ∧ Hid (Nw W5 wz))
            case atStart => exact ⟨156, by omega, by omega, by omega, rfl, HJ.out⟩
            case round =>
              obtain ⟨I, hI1, hI, hk2, rfl, HJ⟩ := hrel
              by_cases hl : I < 257
              · have hlI : (I : Int) < 257 := by omega
                have h512 : (I : Int) < 512 := by omega
                have hcr := (HR5.out.kept HJ.out (fun h => h)).cell I (by rw [HRL1.out]; omega)
                have hcs := (HS5.out.kept HJ.out (fun h => h)).cell I (by rw [HRL.out]; omega)
                have hxy : (encR (plainH h 1))[I]'(by rw [HRL1.out]; omega) = (encR (plainH h f))[I]'(by rw [HRL.out]; omega) := by
                  have := HBY.out I (.inr ⟨hI1, hl⟩)
                  rw [List.getElem?_eq_getElem (by rw [HRL1.out]; omega), List.getElem?_eq_getElem (by rw [HRL.out]; omega)] at this
                  injection this
                have c1 := hcr.1
                have c2 := hcs.1
                rw [← hxy] at c2
                generalize (encR (plainH h 1))[I]'(by rw [HRL1.out]; omega) = x at *
                have HJ2 := tHid (fun n => Fr.drewN HJ.out n)
                clear hcr hcs hxy
                go_upto_region 19 with fail
                go_quiet (fail)
                go_wp2_with fail
                go_roundg (257 - (I + 1))
                case measure => omega
                case rel => exact ⟨I + 1, by omega, by omega, by omega, by first | rfl | (congr 1), HJ2.out _⟩
              · have hlI : ¬ (I : Int) < 257 := by omega
                have HFIN : Hid (HcH hb (plainH h (f + 1 - 1)) _ ∧ RcH rb (encR (plainH h 1)) _ ∧ Nw w _) := ⟨Nw.heap HJ.out HN2.out.1, HN2.out.2.1.kept HJ.out (fun h => h), HN2.out.2.2.trans HJ.out⟩
                go_wp2_with fail
                go_roundg (4 - (f + 1))
                case measure => omega
                case rel => exact ⟨f + 1, by omega, by omega, by omega, by first | rfl | (congr 1), HFIN⟩
      · have hq : ((E : Int) == 0) = false := by rw [beq_eq_false_iff_ne]; omega
        generalize encE (plainH h f) = Ef at *
        go_wp2_with fail
        go_roundg (4 - (f + 1))
        case measure => omega
        case rel => exact ⟨f + 1, by omega, by omega, by omega, by first | rfl | (congr 1), HN2⟩
    · have hltI : ¬ (f : Int) ≤ 3 := by omega
      have HNr := tHid HI.out.2.2
      clear HI
      go_wp2_with (first
        | (go_at_call 4; with_reducible refine (HONE.out _).mono ?_; rintro e w6 ⟨rfl, W7, e7, c7, K7⟩)
        | (refine wpList_store_row rfl 24 _ _ rfl w6.heap.size (rc (encR hOne)) (by first | rfl | simp [Act.eval]) (by first | rfl | simp [Act.eval]) 24 _ (newHeap w6 _) (HZI.out _ HRO.out).1 (HZI.out _ HRO.out).2.1 (HZI.out _ HRO.out).2.2 ?_; rw [e7]))
      exact HF.out _ (HNr.out.trans K7.out)
end Go.Proofs.Ytoegbaenheeogab

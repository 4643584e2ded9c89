import Derived.Test.YtcogkhcfpgelhabGreatVfK
namespace Go.Proofs.YtcogkhcfpgelhabGreat
open Go.RowKit
set_option linter.unusedVariables false
set_option maxRecDepth 100000
variable {fb mb : Nat} {ot : Option Nat} {L : Int → Lay} {h : Hx} {q : Int → Option Pn} {cnt : Nat} {T : List Ac} {w w' : World} {X : Nat → Prop}
set_option maxHeartbeats 4000000 in
theorem hasEntries_any (H : FsH fb mb ot L h q cnt T w) (n : Int) (hn64 : I64 n) {p : Pn} (hn : q n = some p) : Calls Tryz.prog 76 #[.pointer (some ⟨fb, 0, none⟩), .int .i64 n] w fun e w' => e = .returned (.bool (decide (0 < p.ne))) ∧ w = w' := by
  obtain ⟨P, hP⟩ : ∃ P : Ending → World → Prop, P = fun e w' => e = .returned (.bool (decide (0 < p.ne))) ∧ w = w' := ⟨_, rfl⟩
  rw [← hP]
  have HF : Hid (P (.returned (.bool (decide (0 < p.ne)))) w) := by rw [hP]; exact ⟨rfl, rfl⟩
  clear hP
  have c0 := H.cs.c0
  have hl := H.look_some hn64 hn
  obtain ⟨dv, ev, k1, k2, k3, k4⟩ := (H.nd n p hn).blk
  have x8 := (ndc_of k1).c8
  by_cases hk : p.kind = 1
  · have hlen := (k3 hk).2.len meOk
    have hdd : decide ((0 : Int) < (p.ne : Int)) = decide (0 < p.ne) := by
      by_cases h : 0 < p.ne
      · rw [decide_eq_true h, decide_eq_true (by omega)]
      · rw [decide_eq_false h, decide_eq_false (by omega)]
    rw [(k3 hk).1] at x8
    have hlen' : ∀ ty, (Builtin.len_ #[89] ty #[.map (some (L n).eb)]).run Tryz.prog w = .ok (.int .i64 p.ne) w := hlen
    rw [← hdd] at HF
    clear H k1 k2 k3 k4 hk hdd hlen
    generalize (L n).ib = ib at *
    generalize (L n).eb = eb at *
    generalize (p.ne : Int) = ne at *
    go_enter Tryz.func76, Tryz.ntmps76
    go_wp2_with fail
    exact HF.out
  · have e0 := (k4 hk).2.1
    have hlen' : ∀ ty, (Builtin.len_ #[89] ty #[.map none]).run Tryz.prog w = .ok (.int .i64 0) w := len_nil' meOk w
    rw [(k4 hk).1] at x8
    rw [e0] at HF
    clear H k1 k2 k3 k4 hk
    generalize (L n).ib = ib at *
    go_enter Tryz.func76, Tryz.ntmps76
    go_wp2_with fail
    exact HF.out
/-- What found answers. -/
def fndQ (q : Int → Option Pn) (d : Int) (s : Tx) : Int × Int := if unfQ q [(d, s)] ≠ 0 then (0, unfQ q [(d, s)]) else match (q d).bind (fun p => p.ents s) with | none => (0, 103) | some n => (n, 0)
set_option maxHeartbeats 4000000 in
theorem found_any (H : FsH fb mb ot L h q cnt T w) (d : Int) (hd64 : I64 d) (s : Tx) (hs : s.length ≤ 140737488351232) (hzero : ∀ p n, q d = some p → p.ents s = some n → n ≠ 0) : Calls Tryz.prog 49 #[.pointer (some ⟨fb, 0, none⟩), .agg #[.int .i64 d, .string (mk s)]] w fun e w' => e = .returned (.tuple #[.int .i64 (fndQ q d s).1, .int .i64 (fndQ q d s).2]) ∧ Nw w w' := by
  obtain ⟨P, hP⟩ : ∃ P : Ending → World → Prop, P = fun e w' => e = .returned (.tuple #[.int .i64 (fndQ q d s).1, .int .i64 (fndQ q d s).2]) ∧ Nw w w' := ⟨_, rfl⟩
  rw [← hP]
  have HF : Hid (∀ a b V, fndQ q d s = (a, b) → Nw w V → P (.returned (.tuple #[.int .i64 a, .int .i64 b])) V) := fun a b V e hV => by rw [hP, e]; exact ⟨rfl, hV⟩
  clear hP
  obtain ⟨V1, hV1⟩ : ∃ V1, V1 = w.alloc (.cells #[.int .i64 d, .string (mk s)] 110) := ⟨_, rfl⟩
  have hN1 : Nw w V1 := by rw [hV1]; exact (Fr.refl _ _).alloc _
  have HCI : Hid (∀ V, Nw V1 V → V.cell? ⟨w.heap.size, 0, none⟩ = some (.int .i64 d) ∧ V.cell? ⟨w.heap.size, 1, none⟩ = some (.string (mk s))) := fun V hV => by
    constructor
    · refine hV.cell ?_; rw [hV1]; exact (rc (nh w _) 0 _ rfl).1
    · refine hV.cell ?_; rw [hV1]; exact (rc (nh w _) 1 _ rfl).1
  have HU : Hid (Calls Tryz.prog 54 #[.pointer (some ⟨fb, 0, none⟩), .slice (some ⟨V1.heap.size, 0, none⟩) 1 1] (V1.alloc (.cells #[.int .i64 d, .string (mk s)] 110)) fun e w4 => e = .returned (.int .i64 (unfQ q [(d, s)])) ∧ Hid (Nw V1 w4)) := by
    have hA : Nw V1 (V1.alloc (.cells #[.int .i64 d, .string (mk s)] 110)) := (Fr.refl _ _).alloc _
    have := unfit_any (H.nw (hN1.trans hA)) V1.heap.size 0 [(d, s)] (rdp_one d s) (fun x hx => by rw [List.mem_singleton] at hx; subst hx; exact ⟨hd64, hs⟩) 1 (by simp) (by omega)
    exact this.mono (fun e w' hh => ⟨hh.1, hA.trans hh.2⟩)
  have HAt : Hid (∀ pd, q d = some pd → pd.kind = 1 → ∀ V, Nw V1 V → Calls Tryz.prog 55 #[.pointer (some ⟨fb, 0, none⟩), .agg #[.int .i64 d, .string (mk s)]] V fun e w' => e = .returned (.int .i64 ((pd.ents s).getD 0)) ∧ Hid (Nw V1 w')) := fun pd hd hk V hV => (at_any (H.nw (hN1.trans hV)) d hd64 s hs hd hk).mono (fun e w' hh => ⟨hh.1, hV.trans hh.2⟩)
  have HNw : Hid (∀ V, Nw V1 V → Nw w V) := fun V hV => hN1.trans hV
  have HQ1 : Hid (unfQ q [(d, s)] = 0 → ∃ pd, q d = some pd ∧ pd.kind = 1 ∧ nmOk s = true) := unfQ_one
  have HZ := tHid hzero
  have HFQ : Hid (fndQ q d s = if unfQ q [(d, s)] ≠ 0 then (0, unfQ q [(d, s)]) else match (q d).bind (fun p => p.ents s) with | none => (0, 103) | some n => (n, 0)) := rfl
  have HW1 := tHid hV1
  obtain ⟨s0, s1⟩ := HCI.out V1 (Fr.refl _ _)
  clear H hN1 hzero hV1
  go_enter Tryz.func49, Tryz.ntmps49
  go_upto_region 1 with fail
  rw [← HW1.out]
  clear HW1
  go_upto_region 2 with (first | (go_at_call 54; with_reducible refine HU.out.mono ?_; rintro e w4 ⟨rfl, H4⟩))
  obtain ⟨s04, s14⟩ := HCI.out w4 H4.out
  clear HU s0 s1
  by_cases hu : unfQ q [(d, s)] = 0
  · obtain ⟨pd, hd, hk, hnm⟩ := HQ1.out hu
    have HA := tHid (HAt.out pd hd hk w4 H4.out)
    have e1 := HFQ.out
    rw [hu, hd] at e1
    simp only [ne_eq, not_true_eq_false, if_false, Option.bind_some] at e1
    have HE := tHid e1
    have HZ1 : Hid (∀ n, pd.ents s = some n → n ≠ 0) := fun n hn => HZ.out pd n hd hn
    rw [hu]
    clear HFQ e1 HQ1 HAt HZ hu hd hk hnm
    go_upto_region 5 with (first | (go_at_call 55; with_reducible refine HA.out.mono ?_; rintro e w6 ⟨rfl, H6⟩))
    obtain ⟨oe, hoe⟩ : ∃ oe, pd.ents s = oe := ⟨_, rfl⟩
    rw [hoe] at HZ1 ⊢
    simp only [hoe] at HE
    clear HA hoe
    cases oe with
    | none =>
      have HF2 := tHid (HF.out 0 103 w6 HE.out (HNw.out _ H6.out))
      clear HE HF HNw HZ1
      go_wp2_with fail
      exact HF2.out
    | some y =>
      have hy : y ≠ 0 := HZ1.out y (by first | trivial | rfl)
      have hyb : (y == 0) = false := by rw [beq_eq_false_iff_ne]; exact hy
      have HF2 := tHid (HF.out y 0 w6 HE.out (HNw.out _ H6.out))
      clear HE HF HNw HZ1
      go_wp2_with fail
      exact HF2.out
  · have e1 := HFQ.out
    rw [if_pos hu] at e1
    have HF2 := tHid (HF.out _ _ w4 e1 (HNw.out _ H4.out))
    have hub : (unfQ q [(d, s)] == 0) = false := by rw [beq_eq_false_iff_ne]; exact hu
    clear HFQ HQ1 HAt HZ e1 HF HNw
    generalize unfQ q [(d, s)] = u at *
    go_wp2_with fail
    exact HF2.out
end Go.Proofs.YtcogkhcfpgelhabGreat

import Derived.Test.YtcogkhcfpgelhaaGreatVal
import Derived.Carry
namespace Go.Proofs.YtcogkhcfpgelhaaGreat
open Go.RowKit
set_option linter.unusedVariables false
set_option maxRecDepth 100000
variable {fb mb : Nat} {ot : Option Nat} {L : Int → Lay} {h : Hx} {q : Int → Option Pn} {cnt : Nat} {T : List Ac} {w w' : World} {X : Nat → Prop}
theorem newE_one (eb : Nat) : newE 1 eb = .map (some eb) := by unfold newE; rw [if_pos rfl]
theorem newE_other (kd : Int) (hk : kd ≠ 1) (eb : Nat) : newE kd eb = .map none := by unfold newE; rw [if_neg hk]
theorem AddO.tup {fb mb : Nat} {ot : Option Nat} {L : Int → Lay} {h : Hx} {q : Int → Option Pn} {cnt : Nat} {T : List Ac} {op d : Int} {s : Tx} {kd : Int} {mt : Mt} {tgt : Tx} {w0 : World} {e : Ending} {w' : World} (hA : AddO fb mb ot L h q cnt T op d s kd mt tgt w0 e w') : ∃ a b, e = .returned (.tuple #[.int .i64 a, .int .i64 b]) := by
  rcases hA with ⟨_, rfl, _⟩ | ⟨_, rfl, _⟩
  · exact ⟨_, _, rfl⟩
  · exact ⟨_, _, rfl⟩
set_option maxHeartbeats 4000000 in
theorem mkdir_any (H : FsH fb mb ot L h q cnt T w) (hfr : q h.next = none) (hnx : 0 ≤ h.next ∧ h.next ≤ 1099511627776) (hT : T.length ≤ 2000000000000) (hcn : cnt ≤ 1000000) (d : Int) (hd64 : I64 d) (s : Tx) (hs : s.length ≤ 140737488351232)
    (hzero : ∀ p n, q d = some p → p.ents s = some n → n ≠ 0) (hneb : ∀ p, q d = some p → p.ne ≤ 1000000000000000) (mt : Mt) :
    Calls Tryz.prog 52 #[.pointer (some ⟨fb, 0, none⟩), .int .i64 d, .string (mk s), mtV mt] w (AddO fb mb ot L h q cnt T 1 d s 1 mt [] w) := by
  obtain ⟨P, hP⟩ : ∃ P : Ending → World → Prop, P = AddO fb mb ot L h q cnt T 1 d s 1 mt [] w := ⟨_, rfl⟩
  rw [← hP]
  obtain ⟨V1, hV1⟩ : ∃ V1, V1 = w.alloc (.cells #[.int .u32 mt.mode, .int .u32 mt.uid, .int .u32 mt.gid, .int .i64 mt.time, .int .i32 mt.nano] 33) := ⟨_, rfl⟩
  have hN1 : Nw w V1 := by rw [hV1]; exact (Fr.refl _ _).alloc _
  have hs1 := hN1.size
  have hN2 : Nw w (V1.alloc (.map #[] 0)) := hN1.alloc _
  have HA : Hid (Calls Tryz.prog 93 #[.pointer (some ⟨fb, 0, none⟩), .int .i64 1, .agg #[.int .i64 d, .string (mk s)], .agg #[.int .i64 1, .int .u32 mt.mode, .int .u32 mt.uid, .int .u32 mt.gid, .int .i64 mt.time, .int .i32 mt.nano, .slice none 0 0, .string ⟨#[]⟩, .map (some V1.heap.size), .int .i64 0, .int .i64 0]] (V1.alloc (.map #[] 0)) fun e w' => ∃ a b, e = .returned (.tuple #[.int .i64 a, .int .i64 b]) ∧ Hid (P e w')) := by
    have := add_any H hN2 hfr hnx hT hcn d hd64 s hs hzero hneb 1 mt [] (by simp) V1.heap.size (fun _ => ⟨hs1, Mp.made V1⟩) 1
    rw [newE_one] at this
    refine Calls.mono this (fun e w' hh => ?_)
    obtain ⟨a, b, e1⟩ := hh.tup
    exact ⟨a, b, e1, by rw [hP]; exact hh⟩
  have hc : ∀ j v, (#[.int .u32 mt.mode, .int .u32 mt.uid, .int .u32 mt.gid, .int .i64 mt.time, .int .i32 mt.nano] : Array Value)[j]? = some v → V1.cell? ⟨w.heap.size, j, none⟩ = some v := fun j v hv => by rw [hV1]; exact (rc (nh w _) j v hv).1
  have c0 := hc 0 _ rfl
  have c1 := hc 1 _ rfl
  have c2 := hc 2 _ rfl
  have c3 := hc 3 _ rfl
  have c4 := hc 4 _ rfl
  have hmm : (Instr.makeMap 102 none).run Tryz.prog V1 = .ok (.map (some V1.heap.size)) (V1.alloc (.map #[] 0)) := run_makeMap 102 V1
  have HV1 := tHid hV1
  clear hc H hP hN1 hN2 hs1 hzero hneb hV1
  unfold mtV
  generalize mk s = ss at *
  go_enter Tryz.func52, Tryz.ntmps52
  go_upto_region 1 with fail
  rw [← HV1.out]
  clear HV1
  go_wp2_with (first | (go_at_call 93; with_reducible refine HA.out.mono ?_; rintro e w5 ⟨a, b, rfl, H5⟩))
  exact H5.out
set_option maxHeartbeats 4000000 in
theorem create_any (H : FsH fb mb ot L h q cnt T w) (hfr : q h.next = none) (hnx : 0 ≤ h.next ∧ h.next ≤ 1099511627776) (hT : T.length ≤ 2000000000000) (hcn : cnt ≤ 1000000) (d : Int) (hd64 : I64 d) (s : Tx) (hs : s.length ≤ 140737488351232)
    (hzero : ∀ p n, q d = some p → p.ents s = some n → n ≠ 0) (hneb : ∀ p, q d = some p → p.ne ≤ 1000000000000000) (mt : Mt) :
    Calls Tryz.prog 57 #[.pointer (some ⟨fb, 0, none⟩), .int .i64 d, .string (mk s), mtV mt] w (AddO fb mb ot L h q cnt T 2 d s 2 mt [] w) := by
  obtain ⟨P, hP⟩ : ∃ P : Ending → World → Prop, P = AddO fb mb ot L h q cnt T 2 d s 2 mt [] w := ⟨_, rfl⟩
  rw [← hP]
  obtain ⟨V1, hV1⟩ : ∃ V1, V1 = w.alloc (.cells #[.int .u32 mt.mode, .int .u32 mt.uid, .int .u32 mt.gid, .int .i64 mt.time, .int .i32 mt.nano] 33) := ⟨_, rfl⟩
  have hN1 : Nw w V1 := by rw [hV1]; exact (Fr.refl _ _).alloc _
  have HA : Hid (Calls Tryz.prog 93 #[.pointer (some ⟨fb, 0, none⟩), .int .i64 2, .agg #[.int .i64 d, .string (mk s)], .agg #[.int .i64 2, .int .u32 mt.mode, .int .u32 mt.uid, .int .u32 mt.gid, .int .i64 mt.time, .int .i32 mt.nano, .slice none 0 0, .string ⟨#[]⟩, .map none, .int .i64 0, .int .i64 0]] V1 fun e w' => ∃ a b, e = .returned (.tuple #[.int .i64 a, .int .i64 b]) ∧ Hid (P e w')) := by
    have := add_any H hN1 hfr hnx hT hcn d hd64 s hs hzero hneb 2 mt [] (by simp) 0 (fun hh => by cases hh) 2
    rw [newE_other 2 (by decide)] at this
    refine Calls.mono this (fun e w' hh => ?_)
    obtain ⟨a, b, e1⟩ := hh.tup
    exact ⟨a, b, e1, by rw [hP]; exact hh⟩
  have hc : ∀ j v, (#[.int .u32 mt.mode, .int .u32 mt.uid, .int .u32 mt.gid, .int .i64 mt.time, .int .i32 mt.nano] : Array Value)[j]? = some v → V1.cell? ⟨w.heap.size, j, none⟩ = some v := fun j v hv => by rw [hV1]; exact (rc (nh w _) j v hv).1
  have c0 := hc 0 _ rfl
  have c1 := hc 1 _ rfl
  have c2 := hc 2 _ rfl
  have c3 := hc 3 _ rfl
  have c4 := hc 4 _ rfl
  have HV1 := tHid hV1
  clear hc H hP hN1 hzero hneb hV1
  unfold mtV
  generalize mk s = ss at *
  go_enter Tryz.func57, Tryz.ntmps57
  go_upto_region 1 with fail
  rw [← HV1.out]
  clear HV1
  go_wp2_with (first | (go_at_call 93; with_reducible refine HA.out.mono ?_; rintro e w5 ⟨a, b, rfl, H5⟩))
  exact H5.out
end Go.Proofs.YtcogkhcfpgelhaaGreat

namespace Go.Proofs.YtcogkhcfpgelhaaGreat
open Go.RowKit
set_option linter.unusedVariables false
set_option maxRecDepth 100000
variable {fb mb : Nat} {ot : Option Nat} {L : Int → Lay} {h : Hx} {q : Int → Option Pn} {cnt : Nat} {T : List Ac} {w w' : World} {X : Nat → Prop}
set_option maxHeartbeats 4000000 in
theorem hasEntries_any (H : FsH fb mb ot L h q cnt T w) (n : Int) (hn64 : I64 n) {p : Pn} (hn : q n = some p) : Calls Tryz.prog 123 #[.pointer (some ⟨fb, 0, none⟩), .int .i64 n] w fun e w' => e = .returned (.bool (decide (0 < p.ne))) ∧ w = w' := by
  obtain ⟨P, hP⟩ : ∃ P : Ending → World → Prop, P = fun e w' => e = .returned (.bool (decide (0 < p.ne))) ∧ w = w' := ⟨_, rfl⟩
  rw [← hP]
  have HF : Hid (P (.returned (.bool (decide (0 < p.ne)))) w) := by rw [hP]; exact ⟨rfl, rfl⟩
  clear hP
  have c0 := H.cs.c0
  have hl := H.look_some hn64 hn
  obtain ⟨dv, ev, k1, k2, k3, k4⟩ := (H.nd n p hn).blk
  have x8 := (ndc_of k1).c8
  by_cases hk : p.kind = 1
  · have hlen := (k3 hk).2.len meOk
    have hdd : decide ((0 : Int) < (p.ne : Int)) = decide (0 < p.ne) := by
      by_cases h : 0 < p.ne
      · rw [decide_eq_true h, decide_eq_true (by omega)]
      · rw [decide_eq_false h, decide_eq_false (by omega)]
    rw [(k3 hk).1] at x8
    have hlen' : ∀ ty, (Builtin.len_ #[102] ty #[.map (some (L n).eb)]).run Tryz.prog w = .ok (.int .i64 p.ne) w := hlen
    rw [← hdd] at HF
    clear H k1 k2 k3 k4 hk hdd hlen
    generalize (L n).ib = ib at *
    generalize (L n).eb = eb at *
    generalize (p.ne : Int) = ne at *
    go_enter Tryz.func123, Tryz.ntmps123
    go_wp2_with fail
    exact HF.out
  · have e0 := (k4 hk).2.1
    have hlen' : ∀ ty, (Builtin.len_ #[102] ty #[.map none]).run Tryz.prog w = .ok (.int .i64 0) w := len_nil' meOk w
    rw [(k4 hk).1] at x8
    rw [e0] at HF
    clear H k1 k2 k3 k4 hk
    generalize (L n).ib = ib at *
    go_enter Tryz.func123, Tryz.ntmps123
    go_wp2_with fail
    exact HF.out
/-- What found answers. -/
def fndQ (q : Int → Option Pn) (d : Int) (s : Tx) : Int × Int := if unfQ q [(d, s)] ≠ 0 then (0, unfQ q [(d, s)]) else match (q d).bind (fun p => p.ents s) with | none => (0, 103) | some n => (n, 0)
set_option maxHeartbeats 4000000 in
theorem found_any (H : FsH fb mb ot L h q cnt T w) (d : Int) (hd64 : I64 d) (s : Tx) (hs : s.length ≤ 140737488351232) (hzero : ∀ p n, q d = some p → p.ents s = some n → n ≠ 0) : Calls Tryz.prog 73 #[.pointer (some ⟨fb, 0, none⟩), .agg #[.int .i64 d, .string (mk s)]] w fun e w' => e = .returned (.tuple #[.int .i64 (fndQ q d s).1, .int .i64 (fndQ q d s).2]) ∧ Nw w w' := by
  obtain ⟨P, hP⟩ : ∃ P : Ending → World → Prop, P = fun e w' => e = .returned (.tuple #[.int .i64 (fndQ q d s).1, .int .i64 (fndQ q d s).2]) ∧ Nw w w' := ⟨_, rfl⟩
  rw [← hP]
  have HF : Hid (∀ a b V, fndQ q d s = (a, b) → Nw w V → P (.returned (.tuple #[.int .i64 a, .int .i64 b])) V) := fun a b V e hV => by rw [hP, e]; exact ⟨rfl, hV⟩
  clear hP
  obtain ⟨V1, hV1⟩ : ∃ V1, V1 = w.alloc (.cells #[.int .i64 d, .string (mk s)] 127) := ⟨_, rfl⟩
  have hN1 : Nw w V1 := by rw [hV1]; exact (Fr.refl _ _).alloc _
  have HCI : Hid (∀ V, Nw V1 V → V.cell? ⟨w.heap.size, 0, none⟩ = some (.int .i64 d) ∧ V.cell? ⟨w.heap.size, 1, none⟩ = some (.string (mk s))) := fun V hV => by
    constructor
    · refine hV.cell ?_; rw [hV1]; exact (rc (nh w _) 0 _ rfl).1
    · refine hV.cell ?_; rw [hV1]; exact (rc (nh w _) 1 _ rfl).1
  have HU : Hid (Calls Tryz.prog 98 #[.pointer (some ⟨fb, 0, none⟩), .slice (some ⟨V1.heap.size, 0, none⟩) 1 1] (V1.alloc (.cells #[.int .i64 d, .string (mk s)] 127)) fun e w4 => e = .returned (.int .i64 (unfQ q [(d, s)])) ∧ Hid (Nw V1 w4)) := by
    have hA : Nw V1 (V1.alloc (.cells #[.int .i64 d, .string (mk s)] 127)) := (Fr.refl _ _).alloc _
    have := unfit_any (H.nw (hN1.trans hA)) V1.heap.size 0 [(d, s)] (rdp_one d s) (fun x hx => by rw [List.mem_singleton] at hx; subst hx; exact ⟨hd64, hs⟩) 1 (by simp) (by omega)
    exact this.mono (fun e w' hh => ⟨hh.1, hA.trans hh.2⟩)
  have HAt : Hid (∀ pd, q d = some pd → pd.kind = 1 → ∀ V, Nw V1 V → Calls Tryz.prog 99 #[.pointer (some ⟨fb, 0, none⟩), .agg #[.int .i64 d, .string (mk s)]] V fun e w' => e = .returned (.int .i64 ((pd.ents s).getD 0)) ∧ Hid (Nw V1 w')) := fun pd hd hk V hV => (at_any (H.nw (hN1.trans hV)) d hd64 s hs hd hk).mono (fun e w' hh => ⟨hh.1, hV.trans hh.2⟩)
  have HNw : Hid (∀ V, Nw V1 V → Nw w V) := fun V hV => hN1.trans hV
  have HQ1 : Hid (unfQ q [(d, s)] = 0 → ∃ pd, q d = some pd ∧ pd.kind = 1 ∧ nmOk s = true) := unfQ_one
  have HZ := tHid hzero
  have HFQ : Hid (fndQ q d s = if unfQ q [(d, s)] ≠ 0 then (0, unfQ q [(d, s)]) else match (q d).bind (fun p => p.ents s) with | none => (0, 103) | some n => (n, 0)) := rfl
  have HW1 := tHid hV1
  obtain ⟨s0, s1⟩ := HCI.out V1 (Fr.refl _ _)
  clear H hN1 hzero hV1
  go_enter Tryz.func73, Tryz.ntmps73
  go_upto_region 1 with fail
  rw [← HW1.out]
  clear HW1
  go_upto_region 2 with (first | (go_at_call 98; with_reducible refine HU.out.mono ?_; rintro e w4 ⟨rfl, H4⟩))
  obtain ⟨s04, s14⟩ := HCI.out w4 H4.out
  clear HU s0 s1
  by_cases hu : unfQ q [(d, s)] = 0
  · obtain ⟨pd, hd, hk, hnm⟩ := HQ1.out hu
    have HA := tHid (HAt.out pd hd hk w4 H4.out)
    have e1 := HFQ.out
    rw [hu, hd] at e1
    simp only [ne_eq, not_true_eq_false, if_false, Option.bind_some] at e1
    have HE := tHid e1
    have HZ1 : Hid (∀ n, pd.ents s = some n → n ≠ 0) := fun n hn => HZ.out pd n hd hn
    rw [hu]
    clear HFQ e1 HQ1 HAt HZ hu hd hk hnm
    go_upto_region 5 with (first | (go_at_call 99; with_reducible refine HA.out.mono ?_; rintro e w6 ⟨rfl, H6⟩))
    obtain ⟨oe, hoe⟩ : ∃ oe, pd.ents s = oe := ⟨_, rfl⟩
    rw [hoe] at HZ1 ⊢
    simp only [hoe] at HE
    clear HA hoe
    cases oe with
    | none =>
      have HF2 := tHid (HF.out 0 103 w6 HE.out (HNw.out _ H6.out))
      clear HE HF HNw HZ1
      go_wp2_with fail
      exact HF2.out
    | some y =>
      have hy : y ≠ 0 := HZ1.out y (by first | trivial | rfl)
      have hyb : (y == 0) = false := by rw [beq_eq_false_iff_ne]; exact hy
      have HF2 := tHid (HF.out y 0 w6 HE.out (HNw.out _ H6.out))
      clear HE HF HNw HZ1
      go_wp2_with fail
      exact HF2.out
  · have e1 := HFQ.out
    rw [if_pos hu] at e1
    have HF2 := tHid (HF.out _ _ w4 e1 (HNw.out _ H4.out))
    have hub : (unfQ q [(d, s)] == 0) = false := by rw [beq_eq_false_iff_ne]; exact hu
    clear HFQ HQ1 HAt HZ e1 HF HNw
    generalize unfQ q [(d, s)] = u at *
    go_wp2_with fail
    exact HF2.out
end Go.Proofs.YtcogkhcfpgelhaaGreat

namespace Go.Proofs.YtcogkhcfpgelhaaGreat
open Go.RowKit
set_option linter.unusedVariables false
set_option maxRecDepth 100000
variable {fb mb : Nat} {ot : Option Nat} {L : Int → Lay} {h : Hx} {q : Int → Option Pn} {cnt : Nat} {T : List Ac} {w w' : World} {X : Nat → Prop}
def delV (tys : Array TypeId) (ty : TypeId) (args : Array Value) : Sem Value := Builtin.delete_ tys ty args
theorem delV_fold (tys : Array TypeId) (ty : TypeId) (args : Array Value) : Builtin.delete_ tys ty args = delV tys ty args := rfl
/-- An entry fewer. -/
def delEnt (p : Pn) (s : Tx) : Pn := { p with ents := fun x => if x = s then none else p.ents x, ne := p.ne - 1 }
/-- Named once less. -/
def unnam (p : Pn) : Pn := { p with links := p.links - 1 }
/-- What leave leaves. -/
def leaQ (q : Int → Option Pn) (d : Int) (s : Tx) (n : Int) (pn : Pn) (k : Int) : Option Pn := if k = n then (if pn.links = 1 then none else some (unnam pn)) else if k = d then (q d).map (delEnt · s) else q k
def leaH (h : Hx) (pn : Pn) : Hx := if pn.links = 1 then { h with held := h.held - (pn.data.length : Int) } else h
def leaN (cnt : Nat) (pn : Pn) : Nat := if pn.links = 1 then cnt - 1 else cnt
theorem ent_del (H : FsH fb mb ot L h q cnt T w) {d n : Int} {s : Tx} (hs : s.length ≤ 140737488351232) {pd : Pn} (hd : q d = some pd) (hk : pd.kind = 1) (hf : pd.ents s = some n) :
    ∃ W, (∀ ty, (delV #[102, 9] ty #[.map (some (L d).eb), .string (mk s)]).run Tryz.prog w = .ok (.tuple #[]) W) ∧ FsH fb mb ot L h (fun k => if k = d then some (delEnt pd s) else q k) cnt T W ∧ Fr (fun k => k = (L d).eb) w W := by
  obtain ⟨dv, ev, k1, k2, k3, k4⟩ := (H.nd d pd hd).blk
  obtain ⟨W, r1, r2, r3⟩ := (k3 hk).2.del meOk s hs
  refine ⟨W, r1, H.turnS hd rfl r3 (fun k e => .inr (.inl ⟨hk, e⟩)) ⟨dv, ev, ?_, ?_, fun _ => ⟨(k3 hk).1, ?_⟩, fun hn => absurd hk hn⟩, r3⟩
  · exact r3.heap k1 (fun e => by have := (k3 hk).2.tg; rw [← e, tg_cells k1] at this; cases this)
  · exact k2.kept r3 (fun g hg e => by rw [hg] at k2; have := k2.tg; rw [e, (k3 hk).2.tg] at this; cases this)
  · have := r2 (delEnt pd s).ents (fun x _ => rfl)
    rw [hf] at this
    exact this
section
attribute [local go_sem ↓] delV_fold
set_option maxHeartbeats 8000000 in
theorem leave_any (H : FsH fb mb ot L h q cnt T w) (d n : Int) (hd64 : I64 d) (hn64 : I64 n) (s : Tx) (hs : s.length ≤ 140737488351232) {pd pn : Pn} (hd : q d = some pd) (hk : pd.kind = 1) (hf : pd.ents s = some n) (hn : q n = some pn) (hdn : d ≠ n) (hl : 1 ≤ pn.links ∧ pn.links ≤ 1000000000000000) (hh : 0 ≤ h.held ∧ h.held ≤ 1000000000000000 ∧ pn.data.length ≤ 1000000000000000) :
    Calls Tryz.prog 124 #[.pointer (some ⟨fb, 0, none⟩), .agg #[.int .i64 d, .string (mk s)]] w fun e w' => (∃ r, e = .returned r) ∧ FsH fb mb ot L (leaH h pn) (leaQ q d s n pn) (leaN cnt pn) T w' ∧ Fr (fun k => k = (L d).eb ∨ k = (L n).ib ∨ k = fb ∨ k = mb) w w' := by
  obtain ⟨P, hP⟩ : ∃ P : Ending → World → Prop, P = fun e w' => (∃ r, e = .returned r) ∧ FsH fb mb ot L (leaH h pn) (leaQ q d s n pn) (leaN cnt pn) T w' ∧ Fr (fun k => k = (L d).eb ∨ k = (L n).ib ∨ k = fb ∨ k = mb) w w' := ⟨_, rfl⟩
  rw [← hP]
  obtain ⟨V, hV⟩ : ∃ V, V = w.alloc (.cells #[.int .i64 d, .string (mk s)] 127) := ⟨_, rfl⟩
  have hN : Nw w V := by rw [hV]; exact (Fr.refl _ _).alloc _
  have HV := H.nw hN
  have b0 : V.cell? ⟨w.heap.size, 0, none⟩ = some (.int .i64 d) := by rw [hV]; exact (rc (nh w _) 0 _ rfl).1
  have b1 : V.cell? ⟨w.heap.size, 1, none⟩ = some (.string (mk s)) := by rw [hV]; exact (rc (nh w _) 1 _ rfl).1
  have HA : Hid (Calls Tryz.prog 99 #[.pointer (some ⟨fb, 0, none⟩), .agg #[.int .i64 d, .string (mk s)]] V fun e w2 => e = .returned (.int .i64 n) ∧ Hid (Nw V w2)) := by
    have := at_any HV d hd64 s hs hd hk
    rw [hf] at this
    exact this
  have hdE := fun W (hW : Nw V W) => ent_del (n := n) (HV.nw hW) hs hd hk hf
  have hib : (L n).ib < w.heap.size := H.lt _ (.inr (.inr (.inr ⟨n, pn, hn, .inl rfl⟩)))
  have hebl : (L d).eb < w.heap.size := H.lt _ (.inr (.inr (.inr ⟨d, pd, hd, .inr (.inl ⟨hk, rfl⟩)⟩)))
  have hfl := H.cs.lt
  have hnb : ¬ (L n).ib = w.heap.size := by omega
  have hfeb : ¬ fb = (L d).eb := fun e => by have := H.teb hd hk; rw [← e, H.tfb] at this; cases this
  have hnfb : ¬ (L n).ib = fb := fun e => by have := H.tib hn; rw [e, H.tfb] at this; cases this
  have hnW : (if n = d then some (delEnt pd s) else q n) = some pn := by rw [if_neg (fun e => hdn e.symm)]; exact hn
  have hw1 : IntKind.i64.wrap (pn.links - 1) = pn.links - 1 := by rw [IntKind.wrap_i64]; omega
  have HST : Hid (∀ w2, Nw V w2 → w2.cell? ⟨fb, 0, none⟩ = some (.map (some mb)) ∧ (Instr.lookup 98 (.map (some mb)) (.int .i64 d) false).run Tryz.prog w2.drew = .ok (.pointer (some ⟨(L d).ib, 0, none⟩)) w2.drew ∧ w2.cell? ⟨(L d).ib, 8, none⟩ = some (.map (some (L d).eb)) ∧ w2.cell? ⟨w.heap.size, 0, none⟩ = some (.int .i64 d) ∧ w2.cell? ⟨w.heap.size, 1, none⟩ = some (.string (mk s)) ∧
      ∃ W, (∀ ty, (delV #[102, 9] ty #[.map (some (L d).eb), .string (mk s)]).run Tryz.prog w2.drew = .ok (.tuple #[]) W) ∧ W.cell? ⟨fb, 0, none⟩ = some (.map (some mb)) ∧ (Instr.lookup 98 (.map (some mb)) (.int .i64 n) false).run Tryz.prog W = .ok (.pointer (some ⟨(L n).ib, 0, none⟩)) W ∧ W.cell? ⟨(L n).ib, 9, none⟩ = some (.int .i64 pn.links) ∧ W.frozen? ⟨(L n).ib, 9, none⟩ = false ∧
      ∃ W2, W.setCell ⟨(L n).ib, 9, none⟩ (.int .i64 (pn.links - 1)) = W2 ∧ W2.cell? ⟨(L n).ib, 9, none⟩ = some (.int .i64 (pn.links - 1)) ∧ (pn.links ≠ 1 → Hid (∀ r, P (.returned r) W2)) ∧
      (pn.links = 1 → ∃ da dc, W2.cell? ⟨(L n).ib, 6, none⟩ = some (.slice da pn.data.length dc) ∧ W2.cell? ⟨fb, 3, none⟩ = some (.int .i64 h.held) ∧ W2.frozen? ⟨fb, 3, none⟩ = false ∧ ∃ W5, W2.drew.setCell ⟨fb, 3, none⟩ (.int .i64 (h.held - (pn.data.length : Int))) = W5 ∧ W5.cell? ⟨fb, 0, none⟩ = some (.map (some mb)) ∧ ∃ W6, (∀ ty, (delV #[98, 3] ty #[.map (some mb), .int .i64 n]).run Tryz.prog W5 = .ok (.tuple #[]) W6) ∧ Hid (∀ r, P (.returned r) W6))) := fun w2 h2 => by
    have H2 := HV.nw h2
    obtain ⟨dv, hC⟩ := H2.dirC hd hk
    obtain ⟨W, d1, d2, d3⟩ := hdE w2.drew (h2.drew)
    obtain ⟨dv2, ev2, nv1, nv2, _, _⟩ := (d2.nd n pn hnW).blk
    have hD := ndc_of nv1
    refine ⟨H2.cs.c0, (H2.nw ((Fr.refl _ _).drew)).look_some hd64 hd, hC.c8, h2.cell b0, h2.cell b1, W, d1, d2.cs.c0, d2.look_some (k := n) hn64 hnW, hD.c9, hD.f9, _, rfl, ?_, ?_, ?_⟩
    · exact (rc (rset nv1 9 _) 9 _ rfl).1
    · intro hl1 r
      rw [hP]
      have f2 : Fr (fun k => k = (L n).ib) W (W.setCell ⟨(L n).ib, 9, none⟩ (.int .i64 (pn.links - 1))) := (Fr.refl (fun k => k = (L n).ib) W).setCell ⟨(L n).ib, 9, none⟩ _ (.inl rfl)
      have heq : leaQ q d s n pn = fun k => if k = n then some (unnam pn) else (if k = d then some (delEnt pd s) else q k) := by
        funext k
        unfold leaQ
        rw [if_neg hl1, hd]; rfl
      refine ⟨⟨r, rfl⟩, ?_, ?_⟩
      · rw [heq]
        have e1 : leaH h pn = h := by unfold leaH; rw [if_neg hl1]
        have e2 : leaN cnt pn = cnt := by unfold leaN; rw [if_neg hl1]
        rw [e1, e2]
        refine d2.turnS hnW rfl f2 (fun k e => .inl e) ((d2.nd n pn hnW).re f2 rfl rfl rfl rfl (fun dv ev hh => ?_))
        rw [rset hh 9 (.int .i64 (pn.links - 1))]
        simp [ndC, unnam]
      · exact (((hN.any.trans h2.any).trans (Fr.refl _ _).drew).trans (d3.mono (fun i e => .inl (.inl e)))).trans (f2.mono (fun i e => .inl (.inr (.inl e))))
    · intro hl1
      have f2 : Fr (fun k => k = (L n).ib) W (W.setCell ⟨(L n).ib, 9, none⟩ (.int .i64 (pn.links - 1))) := (Fr.refl (fun k => k = (L n).ib) W).setCell ⟨(L n).ib, 9, none⟩ _ (.inl rfl)
      have H3 : FsH fb mb ot L h (fun k => if k = n then some (unnam pn) else (if k = d then some (delEnt pd s) else q k)) cnt T (W.setCell ⟨(L n).ib, 9, none⟩ (.int .i64 (pn.links - 1))) := by
        refine d2.turnS hnW rfl f2 (fun k e => .inl e) ((d2.nd n pn hnW).re f2 rfl rfl rfl rfl (fun dv ev hh => ?_))
        rw [rset hh 9 (.int .i64 (pn.links - 1))]
        simp [ndC, unnam]
      generalize W.setCell ⟨(L n).ib, 9, none⟩ (.int .i64 (pn.links - 1)) = W2 at *
      obtain ⟨dv3, ev3, m1, m2, _, _⟩ := (H3.nd n (unnam pn) (by simp)).blk
      obtain ⟨da, dc, rfl, _, _⟩ := m2.form
      have H4 := H3.nw ((Fr.refl _ _).drew)
      obtain ⟨tv, v1, v2⟩ := H4.blk
      have f1 : Fr (fun k => k = fb) W2.drew (W2.drew.setCell ⟨fb, 3, none⟩ (.int .i64 (h.held - (pn.data.length : Int)))) := (Fr.refl (fun k => k = fb) _).setCell ⟨fb, 3, none⟩ _ (.inl rfl)
      have hfo : ot ≠ some fb := fun e => by
        have t1 := H4.tot fb e
        rw [H4.tfb] at t1; cases t1
      have H5 : FsH fb mb ot L { h with held := h.held - (pn.data.length : Int) } (fun k => if k = n then some (unnam pn) else (if k = d then some (delEnt pd s) else q k)) cnt T (W2.drew.setCell ⟨fb, 3, none⟩ (.int .i64 (h.held - (pn.data.length : Int)))) :=
        H4.head f1 (fun k e => .inl e) (.inl rfl) (tv := tv) (rset v1 3 _) (v2.kept f1 (fun g hg e => hfo (by rw [hg, e])))
      refine ⟨da, dc, (ndc_of m1).c6, H3.cs.c3, H3.cs.f3, _, rfl, H5.cs.c0, ?_⟩
      generalize W2.drew.setCell ⟨fb, 3, none⟩ (.int .i64 (h.held - (pn.data.length : Int))) = W5 at *
      obtain ⟨W6, r1, r2, r3⟩ := H5.mp.del miOk n hn64
      refine ⟨W6, r1, fun r => ?_⟩
      rw [hP]
      have H6 := H5.less n r3 (cnt' := cnt - 1) (fun m hm => by
        have := r2 m (fun x _ => hm x)
        simp only [if_pos] at this
        exact this)
      refine ⟨⟨r, rfl⟩, ?_, ?_⟩
      · have e1 : leaH h pn = { h with held := h.held - (pn.data.length : Int) } := by unfold leaH; rw [if_pos hl1]
        have e2 : leaN cnt pn = cnt - 1 := by unfold leaN; rw [if_pos hl1]
        rw [e1, e2]
        refine H6.congr ?_
        funext k
        unfold leaQ
        by_cases hkn : k = n
        · rw [if_pos hkn, if_pos hkn, if_pos hl1]
        · rw [if_neg hkn, if_neg hkn, if_neg hkn, hd]; rfl
      · exact ((((((hN.any.trans h2.any).trans (Fr.refl _ _).drew).trans (d3.mono (fun i e => .inl (.inl e)))).trans (f2.mono (fun i e => .inl (.inr (.inl e))))).trans (Fr.refl _ _).drew).trans (f1.mono (fun i e => .inl (.inr (.inr (.inl e)))))).trans (r3.mono (fun i e => .inl (.inr (.inr (.inr e)))))
  clear H HV hdE hnW hn hd hk hf hP
  generalize (L d).ib = ib at *
  generalize (L d).eb = eb at *
  generalize (L n).ib = nb at *
  generalize mk s = ss at *
  generalize pn.data.length = dl at *
  have hw2 : IntKind.i64.wrap (h.held - (dl : Int)) = h.held - (dl : Int) := by rw [IntKind.wrap_i64]; omega
  go_enter Tryz.func124, Tryz.ntmps124
  go_upto_region 1 with fail
  rw [← hV]
  clear hV
  go_upto_region 2 with (first | (go_at_call 99; with_reducible refine HA.out.mono ?_; rintro e w2 ⟨rfl, H2⟩))
  obtain ⟨c0, l1, x8, b02, b12, W, d1, c0W, l2, y9, g9, W2, hW2, z9, HNo, HYes⟩ := HST.out w2 H2.out
  have HNo := tHid HNo
  have HYes := tHid HYes
  clear HST HA b0 b1
  by_cases hl1 : pn.links = 1
  · obtain ⟨da, dc, x6, x3, f3, W5, hW5, c05, W6, d6, HF⟩ := HYes.out hl1
    clear HNo HYes
    rw [hl1] at hW2 z9 y9
    rw [show (1 : Int) - 1 = 0 from rfl] at hW2 z9
    clear hl1 hw1 hl
    go_region
    go_wp2_with fail
    go_region
    go_wp2_with fail
    first | exact HF.out _ | (go_end0; exact HF.out _)
  · have HF := HNo.out hl1
    have hlb : (pn.links - 1 == 0) = false := by rw [beq_eq_false_iff_ne]; omega
    clear HNo HYes
    generalize pn.links = lk at *
    go_region
    go_wp2_with fail
    first | exact HF.out _ | (go_end0; exact HF.out _)
end
end Go.Proofs.YtcogkhcfpgelhaaGreat

namespace Go.Proofs.YtcogkhcfpgelhaaGreat
open Go.RowKit
set_option linter.unusedVariables false
set_option maxRecDepth 100000
variable {fb mb : Nat} {ot : Option Nat} {L : Int → Lay} {h : Hx} {q : Int → Option Pn} {cnt : Nat} {T : List Ac} {w w' : World} {X : Nat → Prop}
theorem leaQ_some {d n k : Int} {s : Tx} {pn p : Pn} (hn : q n = some pn) (h : leaQ q d s n pn k = some p) : ∃ p', q k = some p' ∧ p'.kind = p.kind := by
  unfold leaQ at h
  split at h
  · rename_i e
    subst e
    split at h
    · cases h
    · injection h with h
      exact ⟨pn, hn, by rw [← h]; rfl⟩
  · split at h
    · rename_i e1 e
      subst e
      cases hq : q k with
      | none => rw [hq] at h; cases h
      | some x => rw [hq] at h; simp only [Option.map_some, Option.some.injEq] at h; exact ⟨x, rfl, by rw [← h]; rfl⟩
    · exact ⟨p, h, rfl⟩
/-- All blocks are where they were. -/
theorem MutO.of {h' : Hx} {q' : Int → Option Pn} {cnt' : Nat} {T' : List Ac} {w7 : World} {ot' : Option Nat} (hsub : ∀ k p, q' k = some p → ∃ p', q k = some p' ∧ p'.kind = p.kind) (f : Fr X w w7) (hX : ∀ k, X k → Bk fb mb ot L q k ∨ w.heap.size ≤ k) (H8 : FsH fb mb ot' L h' q' cnt' T' w') (f8 : Fr (fun k => k = fb ∨ ot = some k) w7 w') (ho : ot' = ot ∨ ∃ g, ot' = some g ∧ w7.heap.size ≤ g) : MutO fb mb ot L q h' q' cnt' T' w w' := by
  refine ⟨ot', L, H8, ?_, fun k hk8 => ?_⟩
  · have g1 : Fr (Bk fb mb ot L q) w w7 := f.mono hX
    exact g1.trans (f8.mono (fun i hi => by
      rcases hi with rfl | hi
      · exact .inl (.inl rfl)
      · exact .inl (.inr (.inr (.inl hi)))))
  · have hs7 := f.size
    rcases hk8 with rfl | rfl | hk8 | ⟨n, p, hp, hk8⟩
    · exact .inl (.inl rfl)
    · exact .inl (.inr (.inl rfl))
    · rcases ho with e | ⟨g, e, hg⟩
      · exact .inl (.inr (.inr (.inl (e ▸ hk8))))
      · rw [e] at hk8; injection hk8 with hk8; exact .inr (by omega)
    · obtain ⟨p', hp', hkp⟩ := hsub n p hp
      exact .inl (.inr (.inr (.inr ⟨n, p', hp', by rw [hkp]; exact hk8⟩)))
/-- What remove answers. -/
def remE (q : Int → Option Pn) (d : Int) (s : Tx) (dirB : Bool) : Int := if (fndQ q d s).2 ≠ 0 then (fndQ q d s).2 else if isDirQ q (fndQ q d s).1 ≠ dirB then 106 else if ((q (fndQ q d s).1).map (fun p => p.ne)).getD 0 > 0 then 109 else 0
def RemO (fb mb : Nat) (ot : Option Nat) (L : Int → Lay) (h : Hx) (q : Int → Option Pn) (cnt : Nat) (T : List Ac) (op d : Int) (s : Tx) (dirB : Bool) (w : World) (e : Ending) (w' : World) : Prop :=
  (remE q d s dirB ≠ 0 ∧ e = .returned (.int .i64 (remE q d s dirB)) ∧ Nw w w') ∨
  (remE q d s dirB = 0 ∧ e = .returned (.int .i64 0) ∧ ∃ n pn, fndQ q d s = (n, 0) ∧ q n = some pn ∧ MutO fb mb ot L q (leaH h pn) (leaQ q d s n pn) (leaN cnt pn) (T ++ [⟨op, d, s, n, 0, [], 0, 0⟩]) w w')
/-- What is asked of an entry. -/
def EntOk (q : Int → Option Pn) (d : Int) (s : Tx) : Prop := ∀ p n, q d = some p → p.ents s = some n → n ≠ 0 ∧ I64 n ∧ n ≠ d ∧ ∃ pn, q n = some pn ∧ 1 ≤ pn.links ∧ pn.links ≤ 1000000000000000 ∧ pn.data.length ≤ 1000000000000000
theorem fndQ_ok {d n : Int} {s : Tx} (hf : fndQ q d s = (n, 0)) : ∃ pd, q d = some pd ∧ pd.kind = 1 ∧ pd.ents s = some n := by
  unfold fndQ at hf
  by_cases hu : unfQ q [(d, s)] = 0
  · rw [if_neg (fun e => e hu)] at hf
    obtain ⟨pd, hd, hk, _⟩ := unfQ_one hu
    rw [hd] at hf
    simp only [Option.bind_some] at hf
    cases he : pd.ents s with
    | none => rw [he] at hf; simp at hf
    | some y => rw [he] at hf; simp at hf; exact ⟨pd, hd, hk, by rw [he, hf]⟩
  · rw [if_pos hu] at hf
    injection hf with _ hf
    exact absurd hf hu
set_option maxHeartbeats 8000000 in
theorem remove_any (H : FsH fb mb ot L h q cnt T w) (hT : T.length ≤ 2000000000000) (op d : Int) (hd64 : I64 d) (s : Tx) (hs : s.length ≤ 140737488351232) (dirB : Bool) (hen : EntOk q d s) (hh : 0 ≤ h.held ∧ h.held ≤ 1000000000000000) :
    Calls Tryz.prog 101 #[.pointer (some ⟨fb, 0, none⟩), .int .i64 op, .agg #[.int .i64 d, .string (mk s)], .bool dirB] w (RemO fb mb ot L h q cnt T op d s dirB w) := by
  obtain ⟨P, hP⟩ : ∃ P : Ending → World → Prop, P = RemO fb mb ot L h q cnt T op d s dirB w := ⟨_, rfl⟩
  rw [← hP]
  have HFE : Hid (∀ er V, er ≠ 0 → remE q d s dirB = er → Nw w V → P (.returned (.int .i64 er)) V) := fun er V h1 h2 hV => by
    rw [hP]
    subst h2
    exact .inl ⟨h1, rfl, hV⟩
  obtain ⟨V, hV⟩ : ∃ V, V = w.alloc (.cells #[.int .i64 d, .string (mk s)] 127) := ⟨_, rfl⟩
  have hN : Nw w V := by rw [hV]; exact (Fr.refl _ _).alloc _
  have HV := H.nw hN
  have HCI : Hid (∀ V', Nw V V' → V'.cell? ⟨w.heap.size, 0, none⟩ = some (.int .i64 d) ∧ V'.cell? ⟨w.heap.size, 1, none⟩ = some (.string (mk s))) := fun V' hV' => by
    constructor
    · refine hV'.cell ?_; rw [hV]; exact (rc (nh w _) 0 _ rfl).1
    · refine hV'.cell ?_; rw [hV]; exact (rc (nh w _) 1 _ rfl).1
  have HFn : Hid (Calls Tryz.prog 73 #[.pointer (some ⟨fb, 0, none⟩), .agg #[.int .i64 d, .string (mk s)]] V fun e w2 => e = .returned (.tuple #[.int .i64 (fndQ q d s).1, .int .i64 (fndQ q d s).2]) ∧ Hid (Nw V w2)) := found_any HV d hd64 s hs (fun p n h1 h2 => (hen p n h1 h2).1)
  have HNw : Hid (∀ V', Nw V V' → Nw w V') := fun V' h' => hN.trans h'
  have HRest : Hid ((fndQ q d s).2 = 0 → ∃ pn, q (fndQ q d s).1 = some pn ∧ ∀ w2, Nw V w2 → Hid (Calls Tryz.prog 53 #[.pointer (some ⟨fb, 0, none⟩), .int .i64 (fndQ q d s).1] w2 fun e w' => e = .returned (.bool (isDirQ q (fndQ q d s).1)) ∧ w2 = w') ∧ Hid (Calls Tryz.prog 123 #[.pointer (some ⟨fb, 0, none⟩), .int .i64 (fndQ q d s).1] w2 fun e w' => e = .returned (.bool (decide (0 < pn.ne))) ∧ w2 = w') ∧ Hid (remE q d s dirB = 0 → Calls Tryz.prog 124 #[.pointer (some ⟨fb, 0, none⟩), .agg #[.int .i64 d, .string (mk s)]] w2 fun e w3 => (∃ r, e = .returned r) ∧ w3.cell? ⟨w.heap.size, 0, none⟩ = some (.int .i64 d) ∧ w3.cell? ⟨w.heap.size, 1, none⟩ = some (.string (mk s)) ∧ Hid (Calls Tryz.prog 97 #[.pointer (some ⟨fb, 0, none⟩), .agg #[.int .i64 op, .int .i64 d, .string (mk s), .int .i64 (fndQ q d s).1, .int .i64 0, .string ⟨#[]⟩, .int .i64 0, .int .i64 0]] w3 fun e w4 => (∃ r, e = .returned r) ∧ Hid (P (.returned (.int .i64 0)) w4)))) := fun hz => by
    have hpair : fndQ q d s = ((fndQ q d s).1, 0) := by rw [← hz]
    obtain ⟨n, hn⟩ : ∃ n, n = (fndQ q d s).1 := ⟨_, rfl⟩
    rw [← hn] at hpair ⊢
    obtain ⟨pd, hd, hk, hf⟩ := fndQ_ok hpair
    obtain ⟨_, hn64, hne, pn, hpn, hl1, hl2, hdl⟩ := hen pd n hd hf
    refine ⟨pn, hpn, fun w2 h2 => ⟨isDir_any (HV.nw h2) n hn64, hasEntries_any (HV.nw h2) n hn64 hpn, fun hr => ?_⟩⟩
    refine (leave_any (HV.nw h2) d n hd64 hn64 s hs hd hk hf hpn (fun e => hne e.symm) ⟨hl1, hl2⟩ ⟨hh.1, hh.2, hdl⟩).mono ?_
    rintro e w3 ⟨hr3, H3, f3⟩
    have hb1 := H.lt _ (.inr (.inr (.inr ⟨d, pd, hd, .inr (.inl ⟨hk, rfl⟩)⟩)))
    have hb2 := H.lt _ (.inr (.inr (.inr ⟨n, pn, hpn, .inl rfl⟩)))
    have hb3 := H.lt fb (.inl rfl)
    have hb4 := H.lt mb (.inr (.inl rfl))
    have hsb : ¬ (w.heap.size = (L d).eb ∨ w.heap.size = (L n).ib ∨ w.heap.size = fb ∨ w.heap.size = mb) := by omega
    have hc := HCI.out w2 h2
    refine ⟨hr3, f3.cellv hc.1 hsb, f3.cellv hc.2 hsb, ?_⟩
    refine Calls.mono (did_any H3 hT ⟨op, d, s, n, 0, [], 0, 0⟩) ?_
    rintro e w4 ⟨hr4, ot', H4, f4, ho⟩
    refine ⟨hr4, ?_⟩
    show P _ _
    rw [hP]
    refine .inr ⟨hr, rfl, n, pn, hpair, hpn, ?_⟩
    refine MutO.of (X := fun k => k = (L d).eb ∨ k = (L n).ib ∨ k = fb ∨ k = mb) (w7 := w3) (fun k p hp => leaQ_some hpn hp) ((hN.any.trans h2.any).trans f3) (fun k hk2 => ?_) H4 f4 ho
    rcases hk2 with rfl | rfl | rfl | rfl
    · exact .inl (.inr (.inr (.inr ⟨d, pd, hd, .inr (.inl ⟨hk, rfl⟩)⟩)))
    · exact .inl (.inr (.inr (.inr ⟨n, pn, hpn, .inl rfl⟩)))
    · exact .inl (.inl rfl)
    · exact .inl (.inr (.inl rfl))
  have HRE : Hid (remE q d s dirB = if (fndQ q d s).2 ≠ 0 then (fndQ q d s).2 else if isDirQ q (fndQ q d s).1 ≠ dirB then 106 else if ((q (fndQ q d s).1).map (fun p => p.ne)).getD 0 > 0 then 109 else 0) := rfl
  obtain ⟨s0, s1⟩ := HCI.out V (Fr.refl _ _)
  have HW1 := tHid hV
  clear H HV hP hN hen hV
  generalize remE q d s dirB = er at *
  obtain ⟨n, hn⟩ : ∃ n, n = (fndQ q d s).1 := ⟨_, rfl⟩
  obtain ⟨fe, hfe⟩ : ∃ fe, fe = (fndQ q d s).2 := ⟨_, rfl⟩
  rw [← hn, ← hfe] at HFn HRest HRE
  clear hn hfe
  go_enter Tryz.func101, Tryz.ntmps101
  go_upto_region 1 with fail
  rw [← HW1.out]
  clear HW1
  go_upto_region 2 with (first | (go_at_call 73; with_reducible refine HFn.out.mono ?_; rintro e w2 ⟨rfl, H2⟩))
  by_cases hz : fe = 0
  · obtain ⟨pn, hpn, hR⟩ := HRest.out hz
    obtain ⟨HD, HE, HL⟩ := hR w2 H2.out
    obtain ⟨s02, s12⟩ := HCI.out w2 H2.out
    have e1 := HRE.out
    rw [if_neg (fun e => e hz), hpn] at e1
    simp only [Option.map_some, Option.getD_some] at e1
    have HRE2 := tHid e1
    clear e1 HRE HRest hR hpn s0 s1 HFn HCI
    subst hz
    generalize isDirQ q n = Bd at *
    by_cases hbd : Bd = dirB
    · have e1 := HRE2.out
      rw [if_neg (fun e => e hbd)] at e1
      have HRE3 := tHid e1
      clear e1 HRE2
      subst hbd
      by_cases hne : 0 < pn.ne
      · have e1 := HRE3.out
        rw [if_pos hne] at e1
        have HF := tHid (HFE.out er w2 (by rw [e1]; decide) rfl (HNw.out _ H2.out))
        rw [e1] at HF
        rw [decide_eq_true hne] at HE
        clear HRE3 HFE HNw HL e1
        go_wp2_with (first | (go_at_call 53; with_reducible refine HD.out.mono ?_; rintro e w5 ⟨rfl, rfl⟩) | (go_at_call 123; with_reducible refine HE.out.mono ?_; rintro e w5 ⟨rfl, rfl⟩))
        exact HF.out
      · have e1 := HRE3.out
        rw [if_neg hne] at e1
        have HL2 := tHid (HL.out e1)
        rw [decide_eq_false hne] at HE
        clear HRE3 HFE HNw HL e1
        generalize mk s = ss at *
        go_upto_region 9 with (first | (go_at_call 53; with_reducible refine HD.out.mono ?_; rintro e w5 ⟨rfl, rfl⟩) | (go_at_call 123; with_reducible refine HE.out.mono ?_; rintro e w5 ⟨rfl, rfl⟩) | (go_at_call 124; with_reducible refine HL2.out.mono ?_; rintro e w3 ⟨⟨r3, rfl⟩, s03, s13, HDd⟩))
        go_wp2_with (first | (go_at_call 97; with_reducible refine HDd.out.mono ?_; rintro e w4 ⟨⟨r4, rfl⟩, HF⟩))
        exact HF.out
    · have e1 := HRE2.out
      rw [if_pos hbd] at e1
      have HF := tHid (HFE.out er w2 (by rw [e1]; decide) rfl (HNw.out _ H2.out))
      rw [e1] at HF
      have hbb : (Bd == dirB) = false := by rw [beq_eq_false_iff_ne]; exact hbd
      have hbn : (Bd != dirB) = true := by rw [bne, hbb]; rfl
      clear HRE2 HFE HNw HL HE e1
      go_wp2_with (first | (go_at_call 53; with_reducible refine HD.out.mono ?_; rintro e w5 ⟨rfl, rfl⟩))
      exact HF.out
  · have e1 := HRE.out
    rw [if_pos hz] at e1
    have HF := tHid (HFE.out er w2 (by rw [e1]; exact hz) rfl (HNw.out _ H2.out))
    rw [e1] at HF
    have hzb : (fe == 0) = false := by rw [beq_eq_false_iff_ne]; exact hz
    clear HRE HFE HNw HRest e1 HFn HCI
    go_wp2_with fail
    exact HF.out
theorem RemO.int {op d : Int} {s : Tx} {dirB : Bool} {e : Ending} (hA : RemO fb mb ot L h q cnt T op d s dirB w e w') : ∃ a, e = .returned (.int .i64 a) := by
  rcases hA with ⟨_, rfl, _⟩ | ⟨_, rfl, _⟩
  · exact ⟨_, rfl⟩
  · exact ⟨_, rfl⟩
set_option maxHeartbeats 2000000 in
theorem unlink_any (H : FsH fb mb ot L h q cnt T w) (hT : T.length ≤ 2000000000000) (d : Int) (hd64 : I64 d) (s : Tx) (hs : s.length ≤ 140737488351232) (hen : EntOk q d s) (hh : 0 ≤ h.held ∧ h.held ≤ 1000000000000000) :
    Calls Tryz.prog 60 #[.pointer (some ⟨fb, 0, none⟩), .int .i64 d, .string (mk s)] w (RemO fb mb ot L h q cnt T 7 d s false w) := by
  obtain ⟨P, hP⟩ : ∃ P : Ending → World → Prop, P = RemO fb mb ot L h q cnt T 7 d s false w := ⟨_, rfl⟩
  rw [← hP]
  have HR : Hid (Calls Tryz.prog 101 #[.pointer (some ⟨fb, 0, none⟩), .int .i64 7, .agg #[.int .i64 d, .string (mk s)], .bool false] w fun e w' => ∃ a, e = .returned (.int .i64 a) ∧ Hid (P e w')) := by
    refine Calls.mono (remove_any H hT 7 d hd64 s hs false hen hh) (fun e w' hh => ?_)
    obtain ⟨a, e1⟩ := hh.int
    exact ⟨a, e1, by rw [hP]; exact hh⟩
  clear H hP hen
  generalize mk s = ss at *
  go_enter Tryz.func60, Tryz.ntmps60
  go_wp2_with (first | (go_at_call 101; with_reducible refine HR.out.mono ?_; rintro e w5 ⟨a, rfl, H5⟩))
  exact H5.out
set_option maxHeartbeats 2000000 in
theorem rmdir_any (H : FsH fb mb ot L h q cnt T w) (hT : T.length ≤ 2000000000000) (d : Int) (hd64 : I64 d) (s : Tx) (hs : s.length ≤ 140737488351232) (hen : EntOk q d s) (hh : 0 ≤ h.held ∧ h.held ≤ 1000000000000000) :
    Calls Tryz.prog 61 #[.pointer (some ⟨fb, 0, none⟩), .int .i64 d, .string (mk s)] w (RemO fb mb ot L h q cnt T 8 d s true w) := by
  obtain ⟨P, hP⟩ : ∃ P : Ending → World → Prop, P = RemO fb mb ot L h q cnt T 8 d s true w := ⟨_, rfl⟩
  rw [← hP]
  have HR : Hid (Calls Tryz.prog 101 #[.pointer (some ⟨fb, 0, none⟩), .int .i64 8, .agg #[.int .i64 d, .string (mk s)], .bool true] w fun e w' => ∃ a, e = .returned (.int .i64 a) ∧ Hid (P e w')) := by
    refine Calls.mono (remove_any H hT 8 d hd64 s hs true hen hh) (fun e w' hh => ?_)
    obtain ⟨a, e1⟩ := hh.int
    exact ⟨a, e1, by rw [hP]; exact hh⟩
  clear H hP hen
  generalize mk s = ss at *
  go_enter Tryz.func61, Tryz.ntmps61
  go_wp2_with (first | (go_at_call 101; with_reducible refine HR.out.mono ?_; rintro e w5 ⟨a, rfl, H5⟩))
  exact H5.out
end Go.Proofs.YtcogkhcfpgelhaaGreat

namespace Go.Proofs.YtcogkhcfpgelhaaGreat
open Go.RowKit
set_option linter.unusedVariables false
set_option maxRecDepth 100000
variable {fb mb : Nat} {ot : Option Nat} {L : Int → Lay} {h : Hx} {q : Int → Option Pn} {cnt : Nat} {T : List Ac} {w w' : World} {X : Nat → Prop}
/-- What Link answers. -/
def lnkE (q : Int → Option Pn) (d : Int) (s : Tx) (n : Int) : Int := if q n = none then 100 else if unfQ q [(d, s)] ≠ 0 then unfQ q [(d, s)] else if ((q d).bind (fun p => p.ents s)).isSome then 104 else if isDirQ q n then 106 else 0
def LnkO (fb mb : Nat) (ot : Option Nat) (L : Int → Lay) (h : Hx) (q : Int → Option Pn) (cnt : Nat) (T : List Ac) (d : Int) (s : Tx) (n : Int) (w : World) (e : Ending) (w' : World) : Prop :=
  (lnkE q d s n ≠ 0 ∧ e = .returned (.int .i64 (lnkE q d s n)) ∧ Nw w w') ∨
  (lnkE q d s n = 0 ∧ e = .returned (.int .i64 0) ∧ MutO fb mb ot L q h (entQ q d s n) cnt (T ++ [⟨4, d, s, n, 0, [], 0, 0⟩]) w w')
theorem option_none_iff {α : Type} (o : Option α) : o = none ∨ ∃ x, o = some x := by
  cases o with
  | none => exact .inl rfl
  | some x => exact .inr ⟨x, rfl⟩
set_option maxHeartbeats 8000000 in
theorem link_any (H : FsH fb mb ot L h q cnt T w) (hT : T.length ≤ 2000000000000) (d : Int) (hd64 : I64 d) (s : Tx) (hs : s.length ≤ 140737488351232) (n : Int) (hn64 : I64 n) (hzero : ∀ p n, q d = some p → p.ents s = some n → n ≠ 0) (hneb : ∀ p, q d = some p → p.ne ≤ 1000000000000000) (hlk : ∀ p, q n = some p → 0 ≤ p.links ∧ p.links ≤ 1000000000000000) :
    Calls Tryz.prog 59 #[.pointer (some ⟨fb, 0, none⟩), .int .i64 d, .string (mk s), .int .i64 n] w (LnkO fb mb ot L h q cnt T d s n w) := by
  obtain ⟨P, hP⟩ : ∃ P : Ending → World → Prop, P = LnkO fb mb ot L h q cnt T d s n w := ⟨_, rfl⟩
  rw [← hP]
  have HFE : Hid (∀ er V, er ≠ 0 → lnkE q d s n = er → Nw w V → P (.returned (.int .i64 er)) V) := fun er V h1 h2 hV => by
    rw [hP]
    subst h2
    exact .inl ⟨h1, rfl, hV⟩
  obtain ⟨V, hV⟩ : ∃ V, V = w.alloc (.cells #[.int .i64 d, .string (mk s)] 127) := ⟨_, rfl⟩
  have hN : Nw w V := by rw [hV]; exact (Fr.refl _ _).alloc _
  have HV := H.nw hN
  have HCI : Hid (∀ V', Nw V V' → V'.cell? ⟨w.heap.size, 0, none⟩ = some (.int .i64 d) ∧ V'.cell? ⟨w.heap.size, 1, none⟩ = some (.string (mk s))) := fun V' hV' => by
    constructor
    · refine hV'.cell ?_; rw [hV]; exact (rc (nh w _) 0 _ rfl).1
    · refine hV'.cell ?_; rw [hV]; exact (rc (nh w _) 1 _ rfl).1
  have HNw : Hid (∀ V', Nw V V' → Nw w V') := fun V' h' => hN.trans h'
  have hfl := H.cs.lt
  have hne0 : ¬ fb = w.heap.size := by omega
  have c0 := HV.cs.c0
  have HRE : Hid (lnkE q d s n = if q n = none then 100 else if unfQ q [(d, s)] ≠ 0 then unfQ q [(d, s)] else if ((q d).bind (fun p => p.ents s)).isSome then 104 else if isDirQ q n then 106 else 0) := rfl
  have HW1 := tHid hV
  rcases option_none_iff (q n) with hqn | ⟨pn, hqn⟩
  · have hl := HV.look_none hn64 hqn
    have e1 := HRE.out
    rw [if_pos hqn] at e1
    have HF := tHid (HFE.out _ V (by rw [e1]; decide) rfl hN)
    rw [e1] at HF
    clear H HV hP hN hzero hneb hlk hV HRE HFE HCI HNw e1
    generalize mk s = ss at *
    go_enter Tryz.func59, Tryz.ntmps59
    go_upto_region 2 with fail
    rw [← HW1.out]
    clear HW1
    go_wp2_with fail
    exact HF.out
  · have hl := HV.look_some hn64 hqn
    have HU : Hid (Calls Tryz.prog 98 #[.pointer (some ⟨fb, 0, none⟩), .slice (some ⟨V.heap.size, 0, none⟩) 1 1] (V.alloc (.cells #[.int .i64 d, .string (mk s)] 127)) fun e w4 => e = .returned (.int .i64 (unfQ q [(d, s)])) ∧ Hid (Nw V w4)) := by
      have hA : Nw V (V.alloc (.cells #[.int .i64 d, .string (mk s)] 127)) := (Fr.refl _ _).alloc _
      have := unfit_any (HV.nw hA) V.heap.size 0 [(d, s)] (rdp_one d s) (fun x hx => by rw [List.mem_singleton] at hx; subst hx; exact ⟨hd64, hs⟩) 1 (by simp) (by omega)
      exact this.mono (fun e w' hh => ⟨hh.1, hA.trans hh.2⟩)
    have HAt : Hid (∀ pd, q d = some pd → pd.kind = 1 → ∀ V', Nw V V' → Calls Tryz.prog 99 #[.pointer (some ⟨fb, 0, none⟩), .agg #[.int .i64 d, .string (mk s)]] V' fun e w' => e = .returned (.int .i64 ((pd.ents s).getD 0)) ∧ Hid (Nw V w')) := fun pd hd hk V' hV' => (at_any (HV.nw hV') d hd64 s hs hd hk).mono (fun e w' hh => ⟨hh.1, hV'.trans hh.2⟩)
    have HD : Hid (∀ V', Nw V V' → Calls Tryz.prog 53 #[.pointer (some ⟨fb, 0, none⟩), .int .i64 n] V' fun e w' => e = .returned (.bool (isDirQ q n)) ∧ V' = w') := fun V' h' => isDir_any (HV.nw h') n hn64
    have HEn : Hid (∀ pd, q d = some pd → pd.kind = 1 → pd.ents s = none → lnkE q d s n = 0 → isDirQ q n = false → ∀ V', Nw V V' → Calls Tryz.prog 100 #[.pointer (some ⟨fb, 0, none⟩), .agg #[.int .i64 d, .string (mk s)], .int .i64 n] V' fun e w3 => (∃ r, e = .returned r) ∧ Hid (Calls Tryz.prog 97 #[.pointer (some ⟨fb, 0, none⟩), .agg #[.int .i64 4, .int .i64 d, .string (mk s), .int .i64 n, .int .i64 0, .string ⟨#[]⟩, .int .i64 0, .int .i64 0]] w3 fun e w4 => (∃ r, e = .returned r) ∧ Hid (P (.returned (.int .i64 0)) w4))) := fun pd hd hk hf hr hnd V' h' => by
      have hdn : d ≠ n := fun e => by
        subst e
        unfold isDirQ at hnd
        rw [hd] at hnd
        simp [hk] at hnd
      refine (enter_any (HV.nw h') d n hd64 hn64 s hs hd hk hf (hneb pd hd) hqn hdn (hlk pn hqn)).mono ?_
      rintro e w3 ⟨hr3, H3, f3⟩
      refine ⟨hr3, ?_⟩
      refine Calls.mono (did_any H3 hT ⟨4, d, s, n, 0, [], 0, 0⟩) ?_
      rintro e w4 ⟨hr4, ot', H4, f4, ho⟩
      refine ⟨hr4, ?_⟩
      show P _ _
      rw [hP]
      refine .inr ⟨hr, rfl, ?_⟩
      refine MutO.of (X := fun k => k = (L d).eb ∨ k = (L n).ib) (w7 := w3) (fun k p hp => entQ_some hp) ((hN.any.trans h'.any).trans f3) (fun k hk2 => ?_) H4 f4 ho
      rcases hk2 with rfl | rfl
      · exact .inl (.inr (.inr (.inr ⟨d, pd, hd, .inr (.inl ⟨hk, rfl⟩)⟩)))
      · exact .inl (.inr (.inr (.inr ⟨n, pn, hqn, .inl rfl⟩)))
    have HQ1 : Hid (unfQ q [(d, s)] = 0 → ∃ pd, q d = some pd ∧ pd.kind = 1 ∧ nmOk s = true) := unfQ_one
    have HZ := tHid hzero
    obtain ⟨s0, s1⟩ := HCI.out V (Fr.refl _ _)
    have e1 := HRE.out
    rw [if_neg (by rw [hqn]; simp)] at e1
    have HRE2 := tHid e1
    clear H HV hP hN hzero hneb hlk hV HRE e1 hqn
    generalize lnkE q d s n = er at *
    generalize (L n).ib = nb at *
    go_enter Tryz.func59, Tryz.ntmps59
    go_upto_region 2 with fail
    rw [← HW1.out]
    clear HW1
    go_upto_region 5 with (first | (go_at_call 98; with_reducible refine HU.out.mono ?_; rintro e w4 ⟨rfl, H4⟩))
    obtain ⟨s04, s14⟩ := HCI.out w4 H4.out
    clear HU s0 s1 c0 hl
    by_cases hu : unfQ q [(d, s)] = 0
    · obtain ⟨pd, hd, hk, hnm⟩ := HQ1.out hu
      have HA := tHid (HAt.out pd hd hk w4 H4.out)
      have HE := tHid (HEn.out pd hd hk)
      have HZ1 : Hid (∀ n, pd.ents s = some n → n ≠ 0) := fun n hn => HZ.out pd n hd hn
      have e1 := HRE2.out
      rw [hu, hd] at e1
      simp only [ne_eq, not_true_eq_false, if_false, Option.bind_some] at e1
      have HRE3 := tHid e1
      rw [hu]
      clear e1 HRE2 HQ1 HAt HZ hu hd hk hnm HEn
      go_upto_region 7 with fail
      obtain ⟨oe, hoe⟩ : ∃ oe, pd.ents s = oe := ⟨_, rfl⟩
      rw [hoe] at HZ1 HA HE
      simp only [hoe] at HRE3
      clear hoe
      cases oe with
      | some y =>
        have e1 := HRE3.out
        simp only [Option.isSome_some, if_true] at e1
        have hy : y ≠ 0 := HZ1.out y (by first | trivial | rfl)
        have hyb : (y == 0) = false := by rw [beq_eq_false_iff_ne]; exact hy
        have HF : Hid (∀ V', Nw V V' → P (.returned (.int .i64 104)) V') := fun V' hV => by
          have := HFE.out er V' (by rw [e1]; decide) rfl (HNw.out _ hV)
          rw [e1] at this
          exact this
        simp only [Option.getD_some] at HA
        clear HZ1 HRE3 HFE HCI HNw HD HE e1
        go_wp2_with (first | (go_at_call 99; with_reducible refine HA.out.mono ?_; rintro e w6 ⟨rfl, H6⟩))
        exact HF.out _ H6.out
      | none =>
        have e1 := HRE3.out
        simp only [Option.isSome_none, Bool.false_eq_true, if_false] at e1
        have HRE4 := tHid e1
        simp only [Option.getD_none] at HA
        clear e1 HRE3 HZ1
        go_upto_region 9 with (first | (go_at_call 99; with_reducible refine HA.out.mono ?_; rintro e w6 ⟨rfl, H6⟩))
        obtain ⟨s06, s16⟩ := HCI.out w6 H6.out
        have HD6 := tHid (HD.out w6 H6.out)
        clear HA HD s04 s14
        obtain ⟨Bd, hBd⟩ : ∃ Bd, isDirQ q n = Bd := ⟨_, rfl⟩
        rw [hBd] at HD6
        simp only [hBd] at HRE4 HE
        clear hBd
        cases Bd with
        | true =>
          have e1 := HRE4.out
          rw [if_pos rfl] at e1
          have HF := tHid (HFE.out er w6 (by rw [e1]; decide) rfl (HNw.out _ H6.out))
          rw [e1] at HF
          clear HRE4 HFE HCI HNw HE e1
          go_wp2_with (first | (go_at_call 53; with_reducible refine HD6.out.mono ?_; rintro e w5 ⟨rfl, rfl⟩))
          exact HF.out
        | false =>
          have e1 := HRE4.out
          rw [if_neg (by decide)] at e1
          have HE6 := tHid (HE.out (by first | trivial | rfl) e1 (by first | trivial | rfl) w6 H6.out)
          clear HRE4 HFE HCI HNw HE e1
          generalize mk s = ss at *
          go_wp2_with (first | (go_at_call 53; with_reducible refine HD6.out.mono ?_; rintro e w5 ⟨rfl, rfl⟩) | (go_at_call 100; with_reducible refine HE6.out.mono ?_; rintro e w3 ⟨⟨r3, rfl⟩, HDd⟩) | (go_at_call 97; with_reducible refine HDd.out.mono ?_; rintro e w4 ⟨⟨r4, rfl⟩, HF⟩))
          exact HF.out
    · have e1 := HRE2.out
      rw [if_pos hu] at e1
      have HF := tHid (HFE.out er w4 (by rw [e1]; exact hu) rfl (HNw.out _ H4.out))
      rw [e1] at HF
      have hub : (unfQ q [(d, s)] == 0) = false := by rw [beq_eq_false_iff_ne]; exact hu
      clear HRE2 HFE HCI HNw HQ1 HAt HZ HD HEn e1
      generalize unfQ q [(d, s)] = u at *
      go_wp2_with fail
      exact HF.out
end Go.Proofs.YtcogkhcfpgelhaaGreat

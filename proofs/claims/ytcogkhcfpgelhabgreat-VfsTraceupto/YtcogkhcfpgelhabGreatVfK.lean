import Derived.Test.YtcogkhcfpgelhabGreatVfJ
import Derived.Carry
namespace Go.Proofs.YtcogkhcfpgelhabGreat
open Go.RowKit
set_option linter.unusedVariables false
set_option maxRecDepth 100000
variable {fb mb : Nat} {ot : Option Nat} {L : Int → Lay} {h : Hx} {q : Int → Option Pn} {cnt : Nat} {T : List Ac} {w w' : World} {X : Nat → Prop}
theorem newE_one (eb : Nat) : newE 1 eb = .map (some eb) := by unfold newE; rw [if_pos rfl]
theorem newE_other (kd : Int) (hk : kd ≠ 1) (eb : Nat) : newE kd eb = .map none := by unfold newE; rw [if_neg hk]
theorem AddO.tup {fb mb : Nat} {ot : Option Nat} {L : Int → Lay} {h : Hx} {q : Int → Option Pn} {cnt : Nat} {T : List Ac} {op d : Int} {s : Tx} {kd : Int} {mt : Mt} {tgt : Tx} {w0 : World} {e : Ending} {w' : World} (hA : AddO fb mb ot L h q cnt T op d s kd mt tgt w0 e w') : ∃ a b, e = .returned (.tuple #[.int .i64 a, .int .i64 b]) := by
  rcases hA with ⟨_, rfl, _⟩ | ⟨_, rfl, _⟩
  · exact ⟨_, _, rfl⟩
  · exact ⟨_, _, rfl⟩
set_option maxHeartbeats 4000000 in
theorem mkdir_any (H : FsH fb mb ot L h q cnt T w) (hfr : q h.next = none) (hnx : 0 ≤ h.next ∧ h.next ≤ 1099511627776) (hT : T.length ≤ 2000000000000) (hcn : cnt ≤ 1000000) (d : Int) (hd64 : I64 d) (s : Tx) (hs : s.length ≤ 140737488351232)
    (hzero : ∀ p n, q d = some p → p.ents s = some n → n ≠ 0) (hneb : ∀ p, q d = some p → p.ne ≤ 1000000000000000) (mt : Mt) :
    Calls Tryz.prog 25 #[.pointer (some ⟨fb, 0, none⟩), .int .i64 d, .string (mk s), mtV mt] w (AddO fb mb ot L h q cnt T 1 d s 1 mt [] w) := by
  obtain ⟨P, hP⟩ : ∃ P : Ending → World → Prop, P = AddO fb mb ot L h q cnt T 1 d s 1 mt [] w := ⟨_, rfl⟩
  rw [← hP]
  obtain ⟨V1, hV1⟩ : ∃ V1, V1 = w.alloc (.cells #[.int .u32 mt.mode, .int .u32 mt.uid, .int .u32 mt.gid, .int .i64 mt.time, .int .i32 mt.nano] 37) := ⟨_, rfl⟩
  have hN1 : Nw w V1 := by rw [hV1]; exact (Fr.refl _ _).alloc _
  have hs1 := hN1.size
  have hN2 : Nw w (V1.alloc (.map #[] 0)) := hN1.alloc _
  have HA : Hid (Calls Tryz.prog 51 #[.pointer (some ⟨fb, 0, none⟩), .int .i64 1, .agg #[.int .i64 d, .string (mk s)], .agg #[.int .i64 1, .int .u32 mt.mode, .int .u32 mt.uid, .int .u32 mt.gid, .int .i64 mt.time, .int .i32 mt.nano, .slice none 0 0, .string ⟨#[]⟩, .map (some V1.heap.size), .int .i64 0, .int .i64 0]] (V1.alloc (.map #[] 0)) fun e w' => ∃ a b, e = .returned (.tuple #[.int .i64 a, .int .i64 b]) ∧ Hid (P e w')) := by
    have := add_any H hN2 hfr hnx hT hcn d hd64 s hs hzero hneb 1 mt [] (by simp) V1.heap.size (fun _ => ⟨hs1, Mp.made V1⟩) 1
    rw [newE_one] at this
    refine Calls.mono this (fun e w' hh => ?_)
    obtain ⟨a, b, e1⟩ := hh.tup
    exact ⟨a, b, e1, by rw [hP]; exact hh⟩
  have hc : ∀ j v, (#[.int .u32 mt.mode, .int .u32 mt.uid, .int .u32 mt.gid, .int .i64 mt.time, .int .i32 mt.nano] : Array Value)[j]? = some v → V1.cell? ⟨w.heap.size, j, none⟩ = some v := fun j v hv => by rw [hV1]; exact (rc (nh w _) j v hv).1
  have c0 := hc 0 _ rfl
  have c1 := hc 1 _ rfl
  have c2 := hc 2 _ rfl
  have c3 := hc 3 _ rfl
  have c4 := hc 4 _ rfl
  have hmm : (Instr.makeMap 89 none).run Tryz.prog V1 = .ok (.map (some V1.heap.size)) (V1.alloc (.map #[] 0)) := run_makeMap 89 V1
  have HV1 := tHid hV1
  clear hc H hP hN1 hN2 hs1 hzero hneb hV1
  unfold mtV
  generalize mk s = ss at *
  go_enter Tryz.func25, Tryz.ntmps25
  go_upto_region 1 with fail
  rw [← HV1.out]
  clear HV1
  go_wp2_with (first | (go_at_call 51; with_reducible refine HA.out.mono ?_; rintro e w5 ⟨a, b, rfl, H5⟩))
  exact H5.out
set_option maxHeartbeats 4000000 in
theorem create_any (H : FsH fb mb ot L h q cnt T w) (hfr : q h.next = none) (hnx : 0 ≤ h.next ∧ h.next ≤ 1099511627776) (hT : T.length ≤ 2000000000000) (hcn : cnt ≤ 1000000) (d : Int) (hd64 : I64 d) (s : Tx) (hs : s.length ≤ 140737488351232)
    (hzero : ∀ p n, q d = some p → p.ents s = some n → n ≠ 0) (hneb : ∀ p, q d = some p → p.ne ≤ 1000000000000000) (mt : Mt) :
    Calls Tryz.prog 26 #[.pointer (some ⟨fb, 0, none⟩), .int .i64 d, .string (mk s), mtV mt] w (AddO fb mb ot L h q cnt T 2 d s 2 mt [] w) := by
  obtain ⟨P, hP⟩ : ∃ P : Ending → World → Prop, P = AddO fb mb ot L h q cnt T 2 d s 2 mt [] w := ⟨_, rfl⟩
  rw [← hP]
  obtain ⟨V1, hV1⟩ : ∃ V1, V1 = w.alloc (.cells #[.int .u32 mt.mode, .int .u32 mt.uid, .int .u32 mt.gid, .int .i64 mt.time, .int .i32 mt.nano] 37) := ⟨_, rfl⟩
  have hN1 : Nw w V1 := by rw [hV1]; exact (Fr.refl _ _).alloc _
  have HA : Hid (Calls Tryz.prog 51 #[.pointer (some ⟨fb, 0, none⟩), .int .i64 2, .agg #[.int .i64 d, .string (mk s)], .agg #[.int .i64 2, .int .u32 mt.mode, .int .u32 mt.uid, .int .u32 mt.gid, .int .i64 mt.time, .int .i32 mt.nano, .slice none 0 0, .string ⟨#[]⟩, .map none, .int .i64 0, .int .i64 0]] V1 fun e w' => ∃ a b, e = .returned (.tuple #[.int .i64 a, .int .i64 b]) ∧ Hid (P e w')) := by
    have := add_any H hN1 hfr hnx hT hcn d hd64 s hs hzero hneb 2 mt [] (by simp) 0 (fun hh => by cases hh) 2
    rw [newE_other 2 (by decide)] at this
    refine Calls.mono this (fun e w' hh => ?_)
    obtain ⟨a, b, e1⟩ := hh.tup
    exact ⟨a, b, e1, by rw [hP]; exact hh⟩
  have hc : ∀ j v, (#[.int .u32 mt.mode, .int .u32 mt.uid, .int .u32 mt.gid, .int .i64 mt.time, .int .i32 mt.nano] : Array Value)[j]? = some v → V1.cell? ⟨w.heap.size, j, none⟩ = some v := fun j v hv => by rw [hV1]; exact (rc (nh w _) j v hv).1
  have c0 := hc 0 _ rfl
  have c1 := hc 1 _ rfl
  have c2 := hc 2 _ rfl
  have c3 := hc 3 _ rfl
  have c4 := hc 4 _ rfl
  have HV1 := tHid hV1
  clear hc H hP hN1 hzero hneb hV1
  unfold mtV
  generalize mk s = ss at *
  go_enter Tryz.func26, Tryz.ntmps26
  go_upto_region 1 with fail
  rw [← HV1.out]
  clear HV1
  go_wp2_with (first | (go_at_call 51; with_reducible refine HA.out.mono ?_; rintro e w5 ⟨a, b, rfl, H5⟩))
  exact H5.out
end Go.Proofs.YtcogkhcfpgelhabGreat

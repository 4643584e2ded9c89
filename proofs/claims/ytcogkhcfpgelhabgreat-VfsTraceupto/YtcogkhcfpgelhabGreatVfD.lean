import Derived.Test.YtcogkhcfpgelhabGreatVfC
import Derived.Test.YtcogkhcfpgelhabGreatPuA
import Derived.Laws.Rows
namespace Go.Proofs.YtcogkhcfpgelhabGreat
open Go.RowKit
set_option linter.unusedVariables false
set_option maxRecDepth 100000
variable {fb mb : Nat} {ot : Option Nat} {L : Int → Lay} {h : Hx} {q : Int → Option Pn} {cnt : Nat} {T : List Ac} {w w' : World} {X : Nat → Prop}
/-! ### What is read of a file system -/
theorem FsH.look_some (H : FsH fb mb ot L h q cnt T w) {k : Int} (hk : I64 k) {p : Pn} (hq : q k = some p) : (Instr.lookup 80 (.map (some mb)) (.int .i64 k) false).run Tryz.prog w = .ok (.pointer (some ⟨(L k).ib, 0, none⟩)) w := by
  have := H.mp.look1 miOk k hk
  simp only [hq] at this
  exact this
theorem FsH.look_none (H : FsH fb mb ot L h q cnt T w) {k : Int} (hk : I64 k) (hq : q k = none) : (Instr.lookup 80 (.map (some mb)) (.int .i64 k) false).run Tryz.prog w = .ok (.pointer none) w := by
  have := H.mp.look1 miOk k hk
  simp only [hq] at this
  exact this
theorem fsh_elook (H : FsH fb mb ot L h q cnt T w) {k : Int} {p : Pn} (hq : q k = some p) (hk : p.kind = 1) (s : Tx) (hs : s.length ≤ 140737488351232) : (Instr.lookup 89 (.map (some (L k).eb)) (.string (mk s)) false).run Tryz.prog w = .ok (.int .i64 ((p.ents s).getD 0)) w := by
  obtain ⟨dv, ev, k1, k2, k3, k4⟩ := (H.nd k p hq).blk
  have := (k3 hk).2.look1 meOk s hs
  cases hm : p.ents s with
  | none => rw [hm] at this; exact this
  | some n => rw [hm] at this; exact this
theorem FsH.len (H : FsH fb mb ot L h q cnt T w) : ∀ ty, (Builtin.len_ #[80] ty #[.map (some mb)]).run Tryz.prog w = .ok (.int .i64 cnt) w := H.mp.len miOk
/-- The cells of the head. -/
structure HdC (fb mb : Nat) (h : Hx) (w : World) : Prop where
  c0 : w.cell? ⟨fb, 0, none⟩ = some (.map (some mb))
  c1 : w.cell? ⟨fb, 1, none⟩ = some (.int .i64 h.nodes)
  c2 : w.cell? ⟨fb, 2, none⟩ = some (.int .i64 h.bytes)
  c3 : w.cell? ⟨fb, 3, none⟩ = some (.int .i64 h.held)
  c4 : w.cell? ⟨fb, 4, none⟩ = some (.int .i64 h.next)
  f3 : w.frozen? ⟨fb, 3, none⟩ = false
  f4 : w.frozen? ⟨fb, 4, none⟩ = false
  f5 : w.frozen? ⟨fb, 5, none⟩ = false
  lt : fb < w.heap.size
theorem FsH.cs (H : FsH fb mb ot L h q cnt T w) : HdC fb mb h w := by
  obtain ⟨tv, h1, h2⟩ := H.blk
  exact ⟨(rc h1 0 _ rfl).1, (rc h1 1 _ rfl).1, (rc h1 2 _ rfl).1, (rc h1 3 _ rfl).1, (rc h1 4 _ rfl).1, (rc h1 3 _ rfl).2, (rc h1 4 _ rfl).2, (rc h1 5 _ rfl).2, blt h1⟩
/-- The cells of an inode. -/
structure NdC (ib : Nat) (p : Pn) (dv ev : Value) (w : World) : Prop where
  c0 : w.cell? ⟨ib, 0, none⟩ = some (.int .i64 p.kind)
  c6 : w.cell? ⟨ib, 6, none⟩ = some dv
  c7 : w.cell? ⟨ib, 7, none⟩ = some (.string (mk p.tgt))
  c8 : w.cell? ⟨ib, 8, none⟩ = some ev
  c9 : w.cell? ⟨ib, 9, none⟩ = some (.int .i64 p.links)
  ca : w.cell? ⟨ib, 10, none⟩ = some (.int .i64 p.up)
  f6 : w.frozen? ⟨ib, 6, none⟩ = false
  f9 : w.frozen? ⟨ib, 9, none⟩ = false
  fa : w.frozen? ⟨ib, 10, none⟩ = false
  lt : ib < w.heap.size
theorem ndc_of {ib : Nat} {p : Pn} {dv ev : Value} {w : World} (h : w.heap[ib]? = some (.cells (ndC p dv ev) 91)) : NdC ib p dv ev w :=
  ⟨(rc h 0 _ rfl).1, (rc h 6 _ rfl).1, (rc h 7 _ rfl).1, (rc h 8 _ rfl).1, (rc h 9 _ rfl).1, (rc h 10 _ rfl).1, (rc h 6 _ rfl).2, (rc h 9 _ rfl).2, (rc h 10 _ rfl).2, blt h⟩
/-- What a directory's inode holds. -/
theorem FsH.dirC (H : FsH fb mb ot L h q cnt T w) {k : Int} {p : Pn} (hq : q k = some p) (hk : p.kind = 1) : ∃ dv, NdC (L k).ib p dv (.map (some (L k).eb)) w := by
  obtain ⟨dv, ev, k1, k2, k3, k4⟩ := (H.nd k p hq).blk
  rw [(k3 hk).1] at k1
  exact ⟨dv, ndc_of k1⟩
theorem FsH.anyC (H : FsH fb mb ot L h q cnt T w) {k : Int} {p : Pn} (hq : q k = some p) : ∃ dv ev, NdC (L k).ib p dv ev w := by
  obtain ⟨dv, ev, k1, k2, k3, k4⟩ := (H.nd k p hq).blk
  exact ⟨dv, ev, ndc_of k1⟩
/-- Is it a directory's number? -/
def isDirQ (q : Int → Option Pn) (k : Int) : Bool := match q k with
  | some p => decide (p.kind = 1)
  | none => false
set_option maxHeartbeats 2000000 in
theorem isDir_any (H : FsH fb mb ot L h q cnt T w) (k : Int) (hk : I64 k) : Calls Tryz.prog 44 #[.pointer (some ⟨fb, 0, none⟩), .int .i64 k] w fun e w' => e = .returned (.bool (isDirQ q k)) ∧ w = w' := by
  obtain ⟨P, hP⟩ : ∃ P : Ending → World → Prop, P = fun e w' => e = .returned (.bool (isDirQ q k)) ∧ w = w' := ⟨_, rfl⟩
  rw [← hP]
  have HF : Hid (P (.returned (.bool (isDirQ q k))) w) := by rw [hP]; exact ⟨rfl, rfl⟩
  clear hP
  have c0 := H.cs.c0
  cases hq : q k with
  | none =>
    have hl := H.look_none hk hq
    have e : isDirQ q k = false := by unfold isDirQ; rw [hq]
    rw [e] at HF
    clear H e
    go_enter Tryz.func44, Tryz.ntmps44
    go_wp2_with fail
    exact HF.out
  | some p =>
    have hl := H.look_some hk hq
    obtain ⟨dv, ev, hC⟩ := H.anyC hq
    have e : isDirQ q k = decide (p.kind = 1) := by unfold isDirQ; rw [hq]
    rw [e] at HF
    have x0 := hC.c0
    clear H e hC
    generalize (L k).ib = ib at *
    by_cases hk1 : p.kind = 1
    · rw [hk1] at x0
      rw [decide_eq_true hk1] at HF
      clear hk1
      go_enter Tryz.func44, Tryz.ntmps44
      go_wp2_with fail
      exact HF.out
    · rw [decide_eq_false hk1] at HF
      have hkb : (p.kind == 1) = false := by rw [beq_eq_false_iff_ne]; exact hk1
      generalize p.kind = kd at *
      go_enter Tryz.func44, Tryz.ntmps44
      go_wp2_with fail
      exact HF.out
set_option maxHeartbeats 2000000 in
theorem at_any (H : FsH fb mb ot L h q cnt T w) (k : Int) (hk : I64 k) (s : Tx) (hs : s.length ≤ 140737488351232) {p : Pn} (hq : q k = some p) (hk1 : p.kind = 1) : Calls Tryz.prog 55 #[.pointer (some ⟨fb, 0, none⟩), .agg #[.int .i64 k, .string (mk s)]] w fun e w' => e = .returned (.int .i64 ((p.ents s).getD 0)) ∧ Nw w w' := by
  obtain ⟨P, hP⟩ : ∃ P : Ending → World → Prop, P = fun e w' => e = .returned (.int .i64 ((p.ents s).getD 0)) ∧ Nw w w' := ⟨_, rfl⟩
  rw [← hP]
  have HF : Hid (∀ V, Nw w V → P (.returned (.int .i64 ((p.ents s).getD 0))) V) := fun V hV => by rw [hP]; exact ⟨rfl, hV⟩
  clear hP
  obtain ⟨V, hV⟩ : ∃ V, V = w.alloc (.cells #[.int .i64 k, .string (mk s)] 110) := ⟨_, rfl⟩
  have hN : Nw w V := by rw [hV]; exact (Fr.refl _ _).alloc _
  have HV := H.nw hN
  have c0 := HV.cs.c0
  have hfl := H.cs.lt
  obtain ⟨dv, hC⟩ := HV.dirC hq hk1
  have x8 := hC.c8
  have hl : ∀ n, (Instr.lookup 80 (.map (some mb)) (.int .i64 k) false).run Tryz.prog (V.drewN n) = .ok (.pointer (some ⟨(L k).ib, 0, none⟩)) (V.drewN n) := fun n => (HV.nw ((Fr.refl _ _).drewN n)).look_some hk hq
  have he : ∀ n, (Instr.lookup 89 (.map (some (L k).eb)) (.string (mk s)) false).run Tryz.prog (V.drewN n) = .ok (.int .i64 ((p.ents s).getD 0)) (V.drewN n) := fun n => fsh_elook (HV.nw ((Fr.refl _ _).drewN n)) hq hk1 s hs
  have b0 : V.cell? ⟨w.heap.size, 0, none⟩ = some (.int .i64 k) := by rw [hV]; exact (rc (nh w _) 0 _ rfl).1
  have b1 : V.cell? ⟨w.heap.size, 1, none⟩ = some (.string (mk s)) := by rw [hV]; exact (rc (nh w _) 1 _ rfl).1
  clear H HV hC hk1 hq
  generalize (L k).ib = ib at *
  generalize (L k).eb = eb at *
  generalize (p.ents s).getD 0 = r at *
  generalize mk s = ss at *
  go_enter Tryz.func55, Tryz.ntmps55
  go_upto_region 1 with fail
  rw [← hV]
  clear hV
  go_quiet (fail)
  go_wp2_with fail
  exact HF.out _ (hN.drewN _)
end Go.Proofs.YtcogkhcfpgelhabGreat

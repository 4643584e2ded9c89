import Derived.Test.YtcogkhcfpgelhaaGreatVag
import Derived.Test.YtcogkhcfpgelhaaGreatVaj
import Derived.Laws.Rows
namespace Go.Proofs.YtcogkhcfpgelhaaGreat
open Go.RowKit
set_option linter.unusedVariables false
set_option maxRecDepth 100000
variable {fb mb : Nat} {ot : Option Nat} {L : Int → Lay} {h : Hx} {q : Int → Option Pn} {cnt : Nat} {T : List Ac} {w w' : World} {X : Nat → Prop}
/-! ### What is read of a file system -/
theorem FsH.look_some (H : FsH fb mb ot L h q cnt T w) {k : Int} (hk : I64 k) {p : Pn} (hq : q k = some p) : (Instr.lookup 98 (.map (some mb)) (.int .i64 k) false).run Tryz.prog w = .ok (.pointer (some ⟨(L k).ib, 0, none⟩)) w := by
  have := H.mp.look1 miOk k hk
  simp only [hq] at this
  exact this
theorem FsH.look_none (H : FsH fb mb ot L h q cnt T w) {k : Int} (hk : I64 k) (hq : q k = none) : (Instr.lookup 98 (.map (some mb)) (.int .i64 k) false).run Tryz.prog w = .ok (.pointer none) w := by
  have := H.mp.look1 miOk k hk
  simp only [hq] at this
  exact this
theorem fsh_elook (H : FsH fb mb ot L h q cnt T w) {k : Int} {p : Pn} (hq : q k = some p) (hk : p.kind = 1) (s : Tx) (hs : s.length ≤ 140737488351232) : (Instr.lookup 102 (.map (some (L k).eb)) (.string (mk s)) false).run Tryz.prog w = .ok (.int .i64 ((p.ents s).getD 0)) w := by
  obtain ⟨dv, ev, k1, k2, k3, k4⟩ := (H.nd k p hq).blk
  have := (k3 hk).2.look1 meOk s hs
  cases hm : p.ents s with
  | none => rw [hm] at this; exact this
  | some n => rw [hm] at this; exact this
theorem FsH.len (H : FsH fb mb ot L h q cnt T w) : ∀ ty, (Builtin.len_ #[98] ty #[.map (some mb)]).run Tryz.prog w = .ok (.int .i64 cnt) w := H.mp.len miOk
/-- The cells of the head. -/
structure HdC (fb mb : Nat) (h : Hx) (w : World) : Prop where
  c0 : w.cell? ⟨fb, 0, none⟩ = some (.map (some mb))
  c1 : w.cell? ⟨fb, 1, none⟩ = some (.int .i64 h.nodes)
  c2 : w.cell? ⟨fb, 2, none⟩ = some (.int .i64 h.bytes)
  c3 : w.cell? ⟨fb, 3, none⟩ = some (.int .i64 h.held)
  c4 : w.cell? ⟨fb, 4, none⟩ = some (.int .i64 h.next)
  f3 : w.frozen? ⟨fb, 3, none⟩ = false
  f4 : w.frozen? ⟨fb, 4, none⟩ = false
  f5 : w.frozen? ⟨fb, 5, none⟩ = false
  lt : fb < w.heap.size
theorem FsH.cs (H : FsH fb mb ot L h q cnt T w) : HdC fb mb h w := by
  obtain ⟨tv, h1, h2⟩ := H.blk
  exact ⟨(rc h1 0 _ rfl).1, (rc h1 1 _ rfl).1, (rc h1 2 _ rfl).1, (rc h1 3 _ rfl).1, (rc h1 4 _ rfl).1, (rc h1 3 _ rfl).2, (rc h1 4 _ rfl).2, (rc h1 5 _ rfl).2, blt h1⟩
/-- The cells of an inode. -/
structure NdC (ib : Nat) (p : Pn) (dv ev : Value) (w : World) : Prop where
  c0 : w.cell? ⟨ib, 0, none⟩ = some (.int .i64 p.kind)
  c6 : w.cell? ⟨ib, 6, none⟩ = some dv
  c7 : w.cell? ⟨ib, 7, none⟩ = some (.string (mk p.tgt))
  c8 : w.cell? ⟨ib, 8, none⟩ = some ev
  c9 : w.cell? ⟨ib, 9, none⟩ = some (.int .i64 p.links)
  ca : w.cell? ⟨ib, 10, none⟩ = some (.int .i64 p.up)
  f6 : w.frozen? ⟨ib, 6, none⟩ = false
  f9 : w.frozen? ⟨ib, 9, none⟩ = false
  fa : w.frozen? ⟨ib, 10, none⟩ = false
  lt : ib < w.heap.size
theorem ndc_of {ib : Nat} {p : Pn} {dv ev : Value} {w : World} (h : w.heap[ib]? = some (.cells (ndC p dv ev) 104)) : NdC ib p dv ev w :=
  ⟨(rc h 0 _ rfl).1, (rc h 6 _ rfl).1, (rc h 7 _ rfl).1, (rc h 8 _ rfl).1, (rc h 9 _ rfl).1, (rc h 10 _ rfl).1, (rc h 6 _ rfl).2, (rc h 9 _ rfl).2, (rc h 10 _ rfl).2, blt h⟩
/-- What a directory's inode holds. -/
theorem FsH.dirC (H : FsH fb mb ot L h q cnt T w) {k : Int} {p : Pn} (hq : q k = some p) (hk : p.kind = 1) : ∃ dv, NdC (L k).ib p dv (.map (some (L k).eb)) w := by
  obtain ⟨dv, ev, k1, k2, k3, k4⟩ := (H.nd k p hq).blk
  rw [(k3 hk).1] at k1
  exact ⟨dv, ndc_of k1⟩
theorem FsH.anyC (H : FsH fb mb ot L h q cnt T w) {k : Int} {p : Pn} (hq : q k = some p) : ∃ dv ev, NdC (L k).ib p dv ev w := by
  obtain ⟨dv, ev, k1, k2, k3, k4⟩ := (H.nd k p hq).blk
  exact ⟨dv, ev, ndc_of k1⟩
/-- Is it a directory's number? -/
def isDirQ (q : Int → Option Pn) (k : Int) : Bool := match q k with
  | some p => decide (p.kind = 1)
  | none => false
set_option maxHeartbeats 2000000 in
theorem isDir_any (H : FsH fb mb ot L h q cnt T w) (k : Int) (hk : I64 k) : Calls Tryz.prog 53 #[.pointer (some ⟨fb, 0, none⟩), .int .i64 k] w fun e w' => e = .returned (.bool (isDirQ q k)) ∧ w = w' := by
  obtain ⟨P, hP⟩ : ∃ P : Ending → World → Prop, P = fun e w' => e = .returned (.bool (isDirQ q k)) ∧ w = w' := ⟨_, rfl⟩
  rw [← hP]
  have HF : Hid (P (.returned (.bool (isDirQ q k))) w) := by rw [hP]; exact ⟨rfl, rfl⟩
  clear hP
  have c0 := H.cs.c0
  cases hq : q k with
  | none =>
    have hl := H.look_none hk hq
    have e : isDirQ q k = false := by unfold isDirQ; rw [hq]
    rw [e] at HF
    clear H e
    go_enter Tryz.func53, Tryz.ntmps53
    go_wp2_with fail
    exact HF.out
  | some p =>
    have hl := H.look_some hk hq
    obtain ⟨dv, ev, hC⟩ := H.anyC hq
    have e : isDirQ q k = decide (p.kind = 1) := by unfold isDirQ; rw [hq]
    rw [e] at HF
    have x0 := hC.c0
    clear H e hC
    generalize (L k).ib = ib at *
    by_cases hk1 : p.kind = 1
    · rw [hk1] at x0
      rw [decide_eq_true hk1] at HF
      clear hk1
      go_enter Tryz.func53, Tryz.ntmps53
      go_wp2_with fail
      exact HF.out
    · rw [decide_eq_false hk1] at HF
      have hkb : (p.kind == 1) = false := by rw [beq_eq_false_iff_ne]; exact hk1
      generalize p.kind = kd at *
      go_enter Tryz.func53, Tryz.ntmps53
      go_wp2_with fail
      exact HF.out
set_option maxHeartbeats 2000000 in
theorem at_any (H : FsH fb mb ot L h q cnt T w) (k : Int) (hk : I64 k) (s : Tx) (hs : s.length ≤ 140737488351232) {p : Pn} (hq : q k = some p) (hk1 : p.kind = 1) : Calls Tryz.prog 99 #[.pointer (some ⟨fb, 0, none⟩), .agg #[.int .i64 k, .string (mk s)]] w fun e w' => e = .returned (.int .i64 ((p.ents s).getD 0)) ∧ Nw w w' := by
  obtain ⟨P, hP⟩ : ∃ P : Ending → World → Prop, P = fun e w' => e = .returned (.int .i64 ((p.ents s).getD 0)) ∧ Nw w w' := ⟨_, rfl⟩
  rw [← hP]
  have HF : Hid (∀ V, Nw w V → P (.returned (.int .i64 ((p.ents s).getD 0))) V) := fun V hV => by rw [hP]; exact ⟨rfl, hV⟩
  clear hP
  obtain ⟨V, hV⟩ : ∃ V, V = w.alloc (.cells #[.int .i64 k, .string (mk s)] 127) := ⟨_, rfl⟩
  have hN : Nw w V := by rw [hV]; exact (Fr.refl _ _).alloc _
  have HV := H.nw hN
  have c0 := HV.cs.c0
  have hfl := H.cs.lt
  obtain ⟨dv, hC⟩ := HV.dirC hq hk1
  have x8 := hC.c8
  have hl : ∀ n, (Instr.lookup 98 (.map (some mb)) (.int .i64 k) false).run Tryz.prog (V.drewN n) = .ok (.pointer (some ⟨(L k).ib, 0, none⟩)) (V.drewN n) := fun n => (HV.nw ((Fr.refl _ _).drewN n)).look_some hk hq
  have he : ∀ n, (Instr.lookup 102 (.map (some (L k).eb)) (.string (mk s)) false).run Tryz.prog (V.drewN n) = .ok (.int .i64 ((p.ents s).getD 0)) (V.drewN n) := fun n => fsh_elook (HV.nw ((Fr.refl _ _).drewN n)) hq hk1 s hs
  have b0 : V.cell? ⟨w.heap.size, 0, none⟩ = some (.int .i64 k) := by rw [hV]; exact (rc (nh w _) 0 _ rfl).1
  have b1 : V.cell? ⟨w.heap.size, 1, none⟩ = some (.string (mk s)) := by rw [hV]; exact (rc (nh w _) 1 _ rfl).1
  clear H HV hC hk1 hq
  generalize (L k).ib = ib at *
  generalize (L k).eb = eb at *
  generalize (p.ents s).getD 0 = r at *
  generalize mk s = ss at *
  go_enter Tryz.func99, Tryz.ntmps99
  go_upto_region 1 with fail
  rw [← hV]
  clear hV
  go_quiet (fail)
  go_wp2_with fail
  exact HF.out _ (hN.drewN _)
end Go.Proofs.YtcogkhcfpgelhaaGreat

namespace Go.Proofs.YtcogkhcfpgelhaaGreat
open Go.RowKit
set_option linter.unusedVariables false
set_option maxRecDepth 100000
/-! ### Names, targets, metas -/
theorem mk_eqr (l m : Tx) : ((mk l).toList == m) = decide (l = m) := by
  rw [mk_toList]
  by_cases h : l = m
  · subst h; simp
  · rw [decide_eq_false h, beq_eq_false_iff_ne]; exact h
def fitsF (l : Tx) (most : Int) : Bool := decide (l ≠ []) && decide ((l.length : Int) ≤ most) && !decide ((0 : UInt8) ∈ l)
set_option maxHeartbeats 2000000 in
theorem fits_any (l : Tx) (most : Int) (w : World) (hs : l.length ≤ 140737488351232) : Calls Tryz.prog 134 #[.string (mk l), .int .i64 most] w fun e w' => e = .returned (.bool (fitsF l most)) ∧ w = w' := by
  obtain ⟨P, hP⟩ : ∃ P : Ending → World → Prop, P = fun e w' => e = .returned (.bool (fitsF l most)) ∧ w = w' := ⟨_, rfl⟩
  rw [← hP]
  have HF : Hid (P (.returned (.bool (fitsF l most))) w) := by rw [hP]; exact ⟨rfl, rfl⟩
  clear hP
  have HC := tHid (cont_0 l w hs)
  by_cases h0 : l = []
  · have e : fitsF l most = false := by unfold fitsF; simp [h0]
    rw [e] at HF
    subst h0
    clear HC e hs
    have hm : mk [] = ⟨#[]⟩ := rfl
    rw [hm]
    go_enter Tryz.func134, Tryz.ntmps134
    go_wp2_with fail
    exact HF.out
  · have hb := mk_eqr l []
    rw [decide_eq_false h0] at hb
    have hsz := mk_size l
    by_cases h1 : (l.length : Int) ≤ most
    · have e : fitsF l most = !decide ((0 : UInt8) ∈ l) := by unfold fitsF; simp [h0, h1]
      rw [e] at HF
      rw [← hsz] at h1
      have h1d := decide_eq_true h1
      clear e hs hsz h0
      generalize mk l = s at *
      generalize decide ((0 : UInt8) ∈ l) = B at *
      go_enter Tryz.func134, Tryz.ntmps134
      go_wp2_with (first | (go_at_call 135; with_reducible refine HC.out.mono ?_; rintro e w1 ⟨rfl, rfl⟩))
      exact HF.out
    · have e : fitsF l most = false := by unfold fitsF; simp [h1]
      rw [e] at HF
      rw [← hsz] at h1
      have h1d := decide_eq_false h1
      clear e hs hsz h0 HC
      generalize mk l = s at *
      go_enter Tryz.func134, Tryz.ntmps134
      go_wp2_with fail
      exact HF.out
theorem fits_tg (l : Tx) : fitsF l 4096 = tgOk l := by
  unfold fitsF tgOk
  have e : decide ((l.length : Int) ≤ 4096) = decide (l.length ≤ 4096) := by
    by_cases h : l.length ≤ 4096
    · rw [decide_eq_true h, decide_eq_true (by omega)]
    · rw [decide_eq_false h, decide_eq_false (by omega)]
  rw [e]
set_option maxHeartbeats 2000000 in
theorem isTarget_any (l : Tx) (w : World) (hs : l.length ≤ 140737488351232) : Calls Tryz.prog 121 #[.string (mk l)] w fun e w' => e = .returned (.bool (tgOk l)) ∧ w = w' := by
  obtain ⟨P, hP⟩ : ∃ P : Ending → World → Prop, P = fun e w' => e = .returned (.bool (tgOk l)) ∧ w = w' := ⟨_, rfl⟩
  rw [← hP]
  have HF : Hid (P (.returned (.bool (tgOk l))) w) := by rw [hP]; exact ⟨rfl, rfl⟩
  have HC : Hid (Calls Tryz.prog 134 #[.string (mk l), .int .i64 4096] w fun e w' => e = .returned (.bool (tgOk l)) ∧ w = w') := by
    have := fits_any l 4096 w hs
    rw [fits_tg] at this
    exact this
  clear hP
  generalize tgOk l = B at *
  generalize mk l = s at *
  go_enter Tryz.func121, Tryz.ntmps121
  go_wp2_with (first | (go_at_call 134; with_reducible refine HC.out.mono ?_; rintro e w1 ⟨rfl, rfl⟩))
  exact HF.out
theorem nm_fits (l : Tx) : nmOk l = (fitsF l 255 && decide (l ≠ [46]) && decide (l ≠ [46, 46]) && !decide ((47 : UInt8) ∈ l)) := by
  unfold fitsF nmOk
  have e : decide ((l.length : Int) ≤ 255) = decide (l.length ≤ 255) := by
    by_cases h : l.length ≤ 255
    · rw [decide_eq_true h, decide_eq_true (by omega)]
    · rw [decide_eq_false h, decide_eq_false (by omega)]
  rw [e]
  cases decide (l ≠ []) <;> cases decide (l.length ≤ 255) <;> cases decide ((0 : UInt8) ∈ l) <;> cases decide ((47 : UInt8) ∈ l) <;> cases decide (l ≠ [46]) <;> cases decide (l ≠ [46, 46]) <;> rfl
set_option maxHeartbeats 4000000 in
theorem isName_any (l : Tx) (w : World) (hs : l.length ≤ 140737488351232) : Calls Tryz.prog 122 #[.string (mk l)] w fun e w' => e = .returned (.bool (nmOk l)) ∧ w = w' := by
  obtain ⟨P, hP⟩ : ∃ P : Ending → World → Prop, P = fun e w' => e = .returned (.bool (nmOk l)) ∧ w = w' := ⟨_, rfl⟩
  rw [← hP]
  have HF : Hid (P (.returned (.bool (nmOk l))) w) := by rw [hP]; exact ⟨rfl, rfl⟩
  have HC := tHid (fits_any l 255 w hs)
  have HD := tHid (cont_47 l w hs)
  clear hP
  rw [nm_fits] at HF
  have h1 := mk_eqr l [46]
  have h2 := mk_eqr l [46, 46]
  by_cases a1 : l = [46]
  · have hf : fitsF l 255 = true := by rw [a1]; decide
    have e : (fitsF l 255 && decide (l ≠ [46]) && decide (l ≠ [46, 46]) && !decide ((47 : UInt8) ∈ l)) = false := by rw [decide_eq_false (fun h => h a1)]; simp
    rw [e] at HF
    rw [hf] at HC
    rw [decide_eq_true a1] at h1
    clear hf e h2 HD hs a1
    generalize mk l = s at *
    go_enter Tryz.func122, Tryz.ntmps122
    go_wp2_with (first | (go_at_call 134; with_reducible refine HC.out.mono ?_; rintro e w1 ⟨rfl, rfl⟩))
    exact HF.out
  · rw [decide_eq_false a1] at h1
    by_cases a2 : l = [46, 46]
    · have hf : fitsF l 255 = true := by rw [a2]; decide
      have e : (fitsF l 255 && decide (l ≠ [46]) && decide (l ≠ [46, 46]) && !decide ((47 : UInt8) ∈ l)) = false := by rw [decide_eq_false (p := l ≠ [46, 46]) (fun h => h a2)]; simp
      rw [e] at HF
      rw [hf] at HC
      rw [decide_eq_true a2] at h2
      clear hf e HD hs a1 a2
      generalize mk l = s at *
      go_enter Tryz.func122, Tryz.ntmps122
      go_wp2_with (first | (go_at_call 134; with_reducible refine HC.out.mono ?_; rintro e w1 ⟨rfl, rfl⟩))
      exact HF.out
    · rw [decide_eq_false a2] at h2
      rw [decide_eq_true a1, decide_eq_true a2] at HF
      generalize fitsF l 255 = B1 at *
      generalize decide ((47 : UInt8) ∈ l) = B2 at *
      generalize mk l = s at *
      clear a1 a2 hs
      cases B1 with
      | true =>
        simp only [Bool.and_true, Bool.true_and] at HF
        go_enter Tryz.func122, Tryz.ntmps122
        go_wp2_with (first | (go_at_call 134; with_reducible refine HC.out.mono ?_; rintro e w1 ⟨rfl, rfl⟩) | (go_at_call 135; with_reducible refine HD.out.mono ?_; rintro e w1 ⟨rfl, rfl⟩))
        exact HF.out
      | false =>
        simp only [Bool.and_true, Bool.false_and] at HF
        go_enter Tryz.func122, Tryz.ntmps122
        go_wp2_with (first | (go_at_call 134; with_reducible refine HC.out.mono ?_; rintro e w1 ⟨rfl, rfl⟩))
        exact HF.out
abbrev mtV (m : Mt) : Value := .agg #[.int .u32 m.mode, .int .u32 m.uid, .int .u32 m.gid, .int .i64 m.time, .int .i32 m.nano]
set_option maxHeartbeats 4000000 in
theorem isMeta_int (md ud gd time nano : Int) (w : World) : Calls Tryz.prog 104 #[.agg #[.int .u32 md, .int .u32 ud, .int .u32 gd, .int .i64 time, .int .i32 nano]] w fun e w' => e = .returned (.bool (decide (md ≤ 4095) && decide (0 ≤ nano) && decide (nano < 1000000000))) ∧ Nw w w' := by
  obtain ⟨P, hP⟩ : ∃ P : Ending → World → Prop, P = fun e w' => e = .returned (.bool (decide (md ≤ 4095) && decide (0 ≤ nano) && decide (nano < 1000000000))) ∧ Nw w w' := ⟨_, rfl⟩
  rw [← hP]
  have HF : Hid (∀ V, Nw w V → P (.returned (.bool (decide (md ≤ 4095) && decide (0 ≤ nano) && decide (nano < 1000000000)))) V) := fun V hV => by rw [hP]; exact ⟨rfl, hV⟩
  clear hP
  by_cases h1 : md ≤ 4095
  · rw [decide_eq_true h1] at HF
    by_cases h2 : 0 ≤ nano
    · rw [decide_eq_true h2] at HF
      simp only [Bool.true_and] at HF
      have h1d := decide_eq_true h1
      have h2d := decide_eq_true h2
      by_cases h3 : nano < 1000000000
      · rw [decide_eq_true h3] at HF
        have h3d := decide_eq_true h3
        go_enter Tryz.func104, Tryz.ntmps104
        go_wp2_with fail
        exact HF.out _ ((Fr.refl _ _).alloc _)
      · rw [decide_eq_false h3] at HF
        have h3d := decide_eq_false h3
        go_enter Tryz.func104, Tryz.ntmps104
        go_wp2_with fail
        exact HF.out _ ((Fr.refl _ _).alloc _)
    · rw [decide_eq_false h2] at HF
      simp only [Bool.true_and, Bool.false_and] at HF
      have h1d := decide_eq_true h1
      have h2d := decide_eq_false h2
      go_enter Tryz.func104, Tryz.ntmps104
      go_wp2_with fail
      exact HF.out _ ((Fr.refl _ _).alloc _)
  · rw [decide_eq_false h1] at HF
    simp only [Bool.false_and] at HF
    have h1d := decide_eq_false h1
    go_enter Tryz.func104, Tryz.ntmps104
    go_wp2_with fail
    exact HF.out _ ((Fr.refl _ _).alloc _)
theorem isMeta_any (m : Mt) (w : World) : Calls Tryz.prog 104 #[mtV m] w fun e w' => e = .returned (.bool (mtOk m)) ∧ Nw w w' := by
  have h := isMeta_int m.mode m.uid m.gid m.time m.nano w
  have e1 : decide ((m.mode : Int) ≤ 4095) = decide (m.mode ≤ 4095) := by
    by_cases h : m.mode ≤ 4095
    · rw [decide_eq_true h, decide_eq_true (by omega)]
    · rw [decide_eq_false h, decide_eq_false (by omega)]
  rw [e1] at h
  exact h
end Go.Proofs.YtcogkhcfpgelhaaGreat

namespace Go.Proofs.YtcogkhcfpgelhaaGreat
open Go.RowKit
set_option linter.unusedVariables false
set_option maxRecDepth 100000
variable {fb mb : Nat} {ot : Option Nat} {L : Int → Lay} {h : Hx} {q : Int → Option Pn} {cnt : Nat} {T : List Ac} {w w' : World} {X : Nat → Prop}
/-- Why there can be no entry at one of the spots. -/
def unfQ (q : Int → Option Pn) (sp : List (Int × Tx)) : Int := if sp.any (fun s => (q s.1).isNone) then 100 else if sp.any (fun s => !isDirQ q s.1) then 101 else if sp.any (fun s => !nmOk s.2) then 102 else 0
def RdP (g o : Nat) (sp : List (Int × Tx)) (w : World) : Prop := ∀ i (hi : i < sp.length), w.cell? ⟨g, o + i * 2, none⟩ = some (.int .i64 sp[i].1) ∧ w.cell? ⟨g, o + i * 2 + 1, none⟩ = some (.string (mk sp[i].2))
theorem any_upto {α : Type} (l : List α) (f : α → Bool) (I : Nat) (hI : I ≤ l.length) (h : ∀ j (hj : j < l.length), j < I → f l[j] = false) (he : I = l.length) : l.any f = false := by
  rw [List.any_eq_false]
  intro x hx
  obtain ⟨j, hj, rfl⟩ := List.getElem_of_mem hx
  rw [h j hj (by omega)]; simp
theorem any_at {α : Type} (l : List α) (f : α → Bool) (I : Nat) (hI : I < l.length) (h : f l[I] = true) : l.any f = true := List.any_eq_true.2 ⟨_, List.getElem_mem hI, h⟩
set_option maxHeartbeats 8000000 in
theorem unfit_any (H : FsH fb mb ot L h q cnt T w) (g o : Nat) (sp : List (Int × Tx)) (hsp : RdP g o sp w) (hk : ∀ s ∈ sp, I64 s.1 ∧ s.2.length ≤ 140737488351232) (c : Nat) (hc : sp.length ≤ c) (hc2 : c ≤ 1000) : Calls Tryz.prog 98 #[.pointer (some ⟨fb, 0, none⟩), .slice (some ⟨g, o, none⟩) sp.length c] w fun e w' => e = .returned (.int .i64 (unfQ q sp)) ∧ Nw w w' := by
  obtain ⟨P, hP⟩ : ∃ P : Ending → World → Prop, P = fun e w' => e = .returned (.int .i64 (unfQ q sp)) ∧ Nw w w' := ⟨_, rfl⟩
  rw [← hP]
  have HF : Hid (∀ V, Nw w V → P (.returned (.int .i64 (unfQ q sp))) V) := fun V hV => by rw [hP]; exact ⟨rfl, hV⟩
  clear hP
  have HH := tHid H
  have HSP := tHid hsp
  have HK : Hid (∀ i (hi : i < sp.length), I64 sp[i].1 ∧ sp[i].2.length ≤ 140737488351232) := fun i hi => hk _ (List.getElem_mem hi)
  have hfl := H.cs.lt
  clear H hsp hk
  obtain ⟨N, hN⟩ : ∃ N, N = sp.length := ⟨_, rfl⟩
  have HN := tHid hN
  rw [← hN] at hc ⊢
  clear hN
  go_enter Tryz.func98, Tryz.ntmps98
  go_wp2_with fail
  go_loopg [13] N (fun kx i wr => ∃ (I : Nat), I ≤ N ∧ N - I ≤ kx ∧ i = .int .i64 I ∧ Hid (Nw w wr ∧ ∀ j (hj : j < sp.length), j < I → (q sp[j].1).isNone = false))
  case atStart => exact ⟨0, by omega, by omega, rfl, Fr.refl _ _, fun j hj hj2 => by omega⟩
  case round =>
    obtain ⟨I, hI, hkx, rfl, HI⟩ := hrel
    obtain ⟨hNw, hE⟩ := HI.out
    by_cases hlt : I < N
    · have hl2 : I < sp.length := by rw [← HN.out]; exact hlt
      obtain ⟨s0, s1⟩ := HSP.out I hl2
      have x0 := hNw.cell s0
      have x1 := hNw.cell s1
      obtain ⟨V, hV⟩ : ∃ V, V = wr.alloc (.cells #[.int .i64 sp[I].1, .string (mk sp[I].2)] 127) := ⟨_, rfl⟩
      have hNV : Nw w V := by rw [hV]; exact hNw.alloc _
      have HV := HH.out.nw hNV
      have c0 := HV.cs.c0
      have b0 : V.cell? ⟨wr.heap.size, 0, none⟩ = some (.int .i64 sp[I].1) := by rw [hV]; exact (rc (nh wr _) 0 _ rfl).1
      cases hq : q sp[I].1 with
      | none =>
        have hl : ∀ n, (Instr.lookup 98 (.map (some mb)) (.int .i64 sp[I].1) false).run Tryz.prog (V.drewN n) = .ok (.pointer none) (V.drewN n) := fun n => (HV.nw ((Fr.refl _ _).drewN n)).look_none (HK.out I hl2).1 hq
        have HF2 : Hid (∀ V, Nw w V → P (.returned (.int .i64 100)) V) := fun V hV => by
          have := HF.out V hV
          unfold unfQ at this
          rw [if_pos (any_at sp _ I hl2 (by rw [hq]; rfl))] at this
          exact this
        clear HF HH HSP HK HI hNw hE HV HN hq s0 s1
        generalize sp[I].1 = ki at *
        generalize mk sp[I].2 = si at *
        go_upto_region 4 with fail
        rw [← hV]
        clear hV
        go_quiet (fail)
        go_wp2_with fail
        exact HF2.out _ (hNV.drewN _)
      | some p =>
        have hl : ∀ n, (Instr.lookup 98 (.map (some mb)) (.int .i64 sp[I].1) false).run Tryz.prog (V.drewN n) = .ok (.pointer (some ⟨(L sp[I].1).ib, 0, none⟩)) (V.drewN n) := fun n => (HV.nw ((Fr.refl _ _).drewN n)).look_some (HK.out I hl2).1 hq
        have HR : Hid (∀ V, Nw w V → Nw w V ∧ ∀ j (hj : j < sp.length), j < I + 1 → (q sp[j].1).isNone = false) := fun V hV => ⟨hV, fun j hj hj2 => by
          by_cases hj3 : j < I
          · exact hE j hj hj3
          · obtain rfl : j = I := by omega
            rw [hq]; rfl⟩
        clear HF HH HSP HK HI hNw hE HV HN hq s0 s1
        generalize (L sp[I].1).ib = ib at *
        generalize sp[I].1 = ki at *
        generalize mk sp[I].2 = si at *
        go_upto_region 4 with fail
        rw [← hV]
        clear hV
        go_quiet (fail)
        go_wp2_with fail
        go_roundg (N - (I + 1))
        case measure => omega
        case rel => exact ⟨I + 1, by omega, by omega, by first | rfl | (congr 1), HR.out _ (hNV.drewN _)⟩
    · have h100 : sp.any (fun s => (q s.1).isNone) = false := any_upto sp _ I (by rw [← HN.out]; exact hI) hE (by rw [← HN.out]; omega)
      have HF2 : Hid (∀ V, Nw w V → P (.returned (.int .i64 (if sp.any (fun s => !isDirQ q s.1) then 101 else if sp.any (fun s => !nmOk s.2) then 102 else 0))) V) := fun V hV => by
        have := HF.out V hV
        unfold unfQ at this
        rw [h100] at this
        exact this
      have HW := tHid hNw
      clear HF HI hE h100 hNw
      go_wp2_with fail
      go_loopg [28] N (fun kx i wr => ∃ (I : Nat), I ≤ N ∧ N - I ≤ kx ∧ i = .int .i64 I ∧ Hid (Nw w wr ∧ ∀ j (hj : j < sp.length), j < I → (!isDirQ q sp[j].1) = false))
      case atStart => exact ⟨0, by omega, by omega, rfl, HW.out, fun j hj hj2 => by omega⟩
      case round =>
        clear HW hlt hkx
        obtain ⟨I, hI, hkx, rfl, HI⟩ := hrel
        obtain ⟨hNw, hE⟩ := HI.out
        by_cases hlt : I < N
        · have hl2 : I < sp.length := by rw [← HN.out]; exact hlt
          obtain ⟨s0, s1⟩ := HSP.out I hl2
          have x0 := hNw.cell s0
          have x1 := hNw.cell s1
          have HC : Hid (∀ V, Nw w V → Calls Tryz.prog 53 #[.pointer (some ⟨fb, 0, none⟩), .int .i64 sp[I].1] V fun e w' => e = .returned (.bool (isDirQ q sp[I].1)) ∧ V = w') := fun V hV => isDir_any (HH.out.nw hV) _ (HK.out I hl2).1
          have HF3 : Hid (isDirQ q sp[I].1 = false → ∀ V, Nw w V → P (.returned (.int .i64 101)) V) := fun hd V hV => by
            have := HF2.out V hV
            rw [if_pos (any_at sp _ I hl2 (by rw [hd]; rfl))] at this
            exact this
          have HR : Hid (isDirQ q sp[I].1 = true → ∀ V, Nw w V → Nw w V ∧ ∀ j (hj : j < sp.length), j < I + 1 → (!isDirQ q sp[j].1) = false) := fun hd V hV => ⟨hV, fun j hj hj2 => by
            by_cases hj3 : j < I
            · exact hE j hj hj3
            · obtain rfl : j = I := by omega
              rw [hd]; rfl⟩
          have HW := tHid hNw
          clear HF2 HH HSP HK HI hNw hE HN s0 s1
          generalize isDirQ q sp[I].1 = Bd at *
          generalize sp[I].1 = ki at *
          generalize mk sp[I].2 = si at *
          cases Bd with
          | true =>
            go_wp2_with (first | (go_at_call 53; with_reducible refine (HC.out _ ?_).mono ?_; exact HW.out.alloc _; rintro e w1 ⟨rfl, rfl⟩))
            go_roundg (N - (I + 1))
            case measure => omega
            case rel => exact ⟨I + 1, by omega, by omega, by first | rfl | (congr 1), HR.out (by first | trivial | rfl) _ (HW.out.alloc _)⟩
          | false =>
            go_wp2_with (first | (go_at_call 53; with_reducible refine (HC.out _ ?_).mono ?_; exact HW.out.alloc _; rintro e w1 ⟨rfl, rfl⟩))
            exact HF3.out (by first | trivial | rfl) _ (HW.out.alloc _)
        · have h101 : sp.any (fun s => !isDirQ q s.1) = false := any_upto sp _ I (by rw [← HN.out]; exact hI) hE (by rw [← HN.out]; omega)
          have HF3 : Hid (∀ V, Nw w V → P (.returned (.int .i64 (if sp.any (fun s => !nmOk s.2) then 102 else 0))) V) := fun V hV => by
            have := HF2.out V hV
            rw [h101] at this
            exact this
          have HW := tHid hNw
          clear HF2 HI hE h101 hNw
          go_wp2_with fail
          go_loopg [40] N (fun kx i wr => ∃ (I : Nat), I ≤ N ∧ N - I ≤ kx ∧ i = .int .i64 I ∧ Hid (Nw w wr ∧ ∀ j (hj : j < sp.length), j < I → (!nmOk sp[j].2) = false))
          case atStart => exact ⟨0, by omega, by omega, rfl, HW.out, fun j hj hj2 => by omega⟩
          case round =>
            clear HW hlt hkx
            obtain ⟨I, hI, hkx, rfl, HI⟩ := hrel
            obtain ⟨hNw, hE⟩ := HI.out
            by_cases hlt : I < N
            · have hl2 : I < sp.length := by rw [← HN.out]; exact hlt
              obtain ⟨s0, s1⟩ := HSP.out I hl2
              have x0 := hNw.cell s0
              have x1 := hNw.cell s1
              have HC : Hid (∀ V, Calls Tryz.prog 122 #[.string (mk sp[I].2)] V fun e w' => e = .returned (.bool (nmOk sp[I].2)) ∧ V = w') := fun V => isName_any _ V (HK.out I hl2).2
              have HF4 : Hid (nmOk sp[I].2 = false → ∀ V, Nw w V → P (.returned (.int .i64 102)) V) := fun hd V hV => by
                have := HF3.out V hV
                rw [if_pos (any_at sp _ I hl2 (by rw [hd]; rfl))] at this
                exact this
              have HR : Hid (nmOk sp[I].2 = true → ∀ V, Nw w V → Nw w V ∧ ∀ j (hj : j < sp.length), j < I + 1 → (!nmOk sp[j].2) = false) := fun hd V hV => ⟨hV, fun j hj hj2 => by
                by_cases hj3 : j < I
                · exact hE j hj hj3
                · obtain rfl : j = I := by omega
                  rw [hd]; rfl⟩
              have HW := tHid hNw
              clear HF3 HH HSP HK HI hNw hE HN s0 s1
              generalize nmOk sp[I].2 = Bd at *
              generalize sp[I].1 = ki at *
              generalize mk sp[I].2 = si at *
              cases Bd with
              | true =>
                go_wp2_with (first | (go_at_call 122; with_reducible refine (HC.out _).mono ?_; rintro e w1 ⟨rfl, rfl⟩))
                go_roundg (N - (I + 1))
                case measure => omega
                case rel => exact ⟨I + 1, by omega, by omega, by first | rfl | (congr 1), HR.out (by first | trivial | rfl) _ (HW.out.alloc _)⟩
              | false =>
                go_wp2_with (first | (go_at_call 122; with_reducible refine (HC.out _).mono ?_; rintro e w1 ⟨rfl, rfl⟩))
                exact HF4.out (by first | trivial | rfl) _ (HW.out.alloc _)
            · have h102 : sp.any (fun s => !nmOk s.2) = false := any_upto sp _ I (by rw [← HN.out]; exact hI) hE (by rw [← HN.out]; omega)
              have HF4 : Hid (P (.returned (.int .i64 0)) wr) := by
                have := HF3.out wr hNw
                rw [h102] at this
                exact this
              clear HF3 HI hE h102 hNw HH HSP HK HN
              go_wp2_with fail
              exact HF4.out
end Go.Proofs.YtcogkhcfpgelhaaGreat

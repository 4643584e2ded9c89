import Derived.Test.YtcogkhcfpgelhabGreatVfX
namespace Go.Proofs.YtcogkhcfpgelhabGreat
open Go.RowKit
set_option linter.unusedVariables false
set_option maxRecDepth 100000
variable {fb mb : Nat} {ot : Option Nat} {L : Int → Lay} {h : Hx} {q : Int → Option Pn} {cnt : Nat} {T : List Ac} {w w' : World} {X : Nat → Prop}
set_option maxHeartbeats 4000000 in
theorem lookup_any (H : FsH fb mb ot L h q cnt T w) (d : Int) (hd64 : I64 d) (s : Tx) (hs : s.length ≤ 140737488351232) (hzero : ∀ p n, q d = some p → p.ents s = some n → n ≠ 0) : Calls Tryz.prog 21 #[.pointer (some ⟨fb, 0, none⟩), .int .i64 d, .string (mk s)] w fun e w' => e = .returned (.tuple #[.int .i64 (fndQ q d s).1, .int .i64 (fndQ q d s).2]) ∧ Nw w w' := by
  obtain ⟨P, hP⟩ : ∃ P : Ending → World → Prop, P = fun e w' => e = .returned (.tuple #[.int .i64 (fndQ q d s).1, .int .i64 (fndQ q d s).2]) ∧ Nw w w' := ⟨_, rfl⟩
  rw [← hP]
  have HC : Hid (Calls Tryz.prog 49 #[.pointer (some ⟨fb, 0, none⟩), .agg #[.int .i64 d, .string (mk s)]] w fun e w' => e = .returned (.tuple #[.int .i64 (fndQ q d s).1, .int .i64 (fndQ q d s).2]) ∧ Hid (P (.returned (.tuple #[.int .i64 (fndQ q d s).1, .int .i64 (fndQ q d s).2])) w')) := by
    refine Calls.mono (found_any H d hd64 s hs hzero) ?_
    rintro e w' ⟨rfl, hN⟩
    exact ⟨rfl, by show P _ _; rw [hP]; exact ⟨rfl, hN⟩⟩
  clear H hP hzero
  generalize (fndQ q d s).1 = x1 at *
  generalize (fndQ q d s).2 = x2 at *
  generalize mk s = ss at *
  go_enter Tryz.func21, Tryz.ntmps21
  go_wp2_with (first | (go_at_call 49; with_reducible refine HC.out.mono ?_; rintro e w2 ⟨rfl, HF⟩))
  exact HF.out
/-- What directory answers. -/
def dirE (q : Int → Option Pn) (d : Int) : Int := match q d with | none => 100 | some p => if p.kind = 1 then 0 else 101
def dirV (L : Int → Lay) (q : Int → Option Pn) (d : Int) : Value := if dirE q d = 0 then .pointer (some ⟨(L d).ib, 0, none⟩) else .pointer none
set_option maxHeartbeats 4000000 in
theorem directory_any (H : FsH fb mb ot L h q cnt T w) (d : Int) (hd64 : I64 d) : Calls Tryz.prog 48 #[.pointer (some ⟨fb, 0, none⟩), .int .i64 d] w fun e w' => e = .returned (.tuple #[dirV L q d, .int .i64 (dirE q d)]) ∧ w = w' := by
  obtain ⟨P, hP⟩ : ∃ P : Ending → World → Prop, P = fun e w' => e = .returned (.tuple #[dirV L q d, .int .i64 (dirE q d)]) ∧ w = w' := ⟨_, rfl⟩
  rw [← hP]
  have HF : Hid (P (.returned (.tuple #[dirV L q d, .int .i64 (dirE q d)])) w) := by rw [hP]; exact ⟨rfl, rfl⟩
  clear hP
  have c0 := H.cs.c0
  cases hq : q d with
  | none =>
    have hl := H.look_none hd64 hq
    have e : dirE q d = 100 := by unfold dirE; rw [hq]
    have e2 : dirV L q d = .pointer none := by unfold dirV; rw [e]; rfl
    rw [e, e2] at HF
    clear H e e2
    go_enter Tryz.func48, Tryz.ntmps48
    go_wp2_with fail
    exact HF.out
  | some p =>
    have hl := H.look_some hd64 hq
    obtain ⟨dv, ev, hC⟩ := H.anyC hq
    have x0 := hC.c0
    by_cases hk : p.kind = 1
    · have e : dirE q d = 0 := by unfold dirE; rw [hq]; exact if_pos hk
      have e2 : dirV L q d = .pointer (some ⟨(L d).ib, 0, none⟩) := by unfold dirV; rw [e]; rfl
      rw [e, e2] at HF
      rw [hk] at x0
      clear H e e2 hC
      generalize (L d).ib = ib at *
      go_enter Tryz.func48, Tryz.ntmps48
      go_wp2_with fail
      exact HF.out
    · have e : dirE q d = 101 := by unfold dirE; rw [hq]; exact if_neg hk
      have e2 : dirV L q d = .pointer none := by unfold dirV; rw [e]; rfl
      rw [e, e2] at HF
      have hkb : (p.kind != 1) = true := by simp [hk]
      clear H e e2 hC
      generalize (L d).ib = ib at *
      generalize p.kind = kd at *
      go_enter Tryz.func48, Tryz.ntmps48
      go_wp2_with fail
      exact HF.out
/-- What Up answers. -/
def upQ (q : Int → Option Pn) (d : Int) : Int × Int := match q d with | none => (0, 100) | some p => if p.kind = 1 then (p.up, 0) else (0, 101)
set_option maxHeartbeats 4000000 in
theorem up_any (H : FsH fb mb ot L h q cnt T w) (d : Int) (hd64 : I64 d) : Calls Tryz.prog 23 #[.pointer (some ⟨fb, 0, none⟩), .int .i64 d] w fun e w' => e = .returned (.tuple #[.int .i64 (upQ q d).1, .int .i64 (upQ q d).2]) ∧ w = w' := by
  obtain ⟨P, hP⟩ : ∃ P : Ending → World → Prop, P = fun e w' => e = .returned (.tuple #[.int .i64 (upQ q d).1, .int .i64 (upQ q d).2]) ∧ w = w' := ⟨_, rfl⟩
  rw [← hP]
  have HF : Hid (P (.returned (.tuple #[.int .i64 (upQ q d).1, .int .i64 (upQ q d).2])) w) := by rw [hP]; exact ⟨rfl, rfl⟩
  clear hP
  have CD := tHid (directory_any H d hd64)
  cases hq : q d with
  | none =>
    have e : dirE q d = 100 := by unfold dirE; rw [hq]
    have e2 : dirV L q d = .pointer none := by unfold dirV; rw [e]; rfl
    have e3 : upQ q d = (0, 100) := by unfold upQ; rw [hq]
    rw [e3] at HF
    rw [e, e2] at CD
    clear H e e2
    go_enter Tryz.func23, Tryz.ntmps23
    go_wp2_with (first | (go_at_call 48; with_reducible refine CD.out.mono ?_; rintro e w2 ⟨rfl, rfl⟩))
    exact HF.out
  | some p =>
    obtain ⟨dv, ev, hC⟩ := H.anyC hq
    have xa := hC.ca
    by_cases hk : p.kind = 1
    · have e : dirE q d = 0 := by unfold dirE; rw [hq]; exact if_pos hk
      have e2 : dirV L q d = .pointer (some ⟨(L d).ib, 0, none⟩) := by unfold dirV; rw [e]; rfl
      have e3 : upQ q d = (p.up, 0) := by unfold upQ; rw [hq]; exact if_pos hk
      rw [e3] at HF
      rw [e, e2] at CD
      clear H e e2 hC
      generalize (L d).ib = ib at *
      generalize p.up = up at *
      go_enter Tryz.func23, Tryz.ntmps23
      go_wp2_with (first | (go_at_call 48; with_reducible refine CD.out.mono ?_; rintro e w2 ⟨rfl, rfl⟩))
      exact HF.out
    · have e : dirE q d = 101 := by unfold dirE; rw [hq]; exact if_neg hk
      have e2 : dirV L q d = .pointer none := by unfold dirV; rw [e]; rfl
      have e3 : upQ q d = (0, 101) := by unfold upQ; rw [hq]; exact if_neg hk
      rw [e3] at HF
      rw [e, e2] at CD
      clear H e e2 hC
      go_enter Tryz.func23, Tryz.ntmps23
      go_wp2_with (first | (go_at_call 48; with_reducible refine CD.out.mono ?_; rintro e w2 ⟨rfl, rfl⟩))
      exact HF.out
/-- What Readlink answers. -/
def rdlQ (q : Int → Option Pn) (d : Int) : Tx × Int := match q d with | none => ([], 100) | some p => if p.kind = 3 then (p.tgt, 0) else ([], 106)
end Go.Proofs.YtcogkhcfpgelhabGreat

import Derived.Test.YtcogkhcfpgelhabGreatVfU
namespace Go.Proofs.YtcogkhcfpgelhabGreat
open Go.RowKit
set_option linter.unusedVariables false
set_option maxRecDepth 100000
variable {fb mb : Nat} {ot : Option Nat} {L : Int → Lay} {h : Hx} {q : Int → Option Pn} {cnt : Nat} {T : List Ac} {w w' : World} {X : Nat → Prop}
def sizN (p : Pn) : Nat := p.data.length + p.ne + p.tgt.length
set_option maxHeartbeats 4000000 in
theorem size_any (H : FsH fb mb ot L h q cnt T w) (n : Int) {p : Pn} (hn : q n = some p) (hs : p.data.length ≤ 1000000000000000 ∧ p.ne ≤ 1000000000000000 ∧ p.tgt.length ≤ 1000000000000000) : Calls Tryz.prog 50 #[.pointer (some ⟨(L n).ib, 0, none⟩)] w fun e w' => e = .returned (.int .i64 (sizN p)) ∧ ∃ m, w' = w.drewN m := by
  obtain ⟨P, hP⟩ : ∃ P : Ending → World → Prop, P = fun e w' => e = .returned (.int .i64 (sizN p)) ∧ ∃ m, w' = w.drewN m := ⟨_, rfl⟩
  rw [← hP]
  obtain ⟨dv, ev, k1, k2, k3, k4⟩ := (H.nd n p hn).blk
  obtain ⟨da, dc, rfl, _, _⟩ := k2.form
  have hC := ndc_of k1
  have x6 := hC.c6
  have x7 := hC.c7
  have x8 := hC.c8
  have hsz := mk_size p.tgt
  obtain ⟨S1, hS1⟩ : ∃ S1, S1 = p.data.length + p.ne := ⟨_, rfl⟩
  obtain ⟨S2, hS2⟩ : ∃ S2, S2 = S1 + p.tgt.length := ⟨_, rfl⟩
  have HF : Hid (∀ m, P (.returned (.int .i64 (S2 : Nat))) (w.drewN m)) := fun m => by rw [hP]; exact ⟨by unfold sizN; rw [hS2, hS1], m, rfl⟩
  have hlen : ∀ m ty, (Builtin.len_ #[89] ty #[ev]).run Tryz.prog (w.drewN m) = .ok (.int .i64 p.ne) (w.drewN m) := fun m ty => by
    by_cases hk : p.kind = 1
    · rw [(k3 hk).1]
      exact ((k3 hk).2.nw ((Fr.refl _ _).drewN m)).len meOk ty
    · rw [(k4 hk).1, (k4 hk).2.1]
      exact len_nil' meOk (w.drewN m) ty
  have z1 : (p.data.length : Int) + (p.ne : Int) = (S1 : Int) := by omega
  have z2 : (S1 : Int) + (p.tgt.length : Int) = (S2 : Int) := by omega
  have hw1 : IntKind.i64.wrap (S1 : Int) = (S1 : Int) := by rw [IntKind.wrap_i64]; omega
  have hw2 : IntKind.i64.wrap (S2 : Int) = (S2 : Int) := by rw [IntKind.wrap_i64]; omega
  rw [← hsz] at z2
  have HEV : Hid (∃ o, ev = .map o) := by
    by_cases hk : p.kind = 1
    · exact ⟨_, (k3 hk).1⟩
    · exact ⟨_, (k4 hk).1⟩
  clear H k1 k2 k3 k4 hP hC hS1 hS2 hsz
  obtain ⟨o, rfl⟩ := HEV.out
  generalize (L n).ib = ib at *
  generalize p.data.length = dl at *
  generalize mk p.tgt = tt at *
  generalize p.ne = ne at *
  go_enter Tryz.func50, Tryz.ntmps50
  go_upto_region 1 with fail
  go_quiet (fail)
  go_wp2_with fail
  exact HF.out _
end Go.Proofs.YtcogkhcfpgelhabGreat

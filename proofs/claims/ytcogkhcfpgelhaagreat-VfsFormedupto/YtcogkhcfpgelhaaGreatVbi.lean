import Derived.Test.YtcogkhcfpgelhaaGreatVau
namespace Go.Proofs.YtcogkhcfpgelhaaGreat
open Go.RowKit
set_option linter.unusedVariables false
set_option maxRecDepth 100000
variable {fb mb : Nat} {ot : Option Nat} {L : Int → Lay} {h : Hx} {q : Int → Option Pn} {cnt : Nat} {T : List Ac} {w w' : World} {X : Nat → Prop}
/-- What List answers. -/
def LsfO (q : Int → Option Pn) (d : Int) (es : List (Tx × Int)) (w : World) (e : Ending) (w' : World) : Prop :=
  (dirE q d ≠ 0 ∧ e = .returned (.tuple #[.slice none 0 0, .int .i64 (dirE q d)]) ∧ Nw w w') ∨
  (dirE q d = 0 ∧ ∃ og a c, e = .returned (.tuple #[.slice a es.length c, .int .i64 0]) ∧ OgR RNm og (.slice a es.length c) es w' ∧ Nw w w' ∧ ∀ g, og = some g → w.heap.size ≤ g)
set_option maxHeartbeats 4000000 in
theorem listF_any (hS : SortC) (H : FsH fb mb ot L h q cnt T w) (d : Int) (hd64 : I64 d) (es : List (Tx × Int)) (hE : ∀ p, q d = some p → p.kind = 1 → Ents ME p.ents p.ne es ∧ p.ne ≤ 1000000) (hs : es.Pairwise (fun x y => lt x.1 y.1 = true)) :
    Calls Tryz.prog 34 #[.pointer (some ⟨fb, 0, none⟩), .int .i64 d] w (LsfO q d es w) := by
  obtain ⟨P, hP⟩ : ∃ P : Ending → World → Prop, P = LsfO q d es w := ⟨_, rfl⟩
  rw [← hP]
  have CD := tHid (directory_any H d hd64)
  by_cases he : dirE q d = 0
  · have hq : ∃ p, q d = some p ∧ p.kind = 1 := by
      unfold dirE at he
      cases hq : q d with
      | none => rw [hq] at he; cases he
      | some p =>
        rw [hq] at he
        by_cases hk : p.kind = 1
        · exact ⟨p, rfl, hk⟩
        · simp [hk] at he
    obtain ⟨p, hq, hk⟩ := hq
    have e2 : dirV L q d = .pointer (some ⟨(L d).ib, 0, none⟩) := by unfold dirV; rw [if_pos he]
    rw [he, e2] at CD
    have HL : Hid (Calls Tryz.prog 69 #[.pointer (some ⟨(L d).ib, 0, none⟩)] w fun e w' => ∃ a c, e = .returned (.slice a es.length c) ∧ Hid (P (.returned (.tuple #[.slice a es.length c, .int .i64 0])) w')) := by
      refine Calls.mono (list_dir hS H hq hk es (hE p hq hk).1 hs (hE p hq hk).2) ?_
      rintro e w' ⟨og, a, c, rfl, o1, o2, o3⟩
      refine ⟨a, c, rfl, ?_⟩
      show P _ _
      rw [hP]
      exact .inr ⟨he, og, a, c, rfl, o1, o2, o3⟩
    clear H hP hE hs hS hq hk he e2
    generalize (L d).ib = ib at *
    generalize es.length = n at *
    go_enter Tryz.func34, Tryz.ntmps34
    go_wp2_with (first
      | (go_at_call 77; with_reducible refine CD.out.mono ?_; rintro e w2 ⟨rfl, rfl⟩)
      | (go_at_call 69; with_reducible refine HL.out.mono ?_; rintro e w3 ⟨a, c, rfl, HF⟩))
    exact HF.out
  · have HF : Hid (P (.returned (.tuple #[.slice none 0 0, .int .i64 (dirE q d)])) w) := by rw [hP]; exact .inl ⟨he, rfl, Fr.refl _ _⟩
    have e2 : dirV L q d = .pointer none := by unfold dirV; rw [if_neg he]
    rw [e2] at CD
    have heb : (dirE q d != 0) = true := by simp [he]
    clear H hP hE hs hS e2
    generalize dirE q d = de at *
    go_enter Tryz.func34, Tryz.ntmps34
    go_wp2_with (first
      | (go_at_call 77; with_reducible refine CD.out.mono ?_; rintro e w2 ⟨rfl, rfl⟩))
    exact HF.out
end Go.Proofs.YtcogkhcfpgelhaaGreat

import Derived.Test.YtffhpoilifgcdaaDoorNlI
import Derived.Test.YtffhpoilifgcdaaDoorLzZ
namespace Go.Proofs.YtffhpoilifgcdaaDoor
open Go.RowKit
set_option linter.unusedVariables false
/-! ### Join -/
/-- Bytes that a call made. -/
abbrev NewB (w : World) (v : Value) (l : List By) (V : World) : Prop := Mine (fun k => k < w.heap.size) v l V
def JnA (w : World) (b : List By) (l : List Rg) (e : Ending) (V : World) : Prop := ∃ a m c, e = .returned (.tuple #[.slice a m c, .int .i64 (if vld l b.length then 0 else 1)]) ∧ Hid (Nw w V ∧ NewB w (.slice a m c) (if vld l b.length then jn b l else []) V)
theorem JnA.bad {w : World} {b : List By} {l : List Rg} {V : World} (h : vld l b.length = false) (hN : Nw w V) : JnA w b l (.returned (.tuple #[.slice none 0 0, .int .i64 1])) V := by
  refine ⟨none, 0, 0, by rw [h]; rfl, hN, ?_⟩
  rw [h]; exact Mine.nil _ _
theorem JnA.ok {w : World} {b : List By} {l : List Rg} {V : World} (h : vld l b.length = true) (hN : Nw w V) (g c : Nat) (hg : w.heap.size ≤ g) (m : Nat) (hO : Ow g (.slice (some ⟨g, 0, none⟩) m c) (jn b l) V) : JnA w b l (.returned (.tuple #[.slice (some ⟨g, 0, none⟩) m c, .int .i64 0])) V := by
  refine ⟨some ⟨g, 0, none⟩, m, c, by rw [h]; rfl, hN, ?_⟩
  rw [h]; exact .inr ⟨g, by omega, hO⟩
/-- One piece more behind bytes of one's own. -/
theorem app_own (V : World) (g : Nat) (m c : Nat) (acc : List By) (hO : Ow g (.slice (some ⟨g, 0, none⟩) m c) acc V) (x : Value) (p : List By) (hx : Sl (fun _ => False) x p V) (hb : acc.length + p.length ≤ 200000000000000) :
    ∃ g' m' c' W, Hid (∀ ty, (Builtin.append_ #[23, 23] ty #[.slice (some ⟨g, 0, none⟩) m c, x]).run Tryd.prog V = .ok (.slice (some ⟨g', 0, none⟩) m' c') W) ∧ Ow g' (.slice (some ⟨g', 0, none⟩) m' c') (acc ++ p) W ∧ Fr (fun k => k = g) V W ∧ (g' = g ∨ V.heap.size ≤ g') := by
  obtain ⟨v', g', W, k1, k2, k3, k4⟩ := app_any V g _ acc hO x p hx hb
  obtain ⟨xs, rfl, _⟩ := id k2
  exact ⟨g', _, _, W, k1, k2, k3, k4⟩
/-- A part of a slice. -/
theorem Sl.part {X : Nat → Prop} {g o n c : Nat} {l : List By} {w : World} (h : Sl X (.slice (some ⟨g, o, none⟩) n c) l w) (F T : Nat) (h1 : F ≤ T) (h2 : T ≤ n) (hc : F < c) : Sl X (.slice (some ⟨g, o + F, none⟩) (T - F) (c - F)) ((l.drop F).take (T - F)) w := by
  rcases h with ⟨a, e, rfl⟩ | ⟨g', hg, o', c', e, q1, q2, q3⟩
  · injection e with e1 e2 e3; omega
  · injection e with e1 e2 e3
    injection e1 with e1
    injection e1 with e1 e4
    subst e1 e4
    refine .inr ⟨g, hg, o + F, c - F, ?_, ?_, by omega, (q3.drop F).take (T - F)⟩
    · rw [List.length_take, List.length_drop]
      congr 1
      omega
    · rw [List.length_take, List.length_drop]; omega
theorem pc_none (b : List By) (x : Rg) (F T : Nat) (h1 : x.1 = F) (h2 : x.2 = T) (h : T ≤ F) : pc b x = [] := by
  unfold pc
  rw [h1, h2, Int.toNat_natCast, Int.toNat_natCast, show T - F = 0 by omega, List.take_zero]
theorem pc_eq (b : List By) (x : Rg) (F T : Nat) (h1 : x.1 = F) (h2 : x.2 = T) : pc b x = (b.drop F).take (T - F) := by
  unfold pc
  rw [h1, h2, Int.toNat_natCast, Int.toNat_natCast]
end Go.Proofs.YtffhpoilifgcdaaDoor

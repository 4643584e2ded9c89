import Derived.Test.YtkpkiajehclbhaaCpD
namespace Go.Proofs.Ytkpkiajehclbhaa
open Go.RowKit
set_option linter.unusedVariables false
theorem Cod.some {ls : List Nat} (h : Cod ls) : 0 < ls.length := by
  cases ls with
  | nil => have := h.pos; simp [room, nm, ct] at this
  | cons x r => simp
/-- Where the lengths lie. -/
theorem lens_at (w : World) (a0 : Option Addr) (n c0 : Nat) (ls : List Nat) (h0 : SlR RI (fun _ => False) (.slice a0 n c0) (toI ls) w) (hl : 0 < ls.length) : ∃ gl ol, a0 = some ⟨gl, ol, none⟩ ∧ ∀ V i, Nw w V → i < ls.length → V.cell? ⟨gl, ol + i, none⟩ = some (.int .i64 ((ls.getD i 0 : Nat) : Int)) := by
  obtain ⟨g, o, e, _, _⟩ := ri_at h0 0 _ (toI_at ls 0 hl)
  refine ⟨g, o, e, fun V i hV hi => ?_⟩
  obtain ⟨g', o', e', _, hc⟩ := ri_at (h0.nw hV) i _ (toI_at ls i hi)
  rw [e] at e'
  injection e' with e'
  injection e' with e1 e2
  subst e1 e2
  exact hc
theorem wordA_some (ls : List Nat) (z : Int) : (∃ q1 q2 q3, wordA ls z = ((q1, q2), q3) ∧ q3 ≠ 0 ∧ q3 ≤ 52) ∨ ∃ i : Nat, z = i ∧ i < ls.length ∧ ls.getD i 0 ≠ 0 ∧ wordA ls z = ((((wdP ls i).1, ls.getD i 0)), 0) := by
  unfold wordA
  by_cases h1 : z < 0 ∨ (ls.length : Int) ≤ z
  · rw [if_pos h1]; exact .inl ⟨0, 0, 1, rfl, by decide, by decide⟩
  · rw [if_neg h1]
    by_cases h2 : ls.getD z.toNat 0 = 0
    · rw [if_pos h2]; exact .inl ⟨0, 0, 52, rfl, by decide, by decide⟩
    · rw [if_neg h2]
      refine .inr ⟨z.toNat, by omega, by omega, h2, ?_⟩
      unfold wdP
      rw [if_neg h2]
end Go.Proofs.Ytkpkiajehclbhaa

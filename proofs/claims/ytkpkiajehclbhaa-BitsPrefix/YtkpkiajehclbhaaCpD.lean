import Derived.Test.YtkpkiajehclbhaaCpC
namespace Go.Proofs.Ytkpkiajehclbhaa
open Go.RowKit
set_option linter.unusedVariables false
set_option maxHeartbeats 16000000 in
set_option maxRecDepth 100000 in
theorem px_no (w : World) (v0 : Value) (zs : List Int) (h0 : SlR RI (fun _ => False) v0 zs w) (hz : zs.length ≤ 17592186043904) (v1 : Value) (hn : ¬ IsCode zs) : Calls Try.prog 8 #[v0, v1] w fun e w' => e = .returned (.bool true) ∧ Nw w w' := by
  obtain ⟨P, hP⟩ : ∃ P : Ending → World → Prop, P = fun e w' => e = .returned (.bool true) ∧ Nw w w' := ⟨_, rfl⟩
  rw [← hP]
  obtain ⟨g, c, W, HAP, hO, hN, hg⟩ := ints_copy w v0 zs h0 hz
  obtain ⟨a0, c0, rfl, _, _, _⟩ := h0.form
  have HC : Hid (Calls Try.prog 32 #[.slice (some ⟨g, 0, none⟩) zs.length c] W fun e w1 => e = .returned (.tuple #[.pointer none, .int .i64 51]) ∧ Hid (Calls Try.prog 32 #[.slice (some ⟨w1.heap.size, 0, none⟩) 1 1] (w1.alloc (.cells #[.int .i64 1] 3)) fun e w2 => ∃ cb, e = .returned (.tuple #[.pointer (some ⟨cb, 0, none⟩), .int .i64 0]) ∧ Hid (P (.returned (.bool true)) w2))) := by
    refine (newCode_no W _ zs hO.low hz hn).mono ?_
    rintro e w1 ⟨rfl, h1⟩
    refine ⟨rfl, (newCode_lit w1 [1] cod_1 _ (by simp [flatR, RI, toI]) 1 rfl).mono ?_⟩
    rintro e w2 ⟨cb, gw, gs, ws, ss, rfl, _, h2⟩
    refine ⟨cb, rfl, ?_⟩
    show P _ _
    rw [hP]; exact ⟨rfl, hN.trans (h1.trans h2)⟩
  clear hP hO h0
  generalize zs.length = L at *
  go_enter Try.func8, Try.ntmps8
  go_wp2_with (first
    | (at_builtin; refine Lib.wpList_append_run _ rfl _ _ 54 54 rfl (.slice (some ⟨w.heap.size, 0, none⟩) 0 0) (.slice a0 L c0) (by simp [Act.eval]) (by simp [Act.eval]) _ _ (HAP.out _) ?_)
    | (go_at_call 32; (with_reducible refine HC.out.mono ?_); rintro e w1 ⟨rfl, H1⟩)
    | (go_at_call 32; (with_reducible refine H1.out.mono ?_); rintro e w2 ⟨cb, rfl, H2⟩))
  exact H2.out
end Go.Proofs.Ytkpkiajehclbhaa

import Derived.Test.YtpnacppmdlnjlaaPaB
namespace Go.Proofs.Ytpnacppmdlnjlaa
open Go.RowKit
set_option linter.unusedVariables false
set_option maxHeartbeats 8000000 in
set_option maxRecDepth 100000 in
theorem lend_any {D pb : Nat} {s : Ls} {K : Nat → Prop} {w : World} (h : LI D pb s K w) (hK : ∀ k, K k → k < w.heap.size) (hf : s.f = 1) (hl : s.l.length ≤ 100000000) :
    Calls Try.prog 78 #[.pointer (some ⟨pb, 0, none⟩)] w fun e w' => (∃ r, e = .returned r) ∧ LI D pb (ls.fin s) K w' ∧ Fr (fun k => ¬ K k) w w' := by
  obtain ⟨a, c, an, nn, cn, v', W, u, q0, q1, q2, q3, q4, q5, HAP, ⟨a', l', c', hv'⟩, HF⟩ := end_step h hK hf hl (V := w.drew) (Fr.refl _ _).drew
  subst hv'
  have hlt : ¬ pb = w.heap.size := by have := h.lt; omega
  clear h hK
  have hA0 : (w.alloc (.cells #[.slice an nn cn, .int .i64 s.now.b, .int .i64 s.now.n] 36)).cell? ⟨pb, 0, none⟩ = some (.slice a s.l.length c) := Nw.cell ((Fr.refl _ _).alloc _) q0
  generalize s.l.length = ln at *
  generalize (s.now.b : Int) = zb at *
  generalize (s.now.n : Int) = zn at *
  go_enter Try.func78, Try.ntmps78
  go_wp2_with fail
  go_region_law (first
    | (refine step_append_seqs rfl _ _ rfl (.slice a ln c) (.slice (some ⟨w.heap.size, 0, none⟩) 1 1) (by first | rfl | simp [Act.eval, Act.put]) (by first | rfl | simp [Act.eval, Act.put]) _ _ (HAP.out) ?_))
  all_goals go_wp2_with fail
  all_goals go_end0
  all_goals exact ⟨⟨_, rfl⟩, HF.out.1, HF.out.2⟩
end Go.Proofs.Ytpnacppmdlnjlaa

import Derived.Test.YtpnacppmdlnjlaaPaD
namespace Go.Proofs.Ytpnacppmdlnjlaa
open Go.RowKit
set_option linter.unusedVariables false
/-- A fresh one at hand. -/
theorem LI.fresh {D pb : Nat} {s : Ls} {K : Nat → Prop} {w w1 : World} (h : LI D pb s K w) (hK : ∀ k, K k → k < w.heap.size) (hN : Nw w w1) (gn n c : Nat) (p : List By) (hg : w.heap.size ≤ gn) (hO : Ow gn (.slice (some ⟨gn, 0, none⟩) n c) p w1) :
    LI D pb ⟨s.l, ⟨p, 0, 0⟩, 1⟩ K (((w1.setCell ⟨pb, 1, none⟩ (.slice (some ⟨gn, 0, none⟩) n c)).setCell ⟨pb, 2, none⟩ (.int .i64 0)).setCell ⟨pb, 3, none⟩ (.int .i64 0)) ∧ Fr (fun k => ¬ K k) w (((w1.setCell ⟨pb, 1, none⟩ (.slice (some ⟨gn, 0, none⟩) n c)).setCell ⟨pb, 2, none⟩ (.int .i64 0)).setCell ⟨pb, 3, none⟩ (.int .i64 0)) := by
  have h1 : LI D pb s K w1 := h.keep' hN (fun _ h => h.elim) (fun k hk => .inl hk)
  obtain ⟨v, gs, qs, k1, k2, k3⟩ := h.list
  have hlt := h.lt
  have f : Fr (fun k => k = pb) w1 (((w1.setCell ⟨pb, 1, none⟩ (.slice (some ⟨gn, 0, none⟩) n c)).setCell ⟨pb, 2, none⟩ (.int .i64 0)).setCell ⟨pb, 3, none⟩ (.int .i64 0)) := (((Fr.refl (fun k => k = pb) w1).setCell ⟨pb, 1, none⟩ _ (.inl rfl)).setCell ⟨pb, 2, none⟩ _ (.inl rfl)).setCell ⟨pb, 3, none⟩ _ (.inl rfl)
  obtain ⟨u1, c1, f1⟩ := h1.cells 1 (by decide)
  obtain ⟨u2, c2, f2⟩ := h1.cells 2 (by decide)
  obtain ⟨u3, c3, f3⟩ := h1.cells 3 (by decide)
  obtain ⟨u0, c0, f0⟩ := h1.cells 0 (by decide)
  have ne : ∀ {W : World} {i j : Nat} {x : Value}, i ≠ j → (W.setCell ⟨pb, i, none⟩ x).cell? ⟨pb, j, none⟩ = W.cell? ⟨pb, j, none⟩ := fun hij => World.cell?_setCell_other _ _ _ _ (by intro e; injection e with _ e; omega)
  have d1 : (((w1.setCell ⟨pb, 1, none⟩ (.slice (some ⟨gn, 0, none⟩) n c)).setCell ⟨pb, 2, none⟩ (.int .i64 0)).setCell ⟨pb, 3, none⟩ (.int .i64 0)).cell? ⟨pb, 1, none⟩ = some (.slice (some ⟨gn, 0, none⟩) n c) := by
    rw [ne (by decide), ne (by decide)]; exact World.cell?_setCell_same _ _ _ c1
  have d2 : (((w1.setCell ⟨pb, 1, none⟩ (.slice (some ⟨gn, 0, none⟩) n c)).setCell ⟨pb, 2, none⟩ (.int .i64 0)).setCell ⟨pb, 3, none⟩ (.int .i64 0)).cell? ⟨pb, 2, none⟩ = some (.int .i64 0) := by
    rw [ne (by decide)]; exact World.cell?_setCell_same _ _ _ (by rw [ne (by decide)]; exact c2)
  have d3 : (((w1.setCell ⟨pb, 1, none⟩ (.slice (some ⟨gn, 0, none⟩) n c)).setCell ⟨pb, 2, none⟩ (.int .i64 0)).setCell ⟨pb, 3, none⟩ (.int .i64 0)).cell? ⟨pb, 3, none⟩ = some (.int .i64 0) :=
    World.cell?_setCell_same _ _ _ (by rw [ne (by decide), ne (by decide)]; exact c3)
  have d0 : (((w1.setCell ⟨pb, 1, none⟩ (.slice (some ⟨gn, 0, none⟩) n c)).setCell ⟨pb, 2, none⟩ (.int .i64 0)).setCell ⟨pb, 3, none⟩ (.int .i64 0)).cell? ⟨pb, 0, none⟩ = some v := by
    rw [ne (by decide), ne (by decide), ne (by decide)]; exact hN.cell k1
  have hgn : gn ≠ pb := by omega
  refine ⟨⟨⟨v, gs, qs, d0, (k2.nw hN).kept f (fun g hg => .inl (.inr hg)), fun _ => ⟨gn, _, n, c, d1, d2, d3, hO.kept f hgn, fun hk => by have := hK gn hk; omega, hgn, fun hm => by have := (k2.at gn hm).2; omega, fun g hg => ?_⟩⟩, fun i hi => ?_, h.npb, h.dpb⟩, hN.any.trans (f.mono (fun k hk => .inl (by subst hk; exact h.npb)))⟩
  · rcases k2.row with ⟨e1, _⟩ | ⟨g1, _, _, e3⟩
    · obtain ⟨xs, e, _⟩ := hg
      rw [e1] at e; cases e
    · rw [OwS.uniq hg e3]; have := e3.lt; omega
  · have hfr : ∀ i, (((w1.setCell ⟨pb, 1, none⟩ (.slice (some ⟨gn, 0, none⟩) n c)).setCell ⟨pb, 2, none⟩ (.int .i64 0)).setCell ⟨pb, 3, none⟩ (.int .i64 0)).frozen? ⟨pb, i, none⟩ = w1.frozen? ⟨pb, i, none⟩ := fun i => by
      rw [World.frozen?_setCell, World.frozen?_setCell, World.frozen?_setCell]
    obtain rfl | rfl | rfl | rfl : i = 0 ∨ i = 1 ∨ i = 2 ∨ i = 3 := by omega
    · exact ⟨_, d0, (hfr 0).trans f0⟩
    · exact ⟨_, d1, (hfr 1).trans f1⟩
    · exact ⟨_, d2, (hfr 2).trans f2⟩
    · exact ⟨_, d3, (hfr 3).trans f3⟩
set_option maxHeartbeats 8000000 in
set_option maxRecDepth 100000 in
theorem lplain_any {D pb : Nat} {s : Ls} {K : Nat → Prop} {w : World} {u : Value} {p : List By} (h : LI D pb s K w) (hK : ∀ k, K k → k < w.heap.size) (hu : ∃ g, g < w.heap.size ∧ SlB g u p w) (hp : p.length ≤ 140737488351232) :
    Calls Try.prog 80 #[.pointer (some ⟨pb, 0, none⟩), u] w fun e w' => (∃ r, e = .returned r) ∧ LI D pb (ls.plain s p) K w' ∧ Fr (fun k => ¬ K k) w w' := by
  obtain ⟨g, hg, hu⟩ := hu
  have HC : Hid (Calls Try.prog 83 #[u] w fun e w1 => ∃ g' c', e = .returned (.slice (some ⟨g', 0, none⟩) p.length c') ∧ (∃ u1 u2 u3, w1.cell? ⟨pb, 1, none⟩ = some u1 ∧ w1.cell? ⟨pb, 2, none⟩ = some u2 ∧ w1.cell? ⟨pb, 3, none⟩ = some u3 ∧ w1.frozen? ⟨pb, 1, none⟩ = false ∧ w1.frozen? ⟨pb, 2, none⟩ = false ∧ w1.frozen? ⟨pb, 3, none⟩ = false) ∧ Hid (LI D pb (ls.plain s p) K (((w1.setCell ⟨pb, 1, none⟩ (.slice (some ⟨g', 0, none⟩) p.length c')).setCell ⟨pb, 2, none⟩ (.int .i64 0)).setCell ⟨pb, 3, none⟩ (.int .i64 0)) ∧ Fr (fun k => ¬ K k) w (((w1.setCell ⟨pb, 1, none⟩ (.slice (some ⟨g', 0, none⟩) p.length c')).setCell ⟨pb, 2, none⟩ (.int .i64 0)).setCell ⟨pb, 3, none⟩ (.int .i64 0)))) := by
    show Calls _ _ _ _ _
    refine (bclone_any w g u p hu hg hp).mono ?_
    rintro e w1 ⟨g', c', rfl, hg', hO, hN⟩
    have h1 : LI D pb s K w1 := h.keep' hN (fun _ h => h.elim) (fun k hk => .inl hk)
    obtain ⟨u1, c1, f1⟩ := h1.cells 1 (by decide)
    obtain ⟨u2, c2, f2⟩ := h1.cells 2 (by decide)
    obtain ⟨u3, c3, f3⟩ := h1.cells 3 (by decide)
    exact ⟨g', c', rfl, ⟨u1, u2, u3, c1, c2, c3, f1, f2, f3⟩, h.fresh hK hN g' _ c' p hg' hO⟩
  clear h hK hu
  generalize p.length = pn at *
  go_enter Try.func80, Try.ntmps80
  go_wp2_with (first | (go_at_call 83; with_reducible refine (HC.out).mono ?_; rintro e w1 ⟨g', c', rfl, ⟨u1, u2, u3, c1, c2, c3, f1, f2, f3⟩, HR⟩))
  go_end0
  exact ⟨⟨_, rfl⟩, HR.out.1, HR.out.2⟩
end Go.Proofs.Ytpnacppmdlnjlaa

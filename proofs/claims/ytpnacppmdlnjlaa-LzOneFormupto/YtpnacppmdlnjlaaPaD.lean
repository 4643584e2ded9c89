import Derived.Test.YtpnacppmdlnjlaaPaC
namespace Go.Proofs.Ytpnacppmdlnjlaa
open Go.RowKit
set_option linter.unusedVariables false
theorem LI.cellsAt {D pb : Nat} {s : Ls} {K : Nat → Prop} {w : World} (h : LI D pb s K w) (j : Nat) (v : Value) : (∀ i, i < 4 → ∃ u, (w.setCell ⟨pb, j, none⟩ v).cell? ⟨pb, i, none⟩ = some u ∧ (w.setCell ⟨pb, j, none⟩ v).frozen? ⟨pb, i, none⟩ = false) := by
  intro i hi
  obtain ⟨u, e1, e2⟩ := h.cells i hi
  by_cases hj : j = i
  · subst hj
    exact ⟨v, World.cell?_setCell_same _ _ _ e1, by rw [World.frozen?_setCell]; exact e2⟩
  · exact ⟨u, by rw [World.cell?_setCell_other _ _ _ _ (by intro e; injection e with _ e; omega)]; exact e1, by rw [World.frozen?_setCell]; exact e2⟩
/-- Back and Length of what is at hand. -/
theorem LI.setNow {D pb : Nat} {s : Ls} {K : Nat → Prop} {w : World} (h : LI D pb s K w) (hf : s.f = 1) (b n : Nat) :
    LI D pb ⟨s.l, ⟨s.now.p, b, n⟩, 1⟩ K ((w.setCell ⟨pb, 2, none⟩ (.int .i64 b)).setCell ⟨pb, 3, none⟩ (.int .i64 n)) ∧ Fr (fun k => ¬ K k) w ((w.setCell ⟨pb, 2, none⟩ (.int .i64 b)).setCell ⟨pb, 3, none⟩ (.int .i64 n)) := by
  obtain ⟨v, gs, qs, h1, h2, h3⟩ := h.list
  obtain ⟨gn, a, nn, c, k1, k2, k3, k4, k5, k6, k7, k8⟩ := h3 hf
  have f : Fr (fun k => k = pb) w ((w.setCell ⟨pb, 2, none⟩ (.int .i64 b)).setCell ⟨pb, 3, none⟩ (.int .i64 n)) := ((Fr.refl (fun k => k = pb) w).setCell ⟨pb, 2, none⟩ (.int .i64 b) (.inl rfl)).setCell ⟨pb, 3, none⟩ (.int .i64 n) (.inl rfl)
  have ne : ∀ i, i ≠ 2 → i ≠ 3 → ((w.setCell ⟨pb, 2, none⟩ (.int .i64 b)).setCell ⟨pb, 3, none⟩ (.int .i64 n)).cell? ⟨pb, i, none⟩ = w.cell? ⟨pb, i, none⟩ := fun i h2 h3 => by
    rw [World.cell?_setCell_other _ _ _ _ (by intro e; injection e with _ e; omega), World.cell?_setCell_other _ _ _ _ (by intro e; injection e with _ e; omega)]
  have e3 : (w.setCell ⟨pb, 2, none⟩ (.int .i64 b)).cell? ⟨pb, 3, none⟩ = some (.int .i64 s.now.n) := by
    rw [World.cell?_setCell_other _ _ _ _ (by intro e; injection e with _ e; omega)]; exact k3
  refine ⟨⟨⟨v, gs, qs, (ne 0 (by decide) (by decide)).trans h1, h2.kept f (fun g hg => .inl (.inr hg)), fun _ => ⟨gn, a, nn, c, (ne 1 (by decide) (by decide)).trans k1, ?_, World.cell?_setCell_same _ _ _ e3, k4.kept f k6, k5, k6, k7, fun g hg => ?_⟩⟩, fun i hi => ?_, h.npb, h.dpb⟩, f.mono (fun k hk => .inl (by subst hk; exact h.npb))⟩
  · rw [World.cell?_setCell_other _ _ _ _ (by intro e; injection e with _ e; omega)]
    exact World.cell?_setCell_same _ _ _ k2
  · rcases h2.row with ⟨e1, _⟩ | ⟨g1, _, _, e3⟩
    · obtain ⟨xs, e, _⟩ := hg
      rw [e1] at e; cases e
    · rw [OwS.uniq hg e3]; exact k8 g1 e3
  · obtain ⟨u, e1, e2⟩ := h.cellsAt 2 (.int .i64 b) i hi
    by_cases hj : i = 3
    · subst hj
      exact ⟨_, World.cell?_setCell_same _ _ _ e1, by rw [World.frozen?_setCell]; exact e2⟩
    · exact ⟨u, by rw [World.cell?_setCell_other _ _ _ _ (by intro e; injection e with _ e; omega)]; exact e1, by rw [World.frozen?_setCell]; exact e2⟩
set_option maxHeartbeats 8000000 in
set_option maxRecDepth 100000 in
theorem lmatch_any {D pb : Nat} {s : Ls} {K : Nat → Prop} {w : World} (b n : Nat) (h : LI D pb s K w) (hK : ∀ k, K k → k < w.heap.size) (hf : s.f = 1) (hl : s.l.length ≤ 100000000) :
    Calls Try.prog 79 #[.pointer (some ⟨pb, 0, none⟩), .int .i64 b, .int .i64 n] w fun e w' => (∃ r, e = .returned r) ∧ LI D pb (ls.mat s b n) K w' ∧ Fr (fun k => ¬ K k) w w' := by
  obtain ⟨hS, hF⟩ := h.setNow hf b n
  have HE : Hid (Calls Try.prog 78 #[.pointer (some ⟨pb, 0, none⟩)] ((w.setCell ⟨pb, 2, none⟩ (.int .i64 b)).setCell ⟨pb, 3, none⟩ (.int .i64 n)) fun e w' => (∃ r, e = .returned r) ∧ Hid (LI D pb (ls.mat s b n) K w' ∧ Fr (fun k => ¬ K k) w w')) := by
    show Calls _ _ _ _ _
    refine (lend_any hS (fun k hk => Nat.lt_of_lt_of_le (hK k hk) hF.size) rfl hl).mono ?_
    rintro e w' ⟨hr, h1, h2⟩
    exact ⟨hr, h1, hF.trans h2⟩
  obtain ⟨u2, c2, f2⟩ := h.cells 2 (by decide)
  obtain ⟨u3, c3, f3⟩ := h.cells 3 (by decide)
  clear h hK hS hF
  go_enter Try.func79, Try.ntmps79
  go_wp2_with (first | (go_at_call 78; with_reducible refine (HE.out).mono ?_; rintro e w1 ⟨⟨r1, rfl⟩, HR⟩))
  go_end0
  exact ⟨⟨_, rfl⟩, HR.out.1, HR.out.2⟩
set_option maxHeartbeats 8000000 in
set_option maxRecDepth 100000 in
theorem bclone_any (w : World) (g : Nat) (u : Value) (p : List By) (hu : SlB g u p w) (hg : g < w.heap.size) (hp : p.length ≤ 140737488351232) :
    Calls Try.prog 83 #[u] w fun e w' => ∃ g' c', e = .returned (.slice (some ⟨g', 0, none⟩) p.length c') ∧ w.heap.size ≤ g' ∧ Ow g' (.slice (some ⟨g', 0, none⟩) p.length c') p w' ∧ Nw w w' := by
  obtain ⟨P, hP⟩ : ∃ P : Ending → World → Prop, P = fun e w' => ∃ g' c', e = .returned (.slice (some ⟨g', 0, none⟩) p.length c') ∧ w.heap.size ≤ g' ∧ Ow g' (.slice (some ⟨g', 0, none⟩) p.length c') p w' ∧ Nw w w' := ⟨_, rfl⟩
  rw [← hP]
  have HP : Hid (P = fun e w' => ∃ g' c', e = .returned (.slice (some ⟨g', 0, none⟩) p.length c') ∧ w.heap.size ≤ g' ∧ Ow g' (.slice (some ⟨g', 0, none⟩) p.length c') p w' ∧ Nw w w') := hP
  clear hP
  have hsl : Sl (fun _ => False) u p (w.alloc (.cells #[] 5)) := Sl.nw (.inr ⟨g, fun h => h, hu⟩) ((Fr.refl _ _).alloc _)
  obtain ⟨v, g', W, hap, hO, hF, hg'⟩ := app_any (w.alloc (.cells #[] 5)) w.heap.size _ [] (Ow.empty w) u p hsl (by simp; omega)
  rw [List.nil_append] at hO
  have hO' := hO
  obtain ⟨xs, rfl, _⟩ := hO'
  have HF : Hid (P (.returned (.slice (some ⟨g', 0, none⟩) p.length xs.length)) W) := by
    show P _ _
    rw [HP.out]
    refine ⟨g', _, rfl, ?_, hO, Fr.then ((Fr.refl _ _).alloc _) hF (fun i hi => .inr (by omega))⟩
    rcases hg' with h | h
    · omega
    · simp at h; omega
  have HAP : Hid (∀ ty, (Builtin.append_ #[22, 22] ty #[.slice (some ⟨w.heap.size, 0, none⟩) 0 0, u]).run Try.prog (w.alloc (.cells #[] 5)) = .ok (.slice (some ⟨g', 0, none⟩) p.length xs.length) W) := hap
  obtain ⟨o, c, rfl, _, _, _⟩ := hu
  clear hap hO hF hg' HP hsl
  generalize p.length = pn at *
  generalize xs.length = xn at *
  have hnil : ∀ w, (binOp BinOp.eql 22 (.slice (some ⟨g, o, none⟩) pn c) (.slice none 0 0)).run Try.prog w = .ok (.bool false) w := fun _ => by kernel_rfl
  go_enter Try.func83, Try.ntmps83
  go_wp2_with (first
    | (at_builtin; refine Lib.wpList_append_run _ rfl _ _ 22 22 rfl (.slice (some ⟨w.heap.size, 0, none⟩) 0 0) (.slice (some ⟨g, o, none⟩) pn c) (by simp [Act.eval]) (by simp [Act.eval]) _ _ (HAP.out _) ?_))
  exact HF.out
end Go.Proofs.Ytpnacppmdlnjlaa

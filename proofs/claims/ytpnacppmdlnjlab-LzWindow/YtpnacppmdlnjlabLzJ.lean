import Derived.Test.YtpnacppmdlnjlabLzE
import Derived.Lib.AppendZeros
import Derived.Lib.MinMax
import Derived.Deep.RegionWith
namespace Go.Proofs.Ytpnacppmdlnjlab
open Go.RowKit
set_option linter.unusedVariables false
theorem step_append_run {ops : Array Oper} {o : Oper} {a : Act} {w : World} {K : Act → World → Prop} {Q : Exit → Act → World → Prop} {E : Prop} (hg : o.guard = none) (s x : Operand) (hop : o.op = Op.call { callee := Callee.builtin Builtin.append, args := #[s, x], argTypes := #[22, 22] })
    (vs vx : Value) (hs : a.eval s = vs) (hx : a.eval x = vx) (v' : Value) (W : World) (hrun : ∀ ty, (Builtin.append_ #[22, 22] ty #[vs, vx]).run Try.prog w = .ok v' W) (hK : K (a.put o.dst v') W) :
    if Region.wanted o (yielded ops a.tmps) = true then Oper.wp Try.prog o a w K Q else E := by
  have hw : Region.wanted o (yielded ops a.tmps) = true := by simp [Region.wanted, hg]
  rw [if_pos hw]
  unfold Oper.wp
  simp [execOp, hop, resolve, invoke, builtin, hs, hx, hrun, Result.andThen]
  exact hK
/-- A player that has put s together; the blocks of K are left alone. -/
structure PI (D pb : Nat) (va : Value) (ahead : List By) (most : Nat) (s : List By) (K : Nat → Prop) (w : World) : Prop where
  ca : w.cell? ⟨pb, 0, none⟩ = some va
  cm : w.cell? ⟨pb, 2, none⟩ = some (.int .i64 most)
  out : ∃ vo, w.cell? ⟨pb, 1, none⟩ = some vo ∧ Mine (fun k => K k ∨ k = pb) vo s w
  fz : w.frozen? ⟨pb, 1, none⟩ = false
  npb : ¬ K pb
  dpb : D ≤ pb
  ha : Sl (fun k => D ≤ k) va ahead w
  le : s.length ≤ most
  lm : most ≤ 4194304
  la : ahead.length ≤ 140737488351232
theorem PI.lt {D pb : Nat} {va : Value} {ahead : List By} {most : Nat} {s : List By} {K : Nat → Prop} {w : World} (h : PI D pb va ahead most s K w) : pb < w.heap.size := World.block_lt_of_cell? _ _ h.ca
theorem PI.grow {D pb : Nat} {va : Value} {ahead : List By} {most : Nat} {s : List By} {K K' : Nat → Prop} {w w' : World} (h : PI D pb va ahead most s K w) (f : Nw w w') (hk : ∀ k, K' k → K k ∨ w.heap.size ≤ k) : PI D pb va ahead most s K' w' := by
  obtain ⟨vo, h1, h2⟩ := h.out
  have hlt := h.lt
  refine ⟨f.cell h.ca, f.cell h.cm, ⟨vo, f.cell h1, (h2.more (fun g hg => ?_)).nw f⟩, (f.frozen (p := ⟨pb, 1, none⟩) hlt (fun h => h)).trans h.fz, fun hp => ?_, h.dpb, h.ha.nw f, h.le, h.lm, h.la⟩
  · rcases hg with hg | hg
    · rcases hk g hg with hg | hg
      · exact .inl (.inl hg)
      · exact .inr hg
    · exact .inl (.inr hg)
  · rcases hk pb hp with hp | hp
    · exact h.npb hp
    · omega
theorem PI.keep {D pb : Nat} {va : Value} {ahead : List By} {most : Nat} {s : List By} {K X : Nat → Prop} {w w' : World} (h : PI D pb va ahead most s K w) (f : Fr X w w') (hk : ∀ k, X k → K k ∧ D ≤ k) : PI D pb va ahead most s K w' := by
  obtain ⟨vo, h1, h2⟩ := h.out
  have hx : ¬ X pb := fun hp => h.npb (hk pb hp).1
  exact ⟨f.cellv h.ca hx, f.cellv h.cm hx, ⟨vo, f.cellv h1 hx, h2.kept f (fun g hg => .inl (.inl (hk g hg).1))⟩, (f.frozen (p := ⟨pb, 1, none⟩) h.lt hx).trans h.fz, h.npb, h.dpb, h.ha.kept f (fun g hg => (hk g hg).2), h.le, h.lm, h.la⟩
/-- Behind an append, and its end stored. -/
theorem PI.put {D pb : Nat} {va : Value} {ahead : List By} {most : Nat} {s s' : List By} {K : Nat → Prop} {w W : World} {v' : Value} (h : PI D pb va ahead most s K w) (hD : ∀ k, k < D → K k) (f : Fr (fun k => ¬ (K k ∨ k = pb)) w W) (hm : Mine (fun k => K k ∨ k = pb) v' s' W) (hl : s'.length ≤ most) :
    PI D pb va ahead most s' K (W.setCell ⟨pb, 1, none⟩ v') ∧ Fr (fun k => ¬ K k) w (W.setCell ⟨pb, 1, none⟩ v') ∧ (∃ u, W.cell? ⟨pb, 1, none⟩ = some u) ∧ W.frozen? ⟨pb, 1, none⟩ = false := by
  obtain ⟨vo, h1, h2⟩ := h.out
  have hx : ¬ ¬ (K pb ∨ pb = pb) := fun hp => hp (.inr rfl)
  have g1 := f.cellv h1 hx
  have f2 : Fr (fun k => k = pb) W (W.setCell ⟨pb, 1, none⟩ v') := (Fr.refl _ _).setCell _ _ (.inl rfl)
  have hfz : W.frozen? ⟨pb, 1, none⟩ = false := (f.frozen (p := ⟨pb, 1, none⟩) h.lt hx).trans h.fz
  have ne : ∀ j, j ≠ 1 → ∀ v, W.cell? ⟨pb, j, none⟩ = some v → (W.setCell ⟨pb, 1, none⟩ v').cell? ⟨pb, j, none⟩ = some v := by
    intro j hj v hv
    rw [World.cell?_setCell_other _ _ _ _ (by intro e; injection e with _ e; omega)]; exact hv
  refine ⟨⟨ne 0 (by decide) _ (f.cellv h.ca hx), ne 2 (by decide) _ (f.cellv h.cm hx), ⟨v', World.cell?_setCell_same _ _ _ g1, hm.kept f2 (fun g hg => .inl (.inr hg))⟩, by rw [World.frozen?_setCell]; exact hfz, h.npb, h.dpb, ?_, hl, h.lm, h.la⟩, ?_, ⟨_, g1⟩, hfz⟩
  · exact (h.ha.kept f (fun g hg => by
      by_cases hd : D ≤ g
      · exact hd
      · exact absurd (.inl (hD g (by omega))) hg)).kept f2 (fun g hg => by subst hg; exact h.dpb)
  · exact (f.mono (fun k hk => .inl (fun h => hk (.inl h)))).trans (f2.mono (fun k hk => .inl (by subst hk; exact h.npb)))
set_option maxHeartbeats 4000000 in
theorem proom_any {D pb : Nat} {va : Value} {ahead : List By} {most : Nat} {s : List By} {K : Nat → Prop} {w : World} (n : Nat) (h : PI D pb va ahead most s K w) (hn : n < 4611686018427387904) :
    Calls Try.prog 46 #[.pointer (some ⟨pb, 0, none⟩), .int .i64 n] w fun e w' => e = .returned (.bool ((pl ahead most).room s n)) ∧ Nw w w' := by
  obtain ⟨vo, h1, h2⟩ := h.out
  obtain ⟨a, c, rfl, hc, hc2⟩ := h2.sl.form
  have hm := h.cm
  have hz : Hid ((pl ahead most).room s n = decide ((n : Int) ≤ (most : Int) - (s.length : Int))) := by
    show decide _ = decide _
    rw [decide_eq_decide]; omega
  have hle := h.le
  have hlm := h.lm
  clear h h2
  generalize (pl ahead most).room s n = R at *
  generalize s.length = len at *
  go_enter Try.func46, Try.ntmps46
  go_wp2_with fail
  go_quiet (fail)
  go_wp2
  try go_ret
  exact ⟨by rw [hz.out]; rfl, (Fr.refl _ _).drewN _⟩
set_option maxHeartbeats 4000000 in
theorem preaches_any {D pb : Nat} {va : Value} {ahead : List By} {most : Nat} {s : List By} {K : Nat → Prop} {w : World} (n : Nat) (h : PI D pb va ahead most s K w) (hn : n < 65536) :
    Calls Try.prog 45 #[.pointer (some ⟨pb, 0, none⟩), .int .i64 n] w fun e w' => e = .returned (.bool ((pl ahead most).reaches s n)) ∧ Nw w w' := by
  obtain ⟨vo, h1, h2⟩ := h.out
  obtain ⟨a, c, rfl, hc, hc2⟩ := h2.sl.form
  obtain ⟨aa, ac, rfl, hac, hac2⟩ := h.ha.form
  have hm := h.ca
  have hz : Hid ((pl ahead most).reaches s n = decide ((n : Int) ≤ (ahead.length : Int) + (s.length : Int))) := by
    show decide _ = decide _
    rw [decide_eq_decide]; omega
  have hle := h.le
  have hlm := h.lm
  have hla := h.la
  clear h h2
  generalize (pl ahead most).reaches s n = R at *
  generalize s.length = len at *
  generalize ahead.length = alen at *
  go_enter Try.func45, Try.ntmps45
  go_wp2_with fail
  go_quiet (fail)
  go_wp2
  try go_ret
  exact ⟨by rw [hz.out]; rfl, (Fr.refl _ _).drewN _⟩
set_option maxHeartbeats 4000000 in
theorem pend_any {D pb : Nat} {va : Value} {ahead : List By} {most : Nat} {s : List By} {K : Nat → Prop} {w : World} (h : PI D pb va ahead most s K w) :
    Calls Try.prog 42 #[.pointer (some ⟨pb, 0, none⟩)] w fun e w' => (∃ r, e = .returned r) ∧ PI D pb va ahead most ((pl ahead most).fin s) K w' ∧ Fr (fun k => ¬ K k) w w' := by
  go_enter Try.func42, Try.ntmps42
  go_wp2
  go_end0
  exact ⟨⟨_, rfl⟩, h, Fr.refl _ _⟩
set_option maxHeartbeats 4000000 in
theorem pplain_any {D pb : Nat} {va : Value} {ahead : List By} {most : Nat} {s : List By} {K : Nat → Prop} {w : World} {u : Value} {p : List By} (h : PI D pb va ahead most s K w) (hD : ∀ k, k < D → K k) (hK : ∀ k, K k → k < w.heap.size) (hu : Sl (fun k => D ≤ k) u p w) (hr : (pl ahead most).room s p.length = true) :
    Calls Try.prog 44 #[.pointer (some ⟨pb, 0, none⟩), u] w fun e w' => (∃ r, e = .returned r) ∧ PI D pb va ahead most ((pl ahead most).plain s p) K w' ∧ Fr (fun k => ¬ K k) w w' := by
  obtain ⟨vo, h1, h2⟩ := h.out
  have hr' : p.length + s.length ≤ most := by simpa [pl] using hr
  have hlm := h.lm
  have hlt := h.lt
  obtain ⟨v', W, hap, hM, hF⟩ := mine_app _ w (fun k hk => by rcases hk with hk | hk; exact hK k hk; omega) vo s h2 u p (hu.mono (fun _ h => h.elim)) (by omega)
  obtain ⟨k1, k2, ⟨u1, k3⟩, k4⟩ := h.put hD hF hM (by simp; omega)
  have HF : Hid (PI D pb va ahead most ((pl ahead most).plain s p) K (W.setCell ⟨pb, 1, none⟩ v') ∧ Fr (fun k => ¬ K k) w (W.setCell ⟨pb, 1, none⟩ v')) := ⟨k1, k2⟩
  have HAP : Hid (∀ ty, (Builtin.append_ #[22, 22] ty #[vo, u]).run Try.prog w = .ok v' W) := hap
  obtain ⟨a', c', rfl, _, _⟩ := hM.sl.form
  clear k1 k2 hap h hF hM hu h2 hr hr' hK hD
  generalize (s ++ p).length = ln at *
  go_enter Try.func44, Try.ntmps44
  go_wp2_with (at_builtin; refine Lib.wpList_append_run _ rfl _ _ 22 22 rfl vo u (by simp [Act.eval]) (by simp [Act.eval]) _ _ (HAP.out _) ?_)
  go_end0
  exact ⟨⟨_, rfl⟩, HF.out.1, HF.out.2⟩
end Go.Proofs.Ytpnacppmdlnjlab

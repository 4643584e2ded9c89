import Derived.Test.YtpnacppmdlnjlaaPaA
import Derived.Test.YtpnacppmdlnjlaaLzJ
namespace Go.Proofs.Ytpnacppmdlnjlaa
open Go.RowKit
set_option linter.unusedVariables false
/-- A sequence. -/
structure Sq where
  p : List By
  b : Nat
  n : Nat
/-- A list of sequences in memory: gs the blocks of their plain bytes, qs how they lie. -/
structure SqL (K : Nat → Prop) (v : Value) (l : List Sq) (gs : List Nat) (qs : List Q) (w : World) : Prop where
  gl : gs.length = l.length
  ql : qs.length = l.length
  el : ∀ (i : Nat) (g : Nat) (q : Q) (s : Sq), gs[i]? = some g → qs[i]? = some q → l[i]? = some s → Ow g q.v s.p w ∧ q.b = s.b ∧ q.l = s.n ∧ ¬ K g
  nd : gs.Nodup
  row : (v = .slice none 0 0 ∧ l = []) ∨ ∃ g, ¬ K g ∧ g ∉ gs ∧ OwS g v qs w
theorem SqL.at {K : Nat → Prop} {v : Value} {l : List Sq} {gs : List Nat} {qs : List Q} {w : World} (h : SqL K v l gs qs w) (g : Nat) (hg : g ∈ gs) : ¬ K g ∧ g < w.heap.size := by
  obtain ⟨i, hi, rfl⟩ := List.mem_iff_getElem.1 hg
  have hil : i < l.length := by rw [← h.gl]; exact hi
  have := h.el i gs[i] (qs[i]'(by rw [h.ql]; exact hil)) l[i] (List.getElem?_eq_getElem _) (List.getElem?_eq_getElem _) (List.getElem?_eq_getElem _)
  exact ⟨this.2.2.2, this.1.lt⟩
theorem SqL.kept {K : Nat → Prop} {v : Value} {l : List Sq} {gs : List Nat} {qs : List Q} {w w' : World} {X : Nat → Prop} (h : SqL K v l gs qs w) (f : Fr X w w') (hx : ∀ g, X g → K g ∨ w.heap.size ≤ g) : SqL K v l gs qs w' := by
  refine ⟨h.gl, h.ql, fun i g q s h1 h2 h3 => ?_, h.nd, ?_⟩
  · obtain ⟨k1, k2, k3, k4⟩ := h.el i g q s h1 h2 h3
    exact ⟨k1.kept f (fun hg => by rcases hx g hg with e | e; exact k4 e; have := k1.lt; omega), k2, k3, k4⟩
  · rcases h.row with h | ⟨g, h1, h2, h3⟩
    · exact .inl h
    · exact .inr ⟨g, h1, h2, h3.kept f (fun hg => by rcases hx g hg with e | e; exact h1 e; have := h3.lt; omega)⟩
theorem SqL.nw {K : Nat → Prop} {v : Value} {l : List Sq} {gs : List Nat} {qs : List Q} {w w' : World} (h : SqL K v l gs qs w) (f : Nw w w') : SqL K v l gs qs w' := h.kept f (fun _ h => h.elim)
theorem SqL.more {K K' : Nat → Prop} {v : Value} {l : List Sq} {gs : List Nat} {qs : List Q} {w : World} (h : SqL K v l gs qs w) (hk : ∀ g, K' g → K g ∨ w.heap.size ≤ g) : SqL K' v l gs qs w := by
  refine ⟨h.gl, h.ql, fun i g q s h1 h2 h3 => ?_, h.nd, ?_⟩
  · obtain ⟨k1, k2, k3, k4⟩ := h.el i g q s h1 h2 h3
    exact ⟨k1, k2, k3, fun hg => by rcases hk g hg with e | e; exact k4 e; have := k1.lt; omega⟩
  · rcases h.row with h | ⟨g, h1, h2, h3⟩
    · exact .inl h
    · exact .inr ⟨g, fun hg => by rcases hk g hg with e | e; exact h1 e; have := h3.lt; omega, h2, h3⟩
theorem SqL.both {K K' : Nat → Prop} {v : Value} {l : List Sq} {gs : List Nat} {qs : List Q} {w w' : World} {X : Nat → Prop} (h : SqL K v l gs qs w) (f : Fr X w w') (hx : ∀ g, X g → K g ∨ w.heap.size ≤ g) (hk : ∀ g, K' g → K g ∨ w.heap.size ≤ g) : SqL K' v l gs qs w' := by
  have h' := h.kept f hx
  refine ⟨h.gl, h.ql, fun i g q s h1 h2 h3 => ?_, h.nd, ?_⟩
  · obtain ⟨k1, k2, k3, k4⟩ := h.el i g q s h1 h2 h3
    exact ⟨(h'.el i g q s h1 h2 h3).1, k2, k3, fun hg => by rcases hk g hg with e | e; exact k4 e; have := k1.lt; omega⟩
  · rcases h.row with h | ⟨g, h1, h2, h3⟩
    · exact .inl h
    · exact .inr ⟨g, fun hg => by rcases hk g hg with e | e; exact h1 e; have := h3.lt; omega, h2, h3.kept f (fun hg => by rcases hx g hg with e | e; exact h1 e; have := h3.lt; omega)⟩
theorem SqL.nil (K : Nat → Prop) (w : World) : SqL K (.slice none 0 0) [] [] [] w := ⟨rfl, rfl, fun i g q s h1 _ _ => by simp at h1, List.nodup_nil, .inl ⟨rfl, rfl⟩⟩
theorem SqL.form {K : Nat → Prop} {v : Value} {l : List Sq} {gs : List Nat} {qs : List Q} {w : World} (h : SqL K v l gs qs w) : ∃ a c, v = .slice a l.length c ∧ l.length ≤ c ∧ c < 9223372036854775808 := by
  rcases h.row with ⟨rfl, rfl⟩ | ⟨g, _, _, xs, rfl, _, h3, h4, _⟩
  · exact ⟨none, 0, rfl, by simp, by simp⟩
  · exact ⟨_, _, by rw [h.ql], by rw [← h.ql]; exact h3, h4⟩
theorem appS_nil (w : World) (gq : Nat) (q : Q) (hx : Sw gq [q] w) :
    ∃ v' W, (∀ ty, (Builtin.append_ #[31, 31] ty #[.slice none 0 0, .slice (some ⟨gq, 0, none⟩) 1 1]).run Try.prog w = .ok v' W) ∧ OwS w.heap.size v' [q] W ∧ Nw w W := by
  obtain ⟨i, hi, hz, hs, hby⟩ := infoS
  have hsrc := srcS w gq q hx
  have hrun := fun ty => run_append_grow_src w 31 31 ty 36 i _ Try.underlying31 hi hz none 0 0 [] (by simp [Builtin.firstCells]) _ 1 _ (by rw [hs]; exact hsrc) (by omega) (by omega) (by rw [hby]; exact growslice_fits_wide (by omega) (by omega))
  have hge := grownCap_ge w (0 + 1) 0 36
  have hle := grownCap_le_maxLen w (0 + 1) 0 36 (by unfold maxLen; omega)
  unfold maxLen at hle
  generalize grownCap w (0 + 1) 0 36 = G at *
  refine ⟨_, _, hrun, ?_, (Fr.refl _ _).drew.alloc _⟩
  have e : (([] ++ flat [q]).toArray ++ Builtin.zeroCells (Value.agg #[.slice none 0 0, .int .i64 0, .int .i64 0]).cells (G - (0 + 1))) = (flat ([q] ++ List.replicate (G - (0 + 1)) q0)).toArray := by
    rw [zeroS, flat_append]; simp
  rw [e]
  refine ⟨[q] ++ List.replicate (G - (0 + 1)) q0, ?_, ?_, ?_, ?_, ?_⟩
  · simp; omega
  · simp
  · simp
  · simp; omega
  · show (w.heap.push _)[w.heap.size]? = _
    simp
/-- One sequence put behind. -/
theorem SqL.app {K : Nat → Prop} {v : Value} {l : List Sq} {gs : List Nat} {qs : List Q} {w : World} (h : SqL K v l gs qs w) (hK : ∀ k, K k → k < w.heap.size) (gn : Nat) (q : Q) (s : Sq) (hO : Ow gn q.v s.p w) (hb : q.b = s.b) (hn : q.l = s.n) (hgK : ¬ K gn) (hgs : gn ∉ gs) (hrow : ∀ g, OwS g v qs w → g ≠ gn) (gq : Nat) (hq : Sw gq [q] w) (hl : l.length ≤ 100000000) :
    ∃ v' W, (∀ ty, (Builtin.append_ #[31, 31] ty #[v, .slice (some ⟨gq, 0, none⟩) 1 1]).run Try.prog w = .ok v' W) ∧ SqL K v' (l ++ [s]) (gs ++ [gn]) (qs ++ [q]) W ∧ Fr (fun k => ¬ K k) w W := by
  have mk : ∀ (v' : Value) (W : World) (g' : Nat) (X : Nat → Prop), OwS g' v' (qs ++ [q]) W → Fr X w W → (∀ g, g ∈ gs → ¬ X g) → ¬ X gn → g' ∉ gs → g' ≠ gn → ¬ K g' → SqL K v' (l ++ [s]) (gs ++ [gn]) (qs ++ [q]) W := by
    intro v' W g' X hOS hF h1 h2 h3 h4 h5
    refine ⟨by simp [h.gl], by simp [h.ql], fun i g q' s' e1 e2 e3 => ?_, ?_, .inr ⟨g', h5, ?_, hOS⟩⟩
    · by_cases hi : i < l.length
      · rw [List.getElem?_append_left (by rw [h.gl]; exact hi)] at e1
        rw [List.getElem?_append_left (by rw [h.ql]; exact hi)] at e2
        rw [List.getElem?_append_left hi] at e3
        obtain ⟨k1, k2, k3, k4⟩ := h.el i g q' s' e1 e2 e3
        exact ⟨k1.kept hF (h1 g (List.mem_iff_getElem?.2 ⟨i, e1⟩)), k2, k3, k4⟩
      · have hi' : i = l.length := by
          have := (List.getElem?_eq_some_iff.1 e3).1
          simp at this; omega
        subst hi'
        rw [List.getElem?_append_right (by rw [h.gl]; omega), h.gl] at e1
        rw [List.getElem?_append_right (by rw [h.ql]; omega), h.ql] at e2
        rw [List.getElem?_append_right (by omega)] at e3
        simp at e1 e2 e3
        subst e1 e2 e3
        exact ⟨hO.kept hF h2, hb, hn, hgK⟩
    · rw [List.nodup_append]
      exact ⟨h.nd, by simp, fun x hx y hy e => by simp at hy; subst e; subst hy; exact hgs hx⟩
    · intro hm
      rw [List.mem_append] at hm
      rcases hm with hm | hm
      · exact h3 hm
      · simp at hm; exact h4 hm
  rcases h.row with ⟨rfl, rfl⟩ | ⟨g, h1, h2, h3⟩
  · obtain ⟨v', W, hap, hOS, hN⟩ := appS_nil w gq q hq
    have hqe : qs = [] := List.length_eq_zero_iff.1 (by rw [h.ql]; rfl)
    have hge : gs = [] := List.length_eq_zero_iff.1 (by rw [h.gl]; rfl)
    refine ⟨v', W, hap, mk v' W w.heap.size (fun _ => False) (by rw [hqe]; exact hOS) hN (fun _ _ h => h) (fun h => h) (by rw [hge]; simp) (by have := hO.lt; omega) (fun hk => by have := hK _ hk; omega), hN.any⟩
  · obtain ⟨v', g', W, hap, hOS, hF, hg'⟩ := appS_any w g v qs h3 gq q hq (by rw [h.ql]; omega)
    have hne : g ≠ gn := hrow g h3
    have hgl : ∀ x, x ∈ gs → x < w.heap.size := fun x hx => (h.at x hx).2
    refine ⟨v', W, hap, mk v' W g' (fun k => k = g) hOS hF (fun x hx e => h2 (by rw [← e]; exact hx)) (fun e => hne e.symm) ?_ ?_ ?_, hF.mono (fun k hk => .inl (by subst hk; exact h1))⟩
    · rcases hg' with rfl | hg'
      · exact h2
      · intro hm; have := hgl g' hm; omega
    · rcases hg' with rfl | hg'
      · exact hne
      · have := hO.lt; omega
    · rcases hg' with rfl | hg'
      · exact h1
      · intro hk; have := hK g' hk; omega
/-! ### The lister -/
structure Ls where
  l : List Sq
  now : Sq
  f : Nat
def ls : Tk Ls where
  room _ _ := true
  plain s p := ⟨s.l, ⟨p, 0, 0⟩, 1⟩
  reaches _ _ := true
  mat s b n := ⟨s.l ++ [⟨s.now.p, b, n⟩], ⟨s.now.p, b, n⟩, 0⟩
  fin s := ⟨s.l ++ [s.now], s.now, 0⟩
/-- Parse, as the document has it. -/
def parse (b : List By) : List Sq × Nat × Nat :=
  match scanS ls b.length b ⟨[], ⟨[], 0, 0⟩, 0⟩ with
  | .bad a y => ([], a, y)
  | .good s => (s.l, 0, 0)
/-- What holds of the lister. -/
structure LI (D pb : Nat) (s : Ls) (K : Nat → Prop) (w : World) : Prop where
  list : ∃ v gs qs, w.cell? ⟨pb, 0, none⟩ = some v ∧ SqL (fun k => K k ∨ k = pb) v s.l gs qs w ∧ (s.f = 1 → ∃ gn a n c, w.cell? ⟨pb, 1, none⟩ = some (.slice a n c) ∧ w.cell? ⟨pb, 2, none⟩ = some (.int .i64 s.now.b) ∧ w.cell? ⟨pb, 3, none⟩ = some (.int .i64 s.now.n) ∧ Ow gn (.slice a n c) s.now.p w ∧ ¬ K gn ∧ gn ≠ pb ∧ gn ∉ gs ∧ ∀ g, OwS g v qs w → g ≠ gn)
  cells : ∀ j, j < 4 → ∃ u, w.cell? ⟨pb, j, none⟩ = some u ∧ w.frozen? ⟨pb, j, none⟩ = false
  npb : ¬ K pb
  dpb : D ≤ pb
theorem LI.lt {D pb : Nat} {s : Ls} {K : Nat → Prop} {w : World} (h : LI D pb s K w) : pb < w.heap.size := by
  obtain ⟨u, h1, _⟩ := h.cells 0 (by decide)
  exact World.block_lt_of_cell? _ _ h1
theorem OwS.uniq {g g' : Nat} {v : Value} {l l' : List Q} {w w' : World} (h : OwS g v l w) (h' : OwS g' v l' w') : g = g' := by
  obtain ⟨xs, h1, _⟩ := h
  obtain ⟨ys, h2, _⟩ := h'
  rw [h1] at h2
  injection h2 with h2
  injection h2 with h2
  injection h2
theorem LI.keep' {D pb : Nat} {s : Ls} {K K' : Nat → Prop} {w w' : World} {X : Nat → Prop} (h : LI D pb s K w) (f : Fr X w w') (hx : ∀ k, X k → K k) (hk : ∀ k, K' k → K k ∨ w.heap.size ≤ k) : LI D pb s K' w' := by
  obtain ⟨v, gs, qs, h1, h2, h3⟩ := h.list
  have hlt := h.lt
  have hxp : ¬ X pb := fun hp => h.npb (hx pb hp)
  have hKl : ∀ g, g < w.heap.size → ¬ K g → ¬ K' g := fun g hg hn hk' => by
    rcases hk g hk' with e | e
    · exact hn e
    · omega
  refine ⟨⟨v, gs, qs, f.cellv h1 hxp, h2.both f (fun g hg => .inl (.inl (hx g hg))) (fun g hg => ?_), fun hf => ?_⟩, fun j hj => ?_, hKl pb hlt h.npb, h.dpb⟩
  · rcases hg with hg | hg
    · rcases hk g hg with e | e
      · exact .inl (.inl e)
      · exact .inr e
    · exact .inl (.inr hg)
  · obtain ⟨gn, a, n, c, k1, k2, k3, k4, k5, k6, k7, k8⟩ := h3 hf
    refine ⟨gn, a, n, c, f.cellv k1 hxp, f.cellv k2 hxp, f.cellv k3 hxp, k4.kept f (fun hg => k5 (hx gn hg)), hKl gn k4.lt k5, k6, k7, fun g hg => ?_⟩
    rcases h2.row with ⟨e1, e2⟩ | ⟨g1, _, _, e3⟩
    · obtain ⟨xs, e, _⟩ := hg
      rw [e1] at e; cases e
    · rw [OwS.uniq hg e3]; exact k8 g1 e3
  · obtain ⟨u, k1, k2⟩ := h.cells j hj
    exact ⟨u, f.cellv k1 hxp, (f.frozen (p := ⟨pb, j, none⟩) hlt hxp).trans k2⟩
theorem step_append_seqs {ops : Array Oper} {o : Oper} {a : Act} {w : World} {K : Act → World → Prop} {Q : Exit → Act → World → Prop} {E : Prop} (hg : o.guard = none) (s x : Operand) (hop : o.op = Op.call { callee := Callee.builtin Builtin.append, args := #[s, x], argTypes := #[31, 31] })
    (vs vx : Value) (hs : a.eval s = vs) (hx : a.eval x = vx) (v' : Value) (W : World) (hrun : ∀ ty, (Builtin.append_ #[31, 31] ty #[vs, vx]).run Try.prog w = .ok v' W) (hK : K (a.put o.dst v') W) :
    if Region.wanted o (yielded ops a.tmps) = true then Oper.wp Try.prog o a w K Q else E := by
  have hw : Region.wanted o (yielded ops a.tmps) = true := by simp [Region.wanted, hg]
  rw [if_pos hw]
  unfold Oper.wp
  simp [execOp, hop, resolve, invoke, builtin, hs, hx, hrun, Result.andThen]
  exact hK
theorem lroom_any {D pb : Nat} {s : Ls} {K : Nat → Prop} {w : World} (n : Nat) : Calls Try.prog 82 #[.pointer (some ⟨pb, 0, none⟩), .int .i64 n] w fun e w' => e = .returned (.bool (ls.room s n)) ∧ Nw w w' := by
  go_enter Try.func82, Try.ntmps82
  go_wp2
  go_ret
  exact ⟨rfl, Fr.refl _ _⟩
theorem lreaches_any {D pb : Nat} {s : Ls} {K : Nat → Prop} {w : World} (n : Nat) : Calls Try.prog 81 #[.pointer (some ⟨pb, 0, none⟩), .int .i64 n] w fun e w' => e = .returned (.bool (ls.reaches s n)) ∧ Nw w w' := by
  go_enter Try.func81, Try.ntmps81
  go_wp2
  go_ret
  exact ⟨rfl, Fr.refl _ _⟩
/-- What end does to memory. -/
theorem end_step {D pb : Nat} {s : Ls} {K : Nat → Prop} {w V : World} (h : LI D pb s K w) (hK : ∀ k, K k → k < w.heap.size) (hf : s.f = 1) (hl : s.l.length ≤ 100000000) (hV : Nw w V) :
    ∃ a c an nn cn v' W u, w.cell? ⟨pb, 0, none⟩ = some (.slice a s.l.length c) ∧ w.cell? ⟨pb, 1, none⟩ = some (.slice an nn cn) ∧ w.cell? ⟨pb, 2, none⟩ = some (.int .i64 s.now.b) ∧ w.cell? ⟨pb, 3, none⟩ = some (.int .i64 s.now.n) ∧ W.cell? ⟨pb, 0, none⟩ = some u ∧ W.frozen? ⟨pb, 0, none⟩ = false ∧
      Hid (∀ ty, (Builtin.append_ #[31, 31] ty #[.slice a s.l.length c, .slice (some ⟨V.heap.size, 0, none⟩) 1 1]).run Try.prog (V.alloc (.cells #[.slice an nn cn, .int .i64 s.now.b, .int .i64 s.now.n] 36)) = .ok v' W) ∧ (∃ a l c, v' = .slice a l c) ∧
      Hid (LI D pb (ls.fin s) K (W.setCell ⟨pb, 0, none⟩ v') ∧ Fr (fun k => ¬ K k) w (W.setCell ⟨pb, 0, none⟩ v')) := by
  obtain ⟨v, gs, qs, h1, h2, h3⟩ := h.list
  obtain ⟨gn, an, nn, cn, k1, k2, k3, k4, k5, k6, k7, k8⟩ := h3 hf
  obtain ⟨a, c, rfl, hc, hc2⟩ := h2.form
  have hlt := h.lt
  have hN : Nw V (V.alloc (.cells #[.slice an nn cn, .int .i64 s.now.b, .int .i64 s.now.n] 36)) := (Fr.refl _ _).alloc _
  have hwN := hV.trans hN
  have hsz : (V.alloc (.cells #[.slice an nn cn, .int .i64 s.now.b, .int .i64 s.now.n] 36)).heap.size = V.heap.size + 1 := by simp
  have hsV := hV.size
  have hsw : Sw V.heap.size [⟨an, nn, cn, s.now.b, s.now.n⟩] (V.alloc (.cells #[.slice an nn cn, .int .i64 s.now.b, .int .i64 s.now.n] 36)) := new_heap _ _
  have hrow : ∀ g, OwS g (.slice a s.l.length c) qs (V.alloc (.cells #[.slice an nn cn, .int .i64 s.now.b, .int .i64 s.now.n] 36)) → g ≠ gn := fun g hg => by
    rcases h2.row with ⟨e1, _⟩ | ⟨g1, _, _, e3⟩
    · obtain ⟨xs, e, _⟩ := hg
      rw [e1] at e; cases e
    · rw [OwS.uniq hg e3]; exact k8 g1 e3
  obtain ⟨v', W, hap, hL, hF⟩ := (h2.nw hwN).app (fun k hk => by rw [hsz]; rcases hk with hk | hk; have := hK k hk; omega; omega) gn ⟨an, nn, cn, s.now.b, s.now.n⟩ s.now (k4.nw hwN) rfl rfl (by intro hk; rcases hk with hk | hk; exact k5 hk; exact k6 hk) k7 hrow V.heap.size hsw hl
  have hx : ¬ ¬ (K pb ∨ pb = pb) := fun hp => hp (.inr rfl)
  have g0 := hF.cellv (hwN.cell h1) hx
  obtain ⟨u0, c0, f0⟩ := h.cells 0 (by decide)
  have hfz : ∀ j, j < 4 → W.frozen? ⟨pb, j, none⟩ = false := fun j hj => by
    obtain ⟨u, _, f1⟩ := h.cells j hj
    have e1 := hwN.frozen (p := ⟨pb, j, none⟩) hlt (fun h => h)
    have e2 := hF.frozen (p := ⟨pb, j, none⟩) (by rw [hsz]; show pb < _; omega) hx
    rw [e2, e1]; exact f1
  have f2 : Fr (fun k => k = pb) W (W.setCell ⟨pb, 0, none⟩ v') := (Fr.refl _ _).setCell _ _ (.inl rfl)
  obtain ⟨a', c', e', _, _⟩ := hL.form
  refine ⟨a, c, an, nn, cn, v', W, _, h1, k1, k2, k3, g0, hfz 0 (by decide), hap, ⟨_, _, _, e'⟩, ?_, ?_⟩
  · refine ⟨⟨v', gs ++ [gn], qs ++ [({ a := an, n := nn, c := cn, b := (s.now.b : Int), l := (s.now.n : Int) } : Q)], World.cell?_setCell_same _ _ _ g0, hL.kept f2 (fun g hg => .inl (.inr hg)), fun hf => by cases hf⟩, fun j hj => ?_, h.npb, h.dpb⟩
    obtain ⟨u, e1, _⟩ := h.cells j hj
    have e2 := hF.cellv (hwN.cell e1) hx
    by_cases hj0 : j = 0
    · subst hj0
      exact ⟨v', World.cell?_setCell_same _ _ _ e2, by rw [World.frozen?_setCell]; exact hfz 0 hj⟩
    · refine ⟨u, ?_, by rw [World.frozen?_setCell]; exact hfz j hj⟩
      rw [World.cell?_setCell_other _ _ _ _ (by intro e; injection e with _ e; omega)]; exact e2
  · exact (hwN.any.trans (hF.mono (fun k hk => .inl (fun h => hk (.inl h))))).trans (f2.mono (fun k hk => .inl (by subst hk; exact h.npb)))
end Go.Proofs.Ytpnacppmdlnjlaa

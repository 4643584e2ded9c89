import Derived.Test.YtdeefemeiggolaaQg
import Derived.Lib.AppendZeros
import Derived.Lib.MinMax
import Derived.Deep.RegionWith
import Derived.Test.YtdeefemeiggolaaQj
namespace Go.Proofs.Ytdeefemeiggolaa
open Go.RowKit
set_option linter.unusedVariables false
/-! ### Rows of sequences -/
/-- A sequence as it lies in memory: Plain's slice, Back, Length. -/
structure Q where
  a : Option Addr
  n : Nat
  c : Nat
  b : Int
  l : Int
abbrev Q.v (q : Q) : Value := .slice q.a q.n q.c
def Q.cs (q : Q) : List Value := [q.v, .int .i64 q.b, .int .i64 q.l]
def flat : List Q → List Value
  | [] => []
  | q :: r => q.cs ++ flat r
theorem flat_length (qs : List Q) : (flat qs).length = 3 * qs.length := by
  induction qs with
  | nil => rfl
  | cons q r ih => simp [flat, Q.cs, ih]; omega
theorem flat_append (xs ys : List Q) : flat (xs ++ ys) = flat xs ++ flat ys := by
  induction xs with
  | nil => rfl
  | cons q r ih => simp [flat, ih]
theorem flat_take (qs : List Q) (n : Nat) (h : n ≤ qs.length) : (flat qs).take (3 * n) = flat (qs.take n) := by
  conv => lhs; rw [← List.take_append_drop n qs, flat_append]
  exact List.take_left' (by rw [flat_length, List.length_take]; omega)
theorem flat_drop (qs : List Q) (n : Nat) (h : n ≤ qs.length) : (flat qs).drop (3 * n) = flat (qs.drop n) := by
  conv => lhs; rw [← List.take_append_drop n qs, flat_append]
  exact List.drop_left' (by rw [flat_length, List.length_take]; omega)
theorem flat_at (qs : List Q) (i j : Nat) (q : Q) (v : Value) (hq : qs[i]? = some q) (hv : q.cs[j]? = some v) : (flat qs)[3 * i + j]? = some v := by
  induction qs generalizing i with
  | nil => simp at hq
  | cons x r ih =>
    have hl : x.cs.length = 3 := rfl
    cases i with
    | zero =>
      simp at hq; subst hq
      have hj : j < 3 := by
        have := (List.getElem?_eq_some_iff.1 hv).1; rw [hl] at this; exact this
      rw [flat, Nat.mul_zero, Nat.zero_add, List.getElem?_append_left (by omega)]
      exact hv
    | succ i =>
      rw [flat, List.getElem?_append_right (by omega), hl, show 3 * (i + 1) + j - 3 = 3 * i + j by omega]
      exact ih i (by simpa using hq)
theorem flat_one (qs : List Q) : ∀ v ∈ flat qs, v.oneCell' = true := by
  induction qs with
  | nil => simp [flat]
  | cons q r ih =>
    intro v hv
    rw [flat, List.mem_append] at hv
    rcases hv with hv | hv
    · simp only [Q.cs, List.mem_cons, List.mem_nil_iff, or_false] at hv
      rcases hv with rfl | rfl | rfl <;> rfl
    · exact ih v hv
def Sw (g : Nat) (xs : List Q) (w : World) : Prop := w.heap[g]? = some (.cells (flat xs).toArray 106)
theorem Sw.lt {g : Nat} {xs : List Q} {w : World} (h : Sw g xs w) : g < w.heap.size := (Array.getElem?_eq_some_iff.1 h).1
theorem Sw.kept {g : Nat} {xs : List Q} {w w' : World} {X : Nat → Prop} (h : Sw g xs w) (f : Fr X w w') (hx : ¬ X g) : Sw g xs w' := (f.block g h.lt hx).trans h
theorem Sw.cell {g : Nat} {xs : List Q} {w : World} (h : Sw g xs w) (i j : Nat) (q : Q) (v : Value) (hq : xs[i]? = some q) (hv : q.cs[j]? = some v) : w.cell? ⟨g, 3 * i + j, none⟩ = some v ∧ w.frozen? ⟨g, 3 * i + j, none⟩ = false := by
  have := flat_at xs i j q v hq hv
  unfold Sw at h
  constructor <;> simp [World.cell?, World.frozen?, h, this]
/-- A slice of sequences of one's own. -/
def OwS (g : Nat) (v : Value) (l : List Q) (w : World) : Prop := ∃ xs, v = .slice (some ⟨g, 0, none⟩) l.length xs.length ∧ xs.take l.length = l ∧ l.length ≤ xs.length ∧ xs.length < 9223372036854775808 ∧ Sw g xs w
theorem OwS.kept {g : Nat} {v : Value} {l : List Q} {w w' : World} {X : Nat → Prop} (h : OwS g v l w) (f : Fr X w w') (hx : ¬ X g) : OwS g v l w' := by
  obtain ⟨xs, h1, h2, h3, h4, h5⟩ := h
  exact ⟨xs, h1, h2, h3, h4, h5.kept f hx⟩
theorem OwS.nw {g : Nat} {v : Value} {l : List Q} {w w' : World} (h : OwS g v l w) (f : Nw w w') : OwS g v l w' := h.kept f (fun h => h)
theorem OwS.lt {g : Nat} {v : Value} {l : List Q} {w : World} (h : OwS g v l w) : g < w.heap.size := by
  obtain ⟨xs, h1, h2, h3, h4, h5⟩ := h
  exact h5.lt
theorem OwS.cell {g : Nat} {v : Value} {l : List Q} {w : World} (h : OwS g v l w) (i j : Nat) (q : Q) (u : Value) (hq : l[i]? = some q) (hv : q.cs[j]? = some u) : w.cell? ⟨g, 3 * i + j, none⟩ = some u ∧ w.frozen? ⟨g, 3 * i + j, none⟩ = false := by
  obtain ⟨xs, h1, h2, h3, h4, h5⟩ := h
  refine h5.cell i j q u ?_ hv
  have hi := (List.getElem?_eq_some_iff.1 hq).1
  rw [← h2, List.getElem?_take, if_pos hi] at hq
  exact hq
theorem infoS : ∃ i, Try.prog.info? 106 = some i ∧ i.zero = some (.agg #[.slice none 0 0, .int .i64 0, .int .i64 0]) ∧ i.size = 3 ∧ i.bytes = 40 := by
  have h : (Try.prog.info? 106).map (fun i => (i.zero, i.size, i.bytes)) = some (some (.agg #[.slice none 0 0, .int .i64 0, .int .i64 0]), 3, 40) := by kernel_rfl
  cases hq : Try.prog.info? 106 with
  | none => simp [hq] at h
  | some i => simp [hq] at h; exact ⟨i, rfl, h.1, h.2.1, h.2.2⟩
def q0 : Q := ⟨none, 0, 0, 0, 0⟩
theorem zeroS (n : Nat) : (Builtin.zeroCells (Value.agg #[.slice none 0 0, .int .i64 0, .int .i64 0]).cells n) = (flat (List.replicate n q0)).toArray := by
  apply Array.ext'
  apply List.ext_getElem?
  intro k
  by_cases hk : k < 3 * n
  · obtain ⟨i, j, rfl, hj⟩ : ∃ i j, k = 3 * i + j ∧ j < 3 := ⟨k / 3, k % 3, by omega, by omega⟩
    have hi : i < n := by omega
    have hr : (List.replicate n q0)[i]? = some q0 := by simp [hi]
    obtain rfl | rfl | rfl : j = 0 ∨ j = 1 ∨ j = 2 := by omega
    all_goals rw [List.toList_toArray, flat_at _ i _ q0 _ hr rfl]
    all_goals simp [Builtin.zeroCells, Value.cells]
    · exact ⟨3 * i, List.getElem?_range (by omega), by rw [show 3 * i % 3 = 0 by omega]; rfl⟩
    · exact ⟨3 * i + 1, List.getElem?_range (by omega), by rw [show (3 * i + 1) % 3 = 1 by omega]; rfl⟩
    · exact ⟨3 * i + 2, List.getElem?_range (by omega), by rw [show (3 * i + 2) % 3 = 2 by omega]; rfl⟩
  · rw [List.getElem?_eq_none (by simp [Builtin.zeroCells, Value.cells]; omega), List.getElem?_eq_none (by simp [flat_length]; omega)]
end Go.Proofs.Ytdeefemeiggolaa

namespace Go.Proofs.Ytdeefemeiggolaa
open Go.RowKit
set_option linter.unusedVariables false
theorem step_append_run {ops : Array Oper} {o : Oper} {a : Act} {w : World} {K : Act → World → Prop} {Q : Exit → Act → World → Prop} {E : Prop} (hg : o.guard = none) (s x : Operand) (hop : o.op = Op.call { callee := Callee.builtin Builtin.append, args := #[s, x], argTypes := #[22, 22] })
    (vs vx : Value) (hs : a.eval s = vs) (hx : a.eval x = vx) (v' : Value) (W : World) (hrun : ∀ ty, (Builtin.append_ #[22, 22] ty #[vs, vx]).run Try.prog w = .ok v' W) (hK : K (a.put o.dst v') W) :
    if Region.wanted o (yielded ops a.tmps) = true then Oper.wp Try.prog o a w K Q else E := by
  have hw : Region.wanted o (yielded ops a.tmps) = true := by simp [Region.wanted, hg]
  rw [if_pos hw]
  unfold Oper.wp
  simp [execOp, hop, resolve, invoke, builtin, hs, hx, hrun, Result.andThen]
  exact hK
/-- A player that has put s together; the blocks of K are left alone. -/
structure PI (D pb : Nat) (va : Value) (ahead : List By) (most : Nat) (s : List By) (K : Nat → Prop) (w : World) : Prop where
  ca : w.cell? ⟨pb, 0, none⟩ = some va
  cm : w.cell? ⟨pb, 2, none⟩ = some (.int .i64 most)
  out : ∃ vo, w.cell? ⟨pb, 1, none⟩ = some vo ∧ Mine (fun k => K k ∨ k = pb) vo s w
  fz : w.frozen? ⟨pb, 1, none⟩ = false
  npb : ¬ K pb
  dpb : D ≤ pb
  ha : Sl (fun k => D ≤ k) va ahead w
  le : s.length ≤ most
  lm : most ≤ 4194304
  la : ahead.length ≤ 140737488351232
theorem PI.lt {D pb : Nat} {va : Value} {ahead : List By} {most : Nat} {s : List By} {K : Nat → Prop} {w : World} (h : PI D pb va ahead most s K w) : pb < w.heap.size := World.block_lt_of_cell? _ _ h.ca
theorem PI.grow {D pb : Nat} {va : Value} {ahead : List By} {most : Nat} {s : List By} {K K' : Nat → Prop} {w w' : World} (h : PI D pb va ahead most s K w) (f : Nw w w') (hk : ∀ k, K' k → K k ∨ w.heap.size ≤ k) : PI D pb va ahead most s K' w' := by
  obtain ⟨vo, h1, h2⟩ := h.out
  have hlt := h.lt
  refine ⟨f.cell h.ca, f.cell h.cm, ⟨vo, f.cell h1, (h2.more (fun g hg => ?_)).nw f⟩, (f.frozen (p := ⟨pb, 1, none⟩) hlt (fun h => h)).trans h.fz, fun hp => ?_, h.dpb, h.ha.nw f, h.le, h.lm, h.la⟩
  · rcases hg with hg | hg
    · rcases hk g hg with hg | hg
      · exact .inl (.inl hg)
      · exact .inr hg
    · exact .inl (.inr hg)
  · rcases hk pb hp with hp | hp
    · exact h.npb hp
    · omega
theorem PI.keep {D pb : Nat} {va : Value} {ahead : List By} {most : Nat} {s : List By} {K X : Nat → Prop} {w w' : World} (h : PI D pb va ahead most s K w) (f : Fr X w w') (hk : ∀ k, X k → K k ∧ D ≤ k) : PI D pb va ahead most s K w' := by
  obtain ⟨vo, h1, h2⟩ := h.out
  have hx : ¬ X pb := fun hp => h.npb (hk pb hp).1
  exact ⟨f.cellv h.ca hx, f.cellv h.cm hx, ⟨vo, f.cellv h1 hx, h2.kept f (fun g hg => .inl (.inl (hk g hg).1))⟩, (f.frozen (p := ⟨pb, 1, none⟩) h.lt hx).trans h.fz, h.npb, h.dpb, h.ha.kept f (fun g hg => (hk g hg).2), h.le, h.lm, h.la⟩
/-- Behind an append, and its end stored. -/
theorem PI.put {D pb : Nat} {va : Value} {ahead : List By} {most : Nat} {s s' : List By} {K : Nat → Prop} {w W : World} {v' : Value} (h : PI D pb va ahead most s K w) (hD : ∀ k, k < D → K k) (f : Fr (fun k => ¬ (K k ∨ k = pb)) w W) (hm : Mine (fun k => K k ∨ k = pb) v' s' W) (hl : s'.length ≤ most) :
    PI D pb va ahead most s' K (W.setCell ⟨pb, 1, none⟩ v') ∧ Fr (fun k => ¬ K k) w (W.setCell ⟨pb, 1, none⟩ v') ∧ (∃ u, W.cell? ⟨pb, 1, none⟩ = some u) ∧ W.frozen? ⟨pb, 1, none⟩ = false := by
  obtain ⟨vo, h1, h2⟩ := h.out
  have hx : ¬ ¬ (K pb ∨ pb = pb) := fun hp => hp (.inr rfl)
  have g1 := f.cellv h1 hx
  have f2 : Fr (fun k => k = pb) W (W.setCell ⟨pb, 1, none⟩ v') := (Fr.refl _ _).setCell _ _ (.inl rfl)
  have hfz : W.frozen? ⟨pb, 1, none⟩ = false := (f.frozen (p := ⟨pb, 1, none⟩) h.lt hx).trans h.fz
  have ne : ∀ j, j ≠ 1 → ∀ v, W.cell? ⟨pb, j, none⟩ = some v → (W.setCell ⟨pb, 1, none⟩ v').cell? ⟨pb, j, none⟩ = some v := by
    intro j hj v hv
    rw [World.cell?_setCell_other _ _ _ _ (by intro e; injection e with _ e; omega)]; exact hv
  refine ⟨⟨ne 0 (by decide) _ (f.cellv h.ca hx), ne 2 (by decide) _ (f.cellv h.cm hx), ⟨v', World.cell?_setCell_same _ _ _ g1, hm.kept f2 (fun g hg => .inl (.inr hg))⟩, by rw [World.frozen?_setCell]; exact hfz, h.npb, h.dpb, ?_, hl, h.lm, h.la⟩, ?_, ⟨_, g1⟩, hfz⟩
  · exact (h.ha.kept f (fun g hg => by
      by_cases hd : D ≤ g
      · exact hd
      · exact absurd (.inl (hD g (by omega))) hg)).kept f2 (fun g hg => by subst hg; exact h.dpb)
  · exact (f.mono (fun k hk => .inl (fun h => hk (.inl h)))).trans (f2.mono (fun k hk => .inl (by subst hk; exact h.npb)))
set_option maxHeartbeats 4000000 in
theorem proom_any {D pb : Nat} {va : Value} {ahead : List By} {most : Nat} {s : List By} {K : Nat → Prop} {w : World} (n : Nat) (h : PI D pb va ahead most s K w) (hn : n < 4611686018427387904) :
    Calls Try.prog 126 #[.pointer (some ⟨pb, 0, none⟩), .int .i64 n] w fun e w' => e = .returned (.bool ((pl ahead most).room s n)) ∧ Nw w w' := by
  obtain ⟨vo, h1, h2⟩ := h.out
  obtain ⟨a, c, rfl, hc, hc2⟩ := h2.sl.form
  have hm := h.cm
  have hz : Hid ((pl ahead most).room s n = decide ((n : Int) ≤ (most : Int) - (s.length : Int))) := by
    show decide _ = decide _
    rw [decide_eq_decide]; omega
  have hle := h.le
  have hlm := h.lm
  clear h h2
  generalize (pl ahead most).room s n = R at *
  generalize s.length = len at *
  go_enter Try.func126, Try.ntmps126
  go_wp2_with fail
  go_quiet (fail)
  go_wp2
  try go_ret
  exact ⟨by rw [hz.out]; rfl, (Fr.refl _ _).drewN _⟩
set_option maxHeartbeats 4000000 in
theorem preaches_any {D pb : Nat} {va : Value} {ahead : List By} {most : Nat} {s : List By} {K : Nat → Prop} {w : World} (n : Nat) (h : PI D pb va ahead most s K w) (hn : n < 65536) :
    Calls Try.prog 125 #[.pointer (some ⟨pb, 0, none⟩), .int .i64 n] w fun e w' => e = .returned (.bool ((pl ahead most).reaches s n)) ∧ Nw w w' := by
  obtain ⟨vo, h1, h2⟩ := h.out
  obtain ⟨a, c, rfl, hc, hc2⟩ := h2.sl.form
  obtain ⟨aa, ac, rfl, hac, hac2⟩ := h.ha.form
  have hm := h.ca
  have hz : Hid ((pl ahead most).reaches s n = decide ((n : Int) ≤ (ahead.length : Int) + (s.length : Int))) := by
    show decide _ = decide _
    rw [decide_eq_decide]; omega
  have hle := h.le
  have hlm := h.lm
  have hla := h.la
  clear h h2
  generalize (pl ahead most).reaches s n = R at *
  generalize s.length = len at *
  generalize ahead.length = alen at *
  go_enter Try.func125, Try.ntmps125
  go_wp2_with fail
  go_quiet (fail)
  go_wp2
  try go_ret
  exact ⟨by rw [hz.out]; rfl, (Fr.refl _ _).drewN _⟩
set_option maxHeartbeats 4000000 in
theorem pend_any {D pb : Nat} {va : Value} {ahead : List By} {most : Nat} {s : List By} {K : Nat → Prop} {w : World} (h : PI D pb va ahead most s K w) :
    Calls Try.prog 122 #[.pointer (some ⟨pb, 0, none⟩)] w fun e w' => (∃ r, e = .returned r) ∧ PI D pb va ahead most ((pl ahead most).fin s) K w' ∧ Fr (fun k => ¬ K k) w w' := by
  go_enter Try.func122, Try.ntmps122
  go_wp2
  go_end0
  exact ⟨⟨_, rfl⟩, h, Fr.refl _ _⟩
set_option maxHeartbeats 4000000 in
theorem pplain_any {D pb : Nat} {va : Value} {ahead : List By} {most : Nat} {s : List By} {K : Nat → Prop} {w : World} {u : Value} {p : List By} (h : PI D pb va ahead most s K w) (hD : ∀ k, k < D → K k) (hK : ∀ k, K k → k < w.heap.size) (hu : Sl (fun k => D ≤ k) u p w) (hr : (pl ahead most).room s p.length = true) :
    Calls Try.prog 124 #[.pointer (some ⟨pb, 0, none⟩), u] w fun e w' => (∃ r, e = .returned r) ∧ PI D pb va ahead most ((pl ahead most).plain s p) K w' ∧ Fr (fun k => ¬ K k) w w' := by
  obtain ⟨vo, h1, h2⟩ := h.out
  have hr' : p.length + s.length ≤ most := by simpa [pl] using hr
  have hlm := h.lm
  have hlt := h.lt
  obtain ⟨v', W, hap, hM, hF⟩ := mine_app _ w (fun k hk => by rcases hk with hk | hk; exact hK k hk; omega) vo s h2 u p (hu.mono (fun _ h => h.elim)) (by omega)
  obtain ⟨k1, k2, ⟨u1, k3⟩, k4⟩ := h.put hD hF hM (by simp; omega)
  have HF : Hid (PI D pb va ahead most ((pl ahead most).plain s p) K (W.setCell ⟨pb, 1, none⟩ v') ∧ Fr (fun k => ¬ K k) w (W.setCell ⟨pb, 1, none⟩ v')) := ⟨k1, k2⟩
  have HAP : Hid (∀ ty, (Builtin.append_ #[22, 22] ty #[vo, u]).run Try.prog w = .ok v' W) := hap
  obtain ⟨a', c', rfl, _, _⟩ := hM.sl.form
  clear k1 k2 hap h hF hM hu h2 hr hr' hK hD
  generalize (s ++ p).length = ln at *
  go_enter Try.func124, Try.ntmps124
  go_wp2_with (at_builtin; refine Lib.wpList_append_run _ rfl _ _ 22 22 rfl vo u (by simp [Act.eval]) (by simp [Act.eval]) _ _ (HAP.out _) ?_)
  go_end0
  exact ⟨⟨_, rfl⟩, HF.out.1, HF.out.2⟩
end Go.Proofs.Ytdeefemeiggolaa

namespace Go.Proofs.Ytdeefemeiggolaa
open Go.RowKit
set_option linter.unusedVariables false
/-- A sequence. -/
structure Sq where
  p : List By
  b : Nat
  n : Nat
/-- A list of sequences in memory: gs the blocks of their plain bytes, qs how they lie. -/
structure SqL (K : Nat → Prop) (v : Value) (l : List Sq) (gs : List Nat) (qs : List Q) (w : World) : Prop where
  gl : gs.length = l.length
  ql : qs.length = l.length
  el : ∀ (i : Nat) (g : Nat) (q : Q) (s : Sq), gs[i]? = some g → qs[i]? = some q → l[i]? = some s → Ow g q.v s.p w ∧ q.b = s.b ∧ q.l = s.n ∧ ¬ K g
  nd : gs.Nodup
  row : (v = .slice none 0 0 ∧ l = []) ∨ ∃ g, ¬ K g ∧ g ∉ gs ∧ OwS g v qs w
theorem SqL.at {K : Nat → Prop} {v : Value} {l : List Sq} {gs : List Nat} {qs : List Q} {w : World} (h : SqL K v l gs qs w) (g : Nat) (hg : g ∈ gs) : ¬ K g ∧ g < w.heap.size := by
  obtain ⟨i, hi, rfl⟩ := List.mem_iff_getElem.1 hg
  have hil : i < l.length := by rw [← h.gl]; exact hi
  have := h.el i gs[i] (qs[i]'(by rw [h.ql]; exact hil)) l[i] (List.getElem?_eq_getElem _) (List.getElem?_eq_getElem _) (List.getElem?_eq_getElem _)
  exact ⟨this.2.2.2, this.1.lt⟩
theorem SqL.kept {K : Nat → Prop} {v : Value} {l : List Sq} {gs : List Nat} {qs : List Q} {w w' : World} {X : Nat → Prop} (h : SqL K v l gs qs w) (f : Fr X w w') (hx : ∀ g, X g → K g ∨ w.heap.size ≤ g) : SqL K v l gs qs w' := by
  refine ⟨h.gl, h.ql, fun i g q s h1 h2 h3 => ?_, h.nd, ?_⟩
  · obtain ⟨k1, k2, k3, k4⟩ := h.el i g q s h1 h2 h3
    exact ⟨k1.kept f (fun hg => by rcases hx g hg with e | e; exact k4 e; have := k1.lt; omega), k2, k3, k4⟩
  · rcases h.row with h | ⟨g, h1, h2, h3⟩
    · exact .inl h
    · exact .inr ⟨g, h1, h2, h3.kept f (fun hg => by rcases hx g hg with e | e; exact h1 e; have := h3.lt; omega)⟩
theorem SqL.nw {K : Nat → Prop} {v : Value} {l : List Sq} {gs : List Nat} {qs : List Q} {w w' : World} (h : SqL K v l gs qs w) (f : Nw w w') : SqL K v l gs qs w' := h.kept f (fun _ h => h.elim)
theorem SqL.more {K K' : Nat → Prop} {v : Value} {l : List Sq} {gs : List Nat} {qs : List Q} {w : World} (h : SqL K v l gs qs w) (hk : ∀ g, K' g → K g ∨ w.heap.size ≤ g) : SqL K' v l gs qs w := by
  refine ⟨h.gl, h.ql, fun i g q s h1 h2 h3 => ?_, h.nd, ?_⟩
  · obtain ⟨k1, k2, k3, k4⟩ := h.el i g q s h1 h2 h3
    exact ⟨k1, k2, k3, fun hg => by rcases hk g hg with e | e; exact k4 e; have := k1.lt; omega⟩
  · rcases h.row with h | ⟨g, h1, h2, h3⟩
    · exact .inl h
    · exact .inr ⟨g, fun hg => by rcases hk g hg with e | e; exact h1 e; have := h3.lt; omega, h2, h3⟩
theorem SqL.both {K K' : Nat → Prop} {v : Value} {l : List Sq} {gs : List Nat} {qs : List Q} {w w' : World} {X : Nat → Prop} (h : SqL K v l gs qs w) (f : Fr X w w') (hx : ∀ g, X g → K g ∨ w.heap.size ≤ g) (hk : ∀ g, K' g → K g ∨ w.heap.size ≤ g) : SqL K' v l gs qs w' := by
  have h' := h.kept f hx
  refine ⟨h.gl, h.ql, fun i g q s h1 h2 h3 => ?_, h.nd, ?_⟩
  · obtain ⟨k1, k2, k3, k4⟩ := h.el i g q s h1 h2 h3
    exact ⟨(h'.el i g q s h1 h2 h3).1, k2, k3, fun hg => by rcases hk g hg with e | e; exact k4 e; have := k1.lt; omega⟩
  · rcases h.row with h | ⟨g, h1, h2, h3⟩
    · exact .inl h
    · exact .inr ⟨g, fun hg => by rcases hk g hg with e | e; exact h1 e; have := h3.lt; omega, h2, h3.kept f (fun hg => by rcases hx g hg with e | e; exact h1 e; have := h3.lt; omega)⟩
theorem SqL.nil (K : Nat → Prop) (w : World) : SqL K (.slice none 0 0) [] [] [] w := ⟨rfl, rfl, fun i g q s h1 _ _ => by simp at h1, List.nodup_nil, .inl ⟨rfl, rfl⟩⟩
theorem SqL.form {K : Nat → Prop} {v : Value} {l : List Sq} {gs : List Nat} {qs : List Q} {w : World} (h : SqL K v l gs qs w) : ∃ a c, v = .slice a l.length c ∧ l.length ≤ c ∧ c < 9223372036854775808 := by
  rcases h.row with ⟨rfl, rfl⟩ | ⟨g, _, _, xs, rfl, _, h3, h4, _⟩
  · exact ⟨none, 0, rfl, by simp, by simp⟩
  · exact ⟨_, _, by rw [h.ql], by rw [← h.ql]; exact h3, h4⟩
/-! ### The lister -/
structure Ls where
  l : List Sq
  now : Sq
  f : Nat
def ls : Tk Ls where
  room _ _ := true
  plain s p := ⟨s.l, ⟨p, 0, 0⟩, 1⟩
  reaches _ _ := true
  mat s b n := ⟨s.l ++ [⟨s.now.p, b, n⟩], ⟨s.now.p, b, n⟩, 0⟩
  fin s := ⟨s.l ++ [s.now], s.now, 0⟩
/-- Parse, as the document has it. -/
def parse (b : List By) : List Sq × Nat × Nat :=
  match scanS ls b.length b ⟨[], ⟨[], 0, 0⟩, 0⟩ with
  | .bad a y => ([], a, y)
  | .good s => (s.l, 0, 0)
/-- What holds of the lister. -/
structure LI (D pb : Nat) (s : Ls) (K : Nat → Prop) (w : World) : Prop where
  list : ∃ v gs qs, w.cell? ⟨pb, 0, none⟩ = some v ∧ SqL (fun k => K k ∨ k = pb) v s.l gs qs w ∧ (s.f = 1 → ∃ gn a n c, w.cell? ⟨pb, 1, none⟩ = some (.slice a n c) ∧ w.cell? ⟨pb, 2, none⟩ = some (.int .i64 s.now.b) ∧ w.cell? ⟨pb, 3, none⟩ = some (.int .i64 s.now.n) ∧ Ow gn (.slice a n c) s.now.p w ∧ ¬ K gn ∧ gn ≠ pb ∧ gn ∉ gs ∧ ∀ g, OwS g v qs w → g ≠ gn)
  cells : ∀ j, j < 4 → ∃ u, w.cell? ⟨pb, j, none⟩ = some u ∧ w.frozen? ⟨pb, j, none⟩ = false
  npb : ¬ K pb
  dpb : D ≤ pb
theorem LI.lt {D pb : Nat} {s : Ls} {K : Nat → Prop} {w : World} (h : LI D pb s K w) : pb < w.heap.size := by
  obtain ⟨u, h1, _⟩ := h.cells 0 (by decide)
  exact World.block_lt_of_cell? _ _ h1
theorem OwS.uniq {g g' : Nat} {v : Value} {l l' : List Q} {w w' : World} (h : OwS g v l w) (h' : OwS g' v l' w') : g = g' := by
  obtain ⟨xs, h1, _⟩ := h
  obtain ⟨ys, h2, _⟩ := h'
  rw [h1] at h2
  injection h2 with h2
  injection h2 with h2
  injection h2
theorem LI.keep' {D pb : Nat} {s : Ls} {K K' : Nat → Prop} {w w' : World} {X : Nat → Prop} (h : LI D pb s K w) (f : Fr X w w') (hx : ∀ k, X k → K k) (hk : ∀ k, K' k → K k ∨ w.heap.size ≤ k) : LI D pb s K' w' := by
  obtain ⟨v, gs, qs, h1, h2, h3⟩ := h.list
  have hlt := h.lt
  have hxp : ¬ X pb := fun hp => h.npb (hx pb hp)
  have hKl : ∀ g, g < w.heap.size → ¬ K g → ¬ K' g := fun g hg hn hk' => by
    rcases hk g hk' with e | e
    · exact hn e
    · omega
  refine ⟨⟨v, gs, qs, f.cellv h1 hxp, h2.both f (fun g hg => .inl (.inl (hx g hg))) (fun g hg => ?_), fun hf => ?_⟩, fun j hj => ?_, hKl pb hlt h.npb, h.dpb⟩
  · rcases hg with hg | hg
    · rcases hk g hg with e | e
      · exact .inl (.inl e)
      · exact .inr e
    · exact .inl (.inr hg)
  · obtain ⟨gn, a, n, c, k1, k2, k3, k4, k5, k6, k7, k8⟩ := h3 hf
    refine ⟨gn, a, n, c, f.cellv k1 hxp, f.cellv k2 hxp, f.cellv k3 hxp, k4.kept f (fun hg => k5 (hx gn hg)), hKl gn k4.lt k5, k6, k7, fun g hg => ?_⟩
    rcases h2.row with ⟨e1, e2⟩ | ⟨g1, _, _, e3⟩
    · obtain ⟨xs, e, _⟩ := hg
      rw [e1] at e; cases e
    · rw [OwS.uniq hg e3]; exact k8 g1 e3
  · obtain ⟨u, k1, k2⟩ := h.cells j hj
    exact ⟨u, f.cellv k1 hxp, (f.frozen (p := ⟨pb, j, none⟩) hlt hxp).trans k2⟩
end Go.Proofs.Ytdeefemeiggolaa

namespace Go.Proofs.Ytdeefemeiggolaa
open Go.RowKit
set_option linter.unusedVariables false
/-- What match appends first, out of ahead. -/
theorem first_part (ahead s : List By) (back n : Nat) (h1 : s.length < back) (h2 : back ≤ ahead.length + s.length) (hn : n ≤ back - s.length) :
    Per (ahead ++ s) back (ahead ++ (s ++ (ahead.drop (ahead.length - (back - s.length))).take n)) := by
  rw [← List.append_assoc]
  refine (Per.refl (ahead ++ s) back).app (fun i hi => ?_)
  have hi' : i < n := by simp at hi; omega
  rw [List.getElem?_append_left (by simp; omega), List.getElem?_append_left (by simp; omega), List.getElem?_take, if_pos hi', List.getElem?_drop]
  congr 1
  simp; omega
/-- What the loop of match appends. -/
theorem loop_part (ahead s out : List By) (back m fr n : Nat) (hb : 1 ≤ back) (hb2 : back ≤ (ahead ++ s).length) (hp : Per (ahead ++ s) back (ahead ++ out)) (hm : 1 ≤ m) (hl : out.length = fr + m * back) (hs : s.length ≤ fr + back) (hn : n ≤ out.length - fr) :
    Per (ahead ++ s) back (ahead ++ (out ++ (out.drop fr).take n)) := by
  rw [← List.append_assoc]
  refine hp.app (fun i hi => ?_)
  have hi' : i < n := by simp at hi; omega
  have hle := hp.le
  rw [List.length_append, List.length_append] at hle
  obtain ⟨t, rfl⟩ : ∃ t, m = t + 1 := ⟨m - 1, by omega⟩
  rw [Nat.add_mul, Nat.one_mul] at hl
  rw [List.getElem?_take, if_pos hi', List.getElem?_drop]
  have e1 : out[fr + i]? = (ahead ++ out)[ahead.length + fr + i]? := by
    rw [List.getElem?_append_right (by omega)]; congr 1; omega
  rw [e1]
  have e2 : (ahead ++ out).length + i - back = (ahead.length + fr + i) + t * back := by rw [List.length_append]; omega
  rw [e2]
  by_cases hlt : ahead.length + fr + i + t * back < (ahead ++ out).length
  · rw [List.getElem?_append_left hlt, hp.times _ t (by rw [List.length_append]; omega) hlt hb]
  · rw [List.length_append] at hlt
    have hn' : n ≤ out.length - fr := hn
    rw [List.getElem?_append_right (l₁ := ahead ++ out) (by rw [List.length_append]; omega), List.getElem?_take, if_pos (by rw [List.length_append]; omega), List.getElem?_drop]
    have e3 : out[fr + (ahead.length + fr + i + t * back - (ahead ++ out).length)]? = (ahead ++ out)[ahead.length + fr + i - back]? := by
      rw [List.getElem?_append_right (by omega)]; congr 1; rw [List.length_append]; omega
    rw [e3]
    exact hp.per _ (by rw [List.length_append]; omega) (by rw [List.length_append]; omega)
/-- How the loop of match stands. -/
structure MI (D pb : Nat) (va : Value) (ahead : List By) (most : Nat) (s : List By) (back n fr : Nat) (K : Nat → Prop) (w : World) (out : List By) (len : Nat) (wr : World) : Prop where
  pi : PI D pb va ahead most out K wr
  ff : Fr (fun k => ¬ K k) w wr
  per : Per (ahead ++ s) back (ahead ++ out)
  sum : out.length + len = s.length + n
  m : 0 < len → ∃ m, 1 ≤ m ∧ out.length = fr + m * back
  lo : 0 < len → s.length ≤ fr + back
theorem MI.nw {D pb : Nat} {va : Value} {ahead : List By} {most : Nat} {s : List By} {back n fr : Nat} {K : Nat → Prop} {w : World} {out : List By} {len : Nat} {wr V : World} (h : MI D pb va ahead most s back n fr K w out len wr) (f : Nw wr V) : MI D pb va ahead most s back n fr K w out len V :=
  ⟨h.pi.grow f (fun k hk => .inl hk), h.ff.trans f.any, h.per, h.sum, h.m, h.lo⟩
/-- A round. -/
theorem MI.round {D pb : Nat} {va : Value} {ahead : List By} {most : Nat} {s : List By} {back n fr : Nat} {K : Nat → Prop} {w : World} {out : List By} {len : Nat} {wr : World} (h : MI D pb va ahead most s back n fr K w out len wr) (hb : 1 ≤ back) (hb2 : back ≤ (ahead ++ s).length) (hD : ∀ k, k < D → K k) (hK : ∀ k, K k → k < w.heap.size) (hsn : s.length + n ≤ most) (hlen : 0 < len) :
    ∃ g c v' W u, wr.cell? ⟨pb, 1, none⟩ = some (.slice (some ⟨g, 0, none⟩) out.length c) ∧ fr < out.length ∧ out.length ≤ c ∧ c < 9223372036854775808 ∧ W.cell? ⟨pb, 1, none⟩ = some u ∧ W.frozen? ⟨pb, 1, none⟩ = false ∧
      Hid (∀ ty, (Builtin.append_ #[22, 22] ty #[.slice (some ⟨g, 0, none⟩) out.length c, .slice (some ⟨g, fr, none⟩) (min len (out.length - fr)) (c - fr)]).run Try.prog wr = .ok v' W) ∧ (∃ a l c, v' = .slice a l c) ∧
      Hid (∀ V, Nw (W.setCell ⟨pb, 1, none⟩ v') V → ∃ out', out'.length = out.length + min len (out.length - fr) ∧ MI D pb va ahead most s back n fr K w out' (len - min len (out.length - fr)) V) := by
  obtain ⟨vo, h1, h2⟩ := h.pi.out
  obtain ⟨m, hm, hol⟩ := h.m hlen
  have hlo := h.lo hlen
  have hsum := h.sum
  have hlm := h.pi.lm
  have hfr : fr < out.length := by
    have : 1 * 1 ≤ m * back := Nat.mul_le_mul hm hb
    omega
  rcases h2 with ⟨_, rfl⟩ | ⟨g, hg, hO⟩
  · simp at hfr
  have hO' := hO
  obtain ⟨xs, rfl, x2, x3, x4, x5⟩ := hO'
  generalize hc : xs.length = c at *
  obtain ⟨q, hq⟩ : ∃ q, q = min len (out.length - fr) := ⟨_, rfl⟩
  rw [← hq]
  have hql : q ≤ out.length - fr := by omega
  have hpl : ((out.drop fr).take q).length = q := by simp; omega
  have hsl : Sl (fun _ => False) (.slice (some ⟨g, fr, none⟩) q (c - fr)) ((out.drop fr).take q) wr := by
    obtain ⟨o1, c1, e1, _, _, hrd⟩ := hO.slb
    injection e1 with e1 _ e3
    injection e1 with e1
    injection e1 with _ e1
    subst e1
    refine .inr ⟨g, fun h => h, fr, c - fr, by rw [hpl], by rw [hpl]; omega, by omega, ?_⟩
    have := (hrd.drop fr).take q
    rw [Nat.zero_add] at this; exact this
  have hlt := h.pi.lt
  obtain ⟨v', W, hap, hM, hF⟩ := mine_app (fun k => K k ∨ k = pb) wr (fun k hk => by rcases hk with hk | hk; exact Nat.lt_of_lt_of_le (hK k hk) h.ff.size; omega) _ out (.inr ⟨g, hg, hO⟩) _ _ hsl (by rw [hpl]; omega)
  obtain ⟨k1, k2, ⟨u1, k3⟩, k4⟩ := h.pi.put hD hF hM (by rw [List.length_append, hpl]; omega)
  have hform := hM.sl.form
  refine ⟨g, c, v', W, u1, h1, hfr, x3, x4, k3, k4, hap, ?_, ?_⟩
  · obtain ⟨a, c, h, _⟩ := hform
    exact ⟨_, _, _, h⟩
  · intro V hV
    refine ⟨out ++ (out.drop fr).take q, by rw [List.length_append, hpl], ⟨k1.grow hV (fun k hk => .inl hk), (h.ff.trans k2).trans hV.any, loop_part ahead s out back m fr q hb hb2 h.per hm hol hlo hql, ?_, ?_, fun _ => hlo⟩⟩
    · rw [List.length_append, hpl]; omega
    · intro hl
      have hqe : q = out.length - fr := by omega
      refine ⟨2 * m, by omega, ?_⟩
      rw [List.length_append, hpl, Nat.mul_assoc, Nat.two_mul]; omega
/-- At the end. -/
theorem MI.done {D pb : Nat} {va : Value} {ahead : List By} {most : Nat} {s : List By} {back n fr : Nat} {K : Nat → Prop} {w : World} {out : List By} {wr : World} (h : MI D pb va ahead most s back n fr K w out 0 wr) (hb : 1 ≤ back) (hb2 : back ≤ (ahead ++ s).length) : PI D pb va ahead most ((pl ahead most).mat s back n) K wr := by
  have e := h.per.cop hb hb2 n (by rw [List.length_append, List.length_append]; have := h.sum; omega)
  have e2 := pl_mat ahead most s back n hb (by rw [← List.length_append]; exact hb2)
  have e3 : out = (pl ahead most).mat s back n := by
    rw [← e] at e2
    exact (List.append_cancel_left e2).symm
  rw [← e3]; exact h.pi
end Go.Proofs.Ytdeefemeiggolaa

namespace Go.Proofs.Ytdeefemeiggolaa
open Go.RowKit
set_option linter.unusedVariables false
set_option maxHeartbeats 8000000 in
set_option maxRecDepth 100000 in
/-- match, where nothing of ahead is wanted. -/
theorem pmatch_in {D pb : Nat} {va : Value} {ahead : List By} {most : Nat} {s : List By} {K : Nat → Prop} {w : World} (back n : Nat) (h : PI D pb va ahead most s K w) (hD : ∀ k, k < D → K k) (hK : ∀ k, K k → k < w.heap.size) (hb : 1 ≤ back) (hb2 : back ≤ s.length) (hn : s.length + n ≤ most) :
    Calls Try.prog 123 #[.pointer (some ⟨pb, 0, none⟩), .int .i64 back, .int .i64 n] w fun e w' => (∃ r, e = .returned r) ∧ PI D pb va ahead most ((pl ahead most).mat s back n) K w' ∧ Fr (fun k => ¬ K k) w w' := by
  obtain ⟨P, hP⟩ : ∃ P : Ending → World → Prop, P = fun e w' => (∃ r, e = .returned r) ∧ PI D pb va ahead most ((pl ahead most).mat s back n) K w' ∧ Fr (fun k => ¬ K k) w w' := ⟨_, rfl⟩
  rw [← hP]
  have HP : Hid (P = fun e w' => (∃ r, e = .returned r) ∧ PI D pb va ahead most ((pl ahead most).mat s back n) K w' ∧ Fr (fun k => ¬ K k) w w') := hP
  clear hP
  obtain ⟨vo, h1, h2⟩ := h.out
  obtain ⟨a0, c0, rfl, hc0, hc02⟩ := h2.sl.form
  have hlm := h.lm
  have HI0 : Hid (MI D pb va ahead most s back n (s.length - back) K w s n w) := ⟨h, Fr.refl _ _, Per.refl _ _, rfl, fun _ => ⟨1, Nat.le_refl _, by omega⟩, fun _ => by omega⟩
  have HRD : Hid (∀ out len wr, 0 < len → MI D pb va ahead most s back n (s.length - back) K w out len wr → _) := fun out len wr hl hm => hm.round hb (by simp; omega) hD hK hn hl
  have HDN : Hid (∀ out wr, MI D pb va ahead most s back n (s.length - back) K w out 0 wr → (PI D pb va ahead most ((pl ahead most).mat s back n) K wr ∧ Fr (fun k => ¬ K k) w wr)) := fun out wr hm => ⟨hm.done hb (by simp; omega), hm.ff⟩
  have HL : Hid (∀ out len wr, MI D pb va ahead most s back n (s.length - back) K w out len wr → out.length + len = s.length + n ∧ ∃ a c, wr.cell? ⟨pb, 1, none⟩ = some (.slice a out.length c)) := fun out len wr hm => ⟨hm.sum, by
    obtain ⟨vo, q1, q2⟩ := hm.pi.out
    obtain ⟨a, c, rfl, _⟩ := q2.sl.form
    exact ⟨a, c, q1⟩⟩
  clear h h2
  obtain ⟨fr, hfr⟩ : ∃ fr, fr = s.length - back := ⟨_, rfl⟩
  rw [← hfr] at HI0 HRD HDN HL
  generalize hls : s.length = ls at *
  have hz1 : (ls : Int) - (back : Int) = (fr : Int) := by omega
  have hz2 : ¬ 0 < (back : Int) - (ls : Int) := by omega
  have hz3 : max (fr : Int) 0 = fr := by omega
  have hfr' : Hid (fr = ls - back) := hfr
  have hls' : Hid (s.length = ls) := hls
  clear hfr hls
  go_enter Try.func123, Try.ntmps123
  go_wp2
  go_loopg [2] (n + 1) (fun kx l wr => ∃ (out : List By) (len : Nat), len < kx ∧ l = .int .i64 len ∧ Hid (MI D pb va ahead most s back n fr K w out len wr))
  case atStart => exact ⟨s, n, by omega, rfl, HI0⟩
  case round =>
    obtain ⟨out, len, hkx, rfl, HI⟩ := hrel
    clear HI0
    by_cases hl : 0 < len
    · obtain ⟨g, c, v', W, u, q1, q2, q3, q4, q5, q6, HAP, ⟨a', l', c', hv'⟩, HM⟩ := HRD.out out len wr.drew hl (HI.out.nw (Fr.refl _ _).drew)
      have q1' : wr.cell? ⟨pb, 1, none⟩ = some (.slice (some ⟨g, 0, none⟩) out.length c) := q1
      clear q1
      obtain ⟨hsum, _⟩ := HL.out out len wr HI.out
      subst hv'
      clear HRD HDN HL HI
      generalize hol : out.length = ol at *
      generalize hq : min len (ol - fr) = q at *
      have hz5 : min (len : Int) ((ol : Int) - (fr : Int)) = (q : Int) := by omega
      have hz8 : (len : Int) - (q : Int) = ((len - q : Nat) : Int) := by omega
      have hz6 : IntKind.i64.wrap ((fr : Int) + (q : Int)) = (fr : Int) + (q : Int) := by rw [IntKind.wrap_i64]; omega
      have hz9 : (fr : Int) + (q : Int) ≤ (c : Int) := by omega
      have hz10 : (0 : Int) ≤ (fr : Int) + (q : Int) := by omega
      have hz11 : ((fr : Int) + (q : Int)).toNat = fr + q := by omega
      have hz7 : ¬ c = fr := by omega
      have hqb : q ≤ ol - fr := by omega
      have hq1 : 1 ≤ q := by omega
      have hol' : Hid (out.length = ol) := hol
      have hq' : Hid (min len (ol - fr) = q) := hq
      have hqle : q ≤ len := by omega
      clear hol hq
      go_wp2_with fail
      go_region_law (first
        | (refine step_append_run rfl _ _ rfl (.slice (some ⟨g, 0, none⟩) ol c) (.slice (some ⟨g, fr, none⟩) q (c - fr)) (by first | rfl | simp [Act.eval, Act.put]) (by first | rfl | simp [Act.eval, Act.put]) _ _ (HAP.out) ?_))
      all_goals go_wp2_with fail
      all_goals go_roundg len
      all_goals (first
        | omega
        | (obtain ⟨out', h1', h2'⟩ := HM.out _ (Fr.refl _ _); exact ⟨out', len - q, by omega, by first | rfl | (congr 1), h2'⟩))
    · obtain rfl : len = 0 := by omega
      obtain ⟨k1, k2⟩ := HDN.out out wr HI.out
      have hz0 : ¬ (0 : Int) < ((0 : Nat) : Int) := by decide
      go_wp2
      go_end0
      rw [HP.out]
      exact ⟨⟨_, rfl⟩, k1, k2⟩
end Go.Proofs.Ytdeefemeiggolaa

namespace Go.Proofs.Ytdeefemeiggolaa
open Go.RowKit
set_option linter.unusedVariables false
/-- What match takes out of ahead. -/
theorem ahead_step {D pb : Nat} {ga oa ac : Nat} {ahead : List By} {most : Nat} {s : List By} {K : Nat → Prop} {w : World} (back n : Nat) (h : PI D pb (.slice (some ⟨ga, oa, none⟩) ahead.length ac) ahead most s K w) (hr : Rd ga oa ahead w) (hac : ahead.length ≤ ac) (hac2 : ac < 9223372036854775808) (hD : ∀ k, k < D → K k) (hK : ∀ k, K k → k < w.heap.size) (hb2 : s.length < back) (hb3 : back ≤ ahead.length + s.length) (hn : s.length + n ≤ most) (V : World) (hV : Nw w V) (x : Nat) (hx : x = ahead.length - (back - s.length)) (q : Nat) (hq : q = min n (back - s.length)) :
    ∃ a c v' W u, w.cell? ⟨pb, 1, none⟩ = some (.slice a s.length c) ∧ W.cell? ⟨pb, 1, none⟩ = some u ∧ W.frozen? ⟨pb, 1, none⟩ = false ∧
      Hid (∀ ty, (Builtin.append_ #[22, 22] ty #[.slice a s.length c, .slice (some ⟨ga, oa + x, none⟩) q (ac - x)]).run Try.prog V = .ok v' W) ∧ (∃ a c, v' = .slice a (s.length + q) c) ∧
      Hid (MI D pb (.slice (some ⟨ga, oa, none⟩) ahead.length ac) ahead most s back n 0 K w (s ++ (ahead.drop x).take q) (n - q) (W.setCell ⟨pb, 1, none⟩ v')) := by
  obtain ⟨vo, h1, h2⟩ := h.out
  have hlm := h.lm
  have hpl : ((ahead.drop x).take q).length = q := by simp; omega
  have hsl : Sl (fun _ => False) (.slice (some ⟨ga, oa + x, none⟩) q (ac - x)) ((ahead.drop x).take q) V :=
    .inr ⟨ga, fun h => h, oa + x, ac - x, by rw [hpl], by rw [hpl]; omega, by omega, ((hr.drop x).take q).nw hV⟩
  have hlt := h.lt
  have hsz := hV.size
  obtain ⟨v', W, hap, hM, hF⟩ := mine_app (fun k => K k ∨ k = pb) V (fun k hk => by rcases hk with hk | hk; have := hK k hk; omega; omega) vo s (h2.nw hV) _ _ hsl (by rw [hpl]; omega)
  obtain ⟨k1, k2, ⟨u1, k3⟩, k4⟩ := (h.grow hV (fun k hk => .inl hk)).put hD hF hM (by rw [List.length_append, hpl]; omega)
  obtain ⟨a, c, rfl, hc, hc2⟩ := h2.sl.form
  obtain ⟨a', c', e', _, _⟩ := hM.sl.form
  refine ⟨a, c, v', W, u1, h1, k3, k4, hap, ⟨a', c', by rw [e', List.length_append, hpl]⟩, ?_⟩
  refine ⟨k1, hV.any.trans k2, ?_, ?_, ?_, ?_⟩
  · rw [hx]; exact first_part ahead s back q hb2 hb3 (by omega)
  · rw [List.length_append, hpl]; omega
  · intro hl
    exact ⟨1, Nat.le_refl _, by rw [List.length_append, hpl]; omega⟩
  · intro _; omega
set_option maxHeartbeats 8000000 in
set_option maxRecDepth 100000 in
/-- match, where something of ahead is wanted. -/
theorem pmatch_out {D pb : Nat} {ga oa ac : Nat} {ahead : List By} {most : Nat} {s : List By} {K : Nat → Prop} {w : World} (back n : Nat) (h : PI D pb (.slice (some ⟨ga, oa, none⟩) ahead.length ac) ahead most s K w) (hr : Rd ga oa ahead w) (hac : ahead.length ≤ ac) (hac2 : ac < 9223372036854775808) (hD : ∀ k, k < D → K k) (hK : ∀ k, K k → k < w.heap.size) (hb2 : s.length < back) (hbk : back < 65536) (hb3 : back ≤ ahead.length + s.length) (hn : s.length + n ≤ most) :
    Calls Try.prog 123 #[.pointer (some ⟨pb, 0, none⟩), .int .i64 back, .int .i64 n] w fun e w' => (∃ r, e = .returned r) ∧ PI D pb (.slice (some ⟨ga, oa, none⟩) ahead.length ac) ahead most ((pl ahead most).mat s back n) K w' ∧ Fr (fun k => ¬ K k) w w' := by
  obtain ⟨va, hva⟩ : ∃ va : Value, va = .slice (some ⟨ga, oa, none⟩) ahead.length ac := ⟨_, rfl⟩
  obtain ⟨P, hP⟩ : ∃ P : Ending → World → Prop, P = fun e w' => (∃ r, e = .returned r) ∧ PI D pb (.slice (some ⟨ga, oa, none⟩) ahead.length ac) ahead most ((pl ahead most).mat s back n) K w' ∧ Fr (fun k => ¬ K k) w w' := ⟨_, rfl⟩
  rw [← hP]
  have HP : Hid (P = fun e w' => (∃ r, e = .returned r) ∧ PI D pb (.slice (some ⟨ga, oa, none⟩) ahead.length ac) ahead most ((pl ahead most).mat s back n) K w' ∧ Fr (fun k => ¬ K k) w w') := hP
  clear hP
  obtain ⟨vo, h1, h2⟩ := h.out
  obtain ⟨a0, c0, rfl, hc0, hc02⟩ := h2.sl.form
  have hlm := h.lm
  have hla := h.la
  have hca := h.ca
  have HST : Hid (∀ V, Nw w V → ∀ x, x = ahead.length - (back - s.length) → ∀ q, q = min n (back - s.length) → _) := fun V hV x hx q hq => ahead_step back n h hr hac hac2 hD hK hb2 hb3 hn V hV x hx q hq
  have HRD : Hid (∀ out len wr, 0 < len → MI D pb (.slice (some ⟨ga, oa, none⟩) ahead.length ac) ahead most s back n 0 K w out len wr → _) := fun out len wr hl hm => hm.round (by omega) (by simp; omega) hD hK hn hl
  have HDN : Hid (∀ out wr, MI D pb (.slice (some ⟨ga, oa, none⟩) ahead.length ac) ahead most s back n 0 K w out 0 wr → (PI D pb (.slice (some ⟨ga, oa, none⟩) ahead.length ac) ahead most ((pl ahead most).mat s back n) K wr ∧ Fr (fun k => ¬ K k) w wr)) := fun out wr hm => ⟨hm.done (by omega) (by simp; omega), hm.ff⟩
  have HL : Hid (∀ out len wr, MI D pb (.slice (some ⟨ga, oa, none⟩) ahead.length ac) ahead most s back n 0 K w out len wr → out.length + len = s.length + n) := fun out len wr hm => hm.sum
  clear h h2 hr hD hK
  generalize hls : s.length = ls at *
  generalize hal : ahead.length = al at *
  have hz1 : (back : Int) - (ls : Int) = ((back - ls : Nat) : Int) := by omega
  obtain ⟨x, hx⟩ : ∃ x, x = al - (back - ls) := ⟨_, rfl⟩
  obtain ⟨q, hq⟩ : ∃ q, q = min n (back - ls) := ⟨_, rfl⟩
  have hz2 : (al : Int) - ((back - ls : Nat) : Int) = (x : Int) := by omega
  have hz3 : (0 : Int) < ((back - ls : Nat) : Int) := by omega
  have hz4 : min (n : Int) ((back - ls : Nat) : Int) = (q : Int) := by omega
  have hz5 : (x : Int) ≤ (al : Int) := by omega
  have hz6 : al - x = back - ls := by omega
  have hz7 : ¬ ac = x := by omega
  have hz8 : q ≤ back - ls := by omega
  have hz9 : (q : Int) ≤ ((ac - x : Nat) : Int) := by omega
  have hz10 : (n : Int) - (q : Int) = ((n - q : Nat) : Int) := by omega
  have hz11 : max (((ls + q : Nat) : Int) - (back : Int)) 0 = 0 := by omega
  have hz12 : max ((ls : Int) + (q : Int) - (back : Int)) 0 = 0 := by omega
  have hx' : Hid (x = al - (back - ls)) := hx
  have hq' : Hid (q = min n (back - ls)) := hq
  have hls' : Hid (s.length = ls) := hls
  have hal' : Hid (ahead.length = al) := hal
  have hb2' : Hid (ls < back) := hb2
  have hzx : x ≤ al := by omega
  generalize hbl : back - ls = bl at *
  clear hx hq hls hal hbl
  go_enter Try.func123, Try.ntmps123
  go_wp2_with fail
  go_quiet (fail)
  go_wp2_with fail
  obtain ⟨a1, c1, v', W, u, q1, q5, q6, HAP, ⟨a', c', hv'⟩, HI0⟩ := HST.out ((w.drewN nq).drew) ((Fr.refl _ _).drewN _).drew x hx'.out q hq'.out
  rw [h1] at q1
  injection q1 with q1
  injection q1 with q1 _ q1'
  subst q1 q1' hv'
  clear HST
  go_region_law (first
    | (refine step_append_run rfl _ _ rfl (.slice a0 ls c0) (.slice (some ⟨ga, oa + x, none⟩) q (ac - x)) (by first | rfl | simp [Act.eval, Act.put]) (by first | rfl | simp [Act.eval, Act.put]) _ _ (HAP.out) ?_))
  all_goals go_wp2_with fail
  clear hz1 hz2 hz3 hz4 hz5 hz6 hz7 hz8 hz9 hz10 hz11 hz12 HAP q5 q6 h1 hca hzx
  generalize hV0 : W.setCell ⟨pb, 1, none⟩ (.slice a' (ls + q) c') = V0 at *
  generalize (n - q : Nat) = l0 at *
  generalize s ++ (ahead.drop x).take q = o0 at *
  clear hV0
  go_loopg [2] (l0 + 1) (fun kx l wr => ∃ (out : List By) (len : Nat), len < kx ∧ l = .int .i64 len ∧ Hid (MI D pb (.slice (some ⟨ga, oa, none⟩) al ac) ahead most s back n 0 K w out len wr))
  case atStart => exact ⟨o0, l0, by omega, rfl, HI0⟩
  case round =>
    obtain ⟨out, len, hkx, rfl, HI⟩ := hrel
    clear HI0
    by_cases hl : 0 < len
    · obtain ⟨g, c, v', W, u, q1, q2, q3, q4, q5, q6, HAP, ⟨a', l', c', hv'⟩, HM⟩ := HRD.out out len wr.drew hl (HI.out.nw (Fr.refl _ _).drew)
      have q1' : wr.cell? ⟨pb, 1, none⟩ = some (.slice (some ⟨g, 0, none⟩) out.length c) := q1
      clear q1
      have hsum := HL.out out len wr HI.out
      subst hv'
      clear HRD HDN HL HI
      generalize hol : out.length = ol at *
      rw [Nat.sub_zero, Nat.sub_zero] at HAP
      rw [Nat.sub_zero] at HM
      generalize hqq : min len ol = qq at *
      have hz5 : min (len : Int) (ol : Int) = (qq : Int) := by omega
      have hz8 : (len : Int) - (qq : Int) = ((len - qq : Nat) : Int) := by omega
      have hz6 : (qq : Int) ≤ (c : Int) := by omega
      have hz6' : IntKind.i64.wrap (qq : Int) = (qq : Int) := by rw [IntKind.wrap_i64]; omega
      have hz7 : ¬ c = 0 := by omega
      have hq1 : 1 ≤ qq := by omega
      have hqle : qq ≤ len := by omega
      have hol' : Hid (out.length = ol) := hol
      have hqq' : Hid (min len ol = qq) := hqq
      clear hol hqq
      go_wp2_with fail
      go_region_law (first
        | (refine step_append_run rfl _ _ rfl (.slice (some ⟨g, 0, none⟩) ol c) (.slice (some ⟨g, 0, none⟩) qq c) (by first | rfl | simp [Act.eval, Act.put]) (by first | rfl | simp [Act.eval, Act.put]) _ _ (HAP.out) ?_))
      all_goals go_wp2_with fail
      all_goals go_roundg len
      all_goals (first
        | omega
        | (obtain ⟨out', h1', h2'⟩ := HM.out _ (Fr.refl _ _); exact ⟨out', len - qq, by omega, by first | rfl | (congr 1), h2'⟩))
    · obtain rfl : len = 0 := by omega
      obtain ⟨k1, k2⟩ := HDN.out out wr HI.out
      have hz0 : ¬ (0 : Int) < ((0 : Nat) : Int) := by decide
      go_wp2
      go_end0
      rw [HP.out]
      exact ⟨⟨_, rfl⟩, k1, k2⟩
theorem pmatch_any {D pb : Nat} {va : Value} {ahead : List By} {most : Nat} {s : List By} {K : Nat → Prop} {w : World} (back n : Nat) (h : PI D pb va ahead most s K w) (hD : ∀ k, k < D → K k) (hK : ∀ k, K k → k < w.heap.size) (hb : 1 ≤ back) (hb2 : back < 65536) (hr : (pl ahead most).reaches s back = true) (hn : (pl ahead most).room s n = true) :
    Calls Try.prog 123 #[.pointer (some ⟨pb, 0, none⟩), .int .i64 back, .int .i64 n] w fun e w' => (∃ r, e = .returned r) ∧ PI D pb va ahead most ((pl ahead most).mat s back n) K w' ∧ Fr (fun k => ¬ K k) w w' := by
  have hr' : back ≤ ahead.length + s.length := by simpa [pl] using hr
  have hn' : n + s.length ≤ most := by simpa [pl] using hn
  by_cases hc : back ≤ s.length
  · exact pmatch_in back n h hD hK hb hc (by omega)
  · have ha := h.ha
    rcases ha with ⟨a, rfl, rfl⟩ | ⟨g, hg, o, c, rfl, h1, h2, h3⟩
    · simp at hr'; omega
    · exact pmatch_out back n h h3 h1 h2 hD hK (by omega) hb2 hr' (by omega)
/-- The player is one that is told of sequences. -/
theorem player_tkr (D pb : Nat) (va : Value) (ahead : List By) (most : Nat) : Tkr (pl ahead most) D 150 (.pointer (some ⟨pb, 0, none⟩)) 126 124 125 123 122 (PI D pb va ahead most) where
  mR := fun w => by kernel_rfl
  mP := fun w => by kernel_rfl
  mC := fun w => by kernel_rfl
  mM := fun w => by kernel_rfl
  mE := fun w => by kernel_rfl
  eR := enters_of Try.func126 (by kernel_rfl) rfl
  eP := enters_of Try.func124 (by kernel_rfl) rfl
  eC := enters_of Try.func125 (by kernel_rfl) rfl
  eM := enters_of Try.func123 (by kernel_rfl) rfl
  eE := enters_of Try.func122 (by kernel_rfl) rfl
  grow := fun h f hk => h.grow f hk
  keep := fun h f hk => h.keep f hk
  room := fun n h hn => proom_any n h hn
  plain := fun h hD hK hu _ hr => pplain_any h hD hK hu hr
  reaches := fun n h hn => preaches_any n h hn
  mat := fun back n h hD hK hb hb2 _ hr hn => pmatch_any back n h hD hK hb hb2 hr hn
  fin := fun h _ _ => pend_any h
end Go.Proofs.Ytdeefemeiggolaa

namespace Go.Proofs.Ytdeefemeiggolaa
open Go.RowKit
set_option linter.unusedVariables false
theorem Sl.open {D : Nat} {v : Value} {b : List By} {w : World} (h : Sl (fun k => D ≤ k) v b w) : ∃ a c, v = .slice a b.length c ∧ b.length ≤ c ∧ c < 9223372036854775808 ∧ (b ≠ [] → ∃ g o, a = some ⟨g, o, none⟩ ∧ g < D ∧ Rd g o b w) := by
  rcases h with ⟨a, rfl, rfl⟩ | ⟨g, hg, o, c, rfl, h1, h2, h3⟩
  · exact ⟨a, 0, rfl, by simp, by simp, fun h => absurd rfl h⟩
  · exact ⟨_, c, rfl, h1, h2, fun _ => ⟨g, o, rfl, by omega, h3⟩⟩
theorem canHold_yes (m : Int) (h0 : 0 ≤ m) (h1 : m ≤ 4194304) (w : World) : Calls Try.prog 97 #[.int .i64 m] w fun e w' => e = .returned (.bool true) ∧ w' = w := by
  go_enter Try.func97, Try.ntmps97
  go_wp2
  try go_ret
  exact ⟨by simp, rfl⟩
/-- What Decode answers. -/
def Decd (r : List By × Nat × Nat) (w : World) (e : Ending) (w' : World) : Prop :=
  ∃ a c, e = .returned (.tuple #[.slice a r.1.length c, .int .i64 r.2.1, .int .i64 r.2.2]) ∧ Mine (fun k => k < w.heap.size) (.slice a r.1.length c) r.1 w' ∧ Nw w w'
theorem Decd.none {x y : Nat} {w w' : World} (h : Nw w w') : Decd ([], x, y) w (.returned (.tuple #[.slice none 0 0, .int .i64 x, .int .i64 y])) w' := ⟨_, _, rfl, Mine.nil _ _, h⟩
set_option maxHeartbeats 8000000 in
set_option maxRecDepth 100000 in
theorem decode_any (w : World) (vb va : Value) (b ahead : List By) (most : Int) (hb : Old w vb b) (ha : Old w va ahead) (hbl : b.length ≤ 140737488351232) (hal : ahead.length ≤ 140737488351232) :
    Calls Try.prog 96 #[vb, va, .int .i64 most] w (Decd (dec b ahead most) w) := by
  obtain ⟨P, hP⟩ : ∃ P, P = Decd (dec b ahead most) w := ⟨_, rfl⟩
  rw [← hP]
  have HP : Hid (P = Decd (dec b ahead most) w) := hP
  clear hP
  by_cases hm : most < 0 ∨ 4194304 < most
  · have HF : Hid (P (.returned (.tuple #[.slice none 0 0, .int .i64 0, .int .i64 1])) w) := by
      show P _ _
      rw [HP.out, dec, if_pos hm]
      exact Decd.none (Fr.refl _ _)
    clear HP hb ha
    rcases hm with hm | hm
    · go_enter Try.func96, Try.ntmps96
      go_wp2
      exact HF.out
    · have h0 : 0 ≤ most := by omega
      have h1 : ¬ most ≤ 4194304 := by omega
      go_enter Try.func96, Try.ntmps96
      go_wp2
      exact HF.out
  · obtain ⟨m, rfl⟩ : ∃ m : Nat, most = m := ⟨most.toNat, by omega⟩
    have hml : m ≤ 4194304 := by omega
    obtain ⟨a, c, rfl, hc, hc2, hbo⟩ := hb.open
    obtain ⟨aa, ac, hva, hac, hac2, hao⟩ := ha.open
    obtain ⟨W1, hW1⟩ : ∃ W1, w.alloc (.cells #[va, .slice none 0 0, .int .i64 m] 152) = W1 := ⟨_, rfl⟩
    have hN1 : Nw w W1 := by rw [← hW1]; exact (Fr.refl _ _).alloc _
    have hPI : PI w.heap.size w.heap.size va ahead m [] (fun k => k < w.heap.size) W1 := by
      refine ⟨?_, ?_, ⟨_, ?_, Mine.nil _ _⟩, ?_, by simp, Nat.le_refl _, ha.nw hN1, by simp, hml, hal⟩
      all_goals rw [← hW1]
      · exact new_cell _ _ _ _ _ rfl
      · exact new_cell _ _ _ _ _ rfl
      · exact new_cell _ _ _ _ _ rfl
      · exact new_frozen _ _ _ _
    have HS := scan_any (player_tkr w.heap.size w.heap.size va ahead m) a c b [] W1 hN1.size (fun h => by
      obtain ⟨g, o, h1, h2, h3⟩ := hbo h
      exact ⟨g, o, h1, h2, h3.nw hN1⟩) hc hc2 hbl hPI
    obtain ⟨pb, hpb⟩ : ∃ pb, w.heap.size = pb := ⟨_, rfl⟩
    have hnw : ∀ w2, Fr (fun k => w.heap.size ≤ k) W1 w2 → Nw w w2 := fun w2 hF => hN1.then hF (fun i hi => .inr hi)
    have hdec : dec b ahead m = match scanS (pl ahead m) b.length b [] with | .bad a y => ([], a, y) | .good s => (s, 0, 0) := by
      rw [dec, if_neg hm]; rfl
    cases hsc : scanS (pl ahead m) b.length b [] with
    | bad x y =>
      have HS' : Hid (Calls Try.prog 98 #[.slice a b.length c, .iface 150 (.pointer (some ⟨pb, 0, none⟩))] W1 fun e w2 => e = .returned (.tuple #[.int .i64 x, .int .i64 y]) ∧ (¬ (y : Int) = 0) ∧ Hid (P (.returned (.tuple #[.slice none 0 0, .int .i64 x, .int .i64 y])) w2)) := by
        rw [hpb] at HS
        refine HS.mono ?_
        rw [hsc]
        rintro e w2 ⟨hF, rfl, hy⟩
        refine ⟨rfl, by omega, ?_⟩
        show P _ _
        rw [HP.out, hdec, hsc]
        exact Decd.none (hnw _ (by rw [hpb]; exact hF))
      clear HS HP hPI hb ha hbo hao hnw hdec hsc hN1
      subst hva
      have h0 : (0 : Int) ≤ (m : Int) := by omega
      have h1 : (m : Int) ≤ 4194304 := by omega
      go_enter Try.func96, Try.ntmps96
      have HC : Hid (Calls Try.prog 97 #[.int .i64 m] w fun e w' => e = .returned (.bool true) ∧ w' = w) := canHold_yes m h0 h1 w
      go_wp2_with (first | (go_at_call 97; with_reducible refine (HC.out).mono ?_; rintro e w3 ⟨rfl, rfl⟩) | (go_at_call 98; with_reducible refine (HS'.out).mono ?_; rintro e w2 ⟨rfl, hy, HF⟩))
      exact HF.out
    | good s =>
      have HS' : Hid (Calls Try.prog 98 #[.slice a b.length c, .iface 150 (.pointer (some ⟨pb, 0, none⟩))] W1 fun e w2 => e = .returned (.tuple #[.int .i64 0, .int .i64 0]) ∧ ∃ vo, w2.cell? ⟨pb, 1, none⟩ = some vo ∧ Hid (P (.returned (.tuple #[vo, .int .i64 0, .int .i64 0])) w2)) := by
        rw [hpb] at HS
        refine HS.mono ?_
        rw [hsc]
        rintro e w2 ⟨hF, rfl, hT⟩
        obtain ⟨vo, k1, k2⟩ := hT.out
        obtain ⟨a1, c1, rfl, _, _⟩ := k2.sl.form
        refine ⟨rfl, _, k1, ?_⟩
        show P _ _
        rw [HP.out, hdec, hsc]
        exact ⟨a1, c1, rfl, k2.more (fun g hg => .inl (.inl (by rw [← hpb]; exact hg))), hnw _ (by rw [hpb]; exact hF)⟩
      clear HS HP hPI hb ha hbo hao hnw hdec hsc hN1
      subst hva
      have h0 : (0 : Int) ≤ (m : Int) := by omega
      have h1 : (m : Int) ≤ 4194304 := by omega
      go_enter Try.func96, Try.ntmps96
      have HC : Hid (Calls Try.prog 97 #[.int .i64 m] w fun e w' => e = .returned (.bool true) ∧ w' = w) := canHold_yes m h0 h1 w
      go_wp2_with (first | (go_at_call 97; with_reducible refine (HC.out).mono ?_; rintro e w3 ⟨rfl, rfl⟩) | (go_at_call 98; with_reducible refine (HS'.out).mono ?_; rintro e w2 ⟨rfl, vo, hvo, HF⟩))
      exact HF.out
end Go.Proofs.Ytdeefemeiggolaa

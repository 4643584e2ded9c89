import Derived.Test.YtkpkiajehclbhaaVbr
namespace Go.Proofs.Ytkpkiajehclbhaa
open Go.RowKit
set_option linter.unusedVariables false
theorem cost_eq {qs : List Pk} {X Y : List Nat} (h1 : SoP qs) (h2 : (qs.map Prod.fst).Perm X) (h3 : Inc Y) (h4 : Y.Perm X) : qs.map Prod.fst = Y := by
  refine List.Perm.eq_of_pairwise (le := (· ≤ ·)) (fun a b _ _ h h' => Nat.le_antisymm h h') ?_ h3 (h2.trans h4.symm)
  rw [List.pairwise_map]; exact h1
/-- A package that is being put together: its sum, and K of its numbers. -/
def PbI (V : World) (sum B pb K : Nat) (a : Option Addr) (c : Nat) (wr : World) : Prop := ∃ og il, il.length = K ∧ (∀ x ∈ il, x ≤ B) ∧ wr.heap[pb]? = some (.cells #[.int .i64 (sum : Nat), .slice a K c] 107) ∧ OgR RI og (.slice a K c) (toI il) wr ∧ (∀ g, og = some g → V.heap.size ≤ g ∧ g ≠ pb) ∧ V.heap.size ≤ pb ∧ Nw V wr
theorem PbI.start (V : World) (sum B : Nat) : PbI V sum B V.heap.size 0 none 0 (V.alloc (.cells #[.int .i64 (sum : Nat), .slice none 0 0] 107)).drew :=
  ⟨none, [], rfl, (fun x hx => by cases hx), new_heap _ _, ⟨rfl, rfl⟩, (fun g hg => by cases hg), Nat.le_refl _, ((Fr.refl _ _).alloc _).drew⟩
theorem PbI.nw {V : World} {sum B pb K : Nat} {a : Option Addr} {c : Nat} {wr : World} (h : PbI V sum B pb K a c wr) : Nw V wr := h.choose_spec.choose_spec.2.2.2.2.2.2
theorem PbI.cells {V : World} {sum B pb K : Nat} {a : Option Addr} {c : Nat} {wr : World} (h : PbI V sum B pb K a c wr) : wr.cell? ⟨pb, 0, none⟩ = some (.int .i64 (sum : Nat)) ∧ wr.cell? ⟨pb, 1, none⟩ = some (.slice a K c) ∧ wr.frozen? ⟨pb, 1, none⟩ = false ∧ K ≤ c ∧ c < 9223372036854775808 := by
  obtain ⟨og, il, h1, h2, h3, h4, h5, h6, h7⟩ := h
  obtain ⟨a', c', e, q1, q2⟩ := h4.form
  rw [toI_length, h1] at e q1
  cases e
  exact ⟨(row_cell h3 0 _ rfl).1, (row_cell h3 1 _ rfl).1, (row_cell h3 1 _ rfl).2, q1, q2⟩
/-- One number more in it. -/
theorem PbI.push {V : World} {sum B pb K : Nat} {a : Option Addr} {c : Nat} {wr wd : World} (h : PbI V sum B pb K a c wr) (hw : Nw wr wd) (hK : K ≤ 1000) (x : Nat) (hx : x ≤ B) :
    ∃ a' c' W, Hid (∀ ty, (Builtin.append_ #[54, 54] ty #[.slice a K c, .slice (some ⟨wd.heap.size, 0, none⟩) 1 1]).run Try.prog (wd.alloc (.cells #[.int .i64 (x : Nat)] 3)) = .ok (.slice a' (K + 1) c') W) ∧ (W.cell? ⟨pb, 1, none⟩ = some (.slice a K c) ∧ W.frozen? ⟨pb, 1, none⟩ = false) ∧ Nw V W ∧ PbI V sum B pb (K + 1) a' c' (W.setCell ⟨pb, 1, none⟩ (.slice a' (K + 1) c')) := by
  obtain ⟨og, il, h1, h2, h3, h4, h5, h6, h7⟩ := h
  have h3' := hw.heap h3
  obtain ⟨a', c', W, og', k1, k2, k3, k4, k5, k6⟩ := og_push wd og _ il (h4.nw hw) (by omega) x
  rw [h1] at k1 k2 k5
  have hpb : pb < wd.heap.size := (Array.getElem?_eq_some_iff.1 h3').1
  have hrow : W.heap[pb]? = some (.cells #[.int .i64 (sum : Nat), .slice a K c] 107) := row_kept h3' k3 (fun e => (h5 pb e).2 rfl)
  have hne : ∀ g, og' = some g → V.heap.size ≤ g ∧ g ≠ pb := fun g hg => by
    rcases k4 with rfl | ⟨g', e, hg'⟩
    · exact h5 g hg
    · rw [hg] at e; injection e with e; subst e
      have := h7.size
      have := hw.size
      exact ⟨by omega, by omega⟩
  have hf : Fr (fun k => k = pb) W (W.setCell ⟨pb, 1, none⟩ (.slice a' (K + 1) c')) := (Fr.refl _ _).setCell _ _ (.inl rfl)
  have hNW : Nw V W := Fr.then (h7.trans hw) k3 (fun k hk => .inr (h5 k hk).1)
  refine ⟨a', c', W, k1, ⟨(row_cell hrow 1 _ rfl).1, (row_cell hrow 1 _ rfl).2⟩, hNW, og', il ++ [x], by simp [h1], fun y hy => ?_, row_set hrow 1 _, k2.kept hf (fun g hg e => (hne g hg).2 e), hne, h6, ?_⟩
  · rcases List.mem_append.1 hy with hy | hy
    · exact h2 y hy
    · simp at hy; omega
  · exact Fr.then hNW hf (fun k hk => .inr (by rw [hk]; exact h6))
/-- The pairs of a level, q of them. -/
def L3I (wl : World) (n B : Nat) (ls : List Pk) (q g c : Nat) (wr : World) : Prop := ∃ pp : List Pk, pp.length = q ∧ OwR RP g (.slice (some ⟨g, 0, none⟩) q c) pp wr ∧ pp.map Prod.fst = (pr (ls.map Prod.fst)).take q ∧ IkI n B (fun k => k = g) pp wr ∧ wl.heap.size ≤ g ∧ Nw wl wr
theorem L3I.start (wl : World) (n B : Nat) (ls : List Pk) : L3I wl n B ls 0 wl.heap.size 0 (wl.alloc (.cells #[] 107)) := ⟨[], rfl, OwR.empty (R := RP) wl, by simp, (fun p hp => by cases hp), Nat.le_refl _, (Fr.refl _ _).alloc _⟩
theorem L3I.push {wl : World} {n B : Nat} {ls : List Pk} {q g c : Nat} {wr V : World} {sum pb : Nat} {a : Option Addr} {ci : Nat} (h : L3I wl n B ls q g c wr) (hp : PbI wr sum B pb n a ci V) (hn : 0 < n) (hq : q ≤ 10000) (hsum : (pr (ls.map Prod.fst))[q]? = some sum) :
    ∃ g' c' W, Hid (∀ ty, (Builtin.append_ #[105, 105] ty #[.slice (some ⟨g, 0, none⟩) q c, .slice (some ⟨V.heap.size, 0, none⟩) 1 1]).run Try.prog (V.alloc (.cells #[.int .i64 (sum : Nat), .slice a n ci] 107)) = .ok (.slice (some ⟨g', 0, none⟩) (q + 1) c') W) ∧ L3I wl n B ls (q + 1) g' c' W := by
  obtain ⟨pp, h1, h2, h3, h4, h5, h6⟩ := h
  obtain ⟨og, il, p1, p2, p3, p4, p5, p6, p7⟩ := hp
  have hs : SlR RI (fun k => k < wr.heap.size ∨ V.heap.size ≤ k) (.slice a n ci) (toI il) V := by
    refine (p4.slr riOk).mono (fun k hk he => ?_)
    have := (p5 k he).1
    have := p4.lt k he
    omega
  obtain ⟨g', c', W, k1, k2, k3, k4, k5⟩ := pk_push wr V g q c n B pp h2 h1 hq h4 hn p7 (sum, a, n, ci) il p1 p2 rfl hs
  refine ⟨g', c', W, k1, _, by simp [h1], k2, ?_, k3, ?_, Fr.then (h6.trans p7) k4 (fun i hi => .inr (by rw [hi]; exact h5))⟩
  · rw [List.map_append, h3, List.take_add_one, hsum]; rfl
  · have := h6.size
    have := p7.size
    rcases k5 with e | e <;> omega
theorem sum_le_map (f : Nat → Nat) (M : Nat) (l : List Nat) (h : ∀ x ∈ l, f x ≤ M) : (l.map f).sum ≤ l.length * M := by
  induction l with
  | nil => simp
  | cons a r ih =>
    have := ih (fun x hx => h x (by simp [hx]))
    have := h a (by simp)
    rw [List.map_cons, List.sum_cons, List.length_cons, Nat.add_mul]; omega
theorem take_sum_le (l : List Nat) (i j : Nat) (h : i ≤ j) : (l.take i).sum ≤ (l.take j).sum := by
  have e : l.take j = l.take i ++ (l.take j).drop i := by
    conv => lhs; rw [← List.take_append_drop i (l.take j)]
    rw [List.take_take, Nat.min_eq_left h]
  rw [e, List.sum_append]; omega
theorem total_le (cs : List Nat) (h : Inc cs) (hp : ∀ c ∈ cs, 0 < c) (hb : ∀ c ∈ cs, c ≤ 1099511627776) (m : Nat) (hm : m ≤ 14) (hk : 2 ≤ cs.length) (hk3 : cs.length ≤ 320) (hm2 : cs.length ≤ 2 ^ (m + 1)) : ((cost (pu cs m)).take (2 * (cs.length - 1))).sum ≤ 5277655813324800 := by
  obtain ⟨_, h2, h3⟩ := best cs h hp m hk hm2
  rw [← h2]
  have := sum_le_map (fun j => lnt (tells cs (m + 1) (2 * (cs.length - 1))) j * cs.getD j 0) (15 * 1099511627776) (List.range cs.length) (fun j hj => by
    rw [List.mem_range] at hj
    have h4 := (h3 j hj).2
    have h5 := hb _ (mem_getD hj)
    exact Nat.mul_le_mul (by omega) h5)
  rw [List.length_range] at this
  have h6 : cs.length * (15 * 1099511627776) ≤ 320 * (15 * 1099511627776) := Nat.mul_le_mul_right _ hk3
  omega
theorem pr_get (l : List Nat) (q x y : Nat) (hx : l[2 * q]? = some x) (hy : l[2 * q + 1]? = some y) : (pr l)[q]? = some (x + y) := by
  have hl := (List.getElem?_eq_some_iff.1 hy).1
  have hq : q < (pr l).length := by rw [pr_length]; omega
  have h := pr_at l q hl
  rw [getD_eq _ q hq, List.getD_eq_getElem?_getD, List.getD_eq_getElem?_getD, hx, hy] at h
  rw [List.getElem?_eq_getElem hq, h]; rfl
/-- The next level's packages, put together. -/
theorem lv_next (V : World) (gq S cq g q c n B : Nat) (qs pp : List Pk) (h1 : OwR RP gq (.slice (some ⟨gq, 0, none⟩) S cq) qs V) (hS : qs.length = S) (h2 : OwR RP g (.slice (some ⟨g, 0, none⟩) q c) pp V) (hq : pp.length = q) (hSq : S + q ≤ 5000) (k1 : IkI n B (fun _ => False) qs V) (k2 : IkI n B (fun _ => False) pp V) :
    ∃ g1 c1 W1 g2 c2 W2, Hid (∀ ty, (Builtin.append_ #[105, 105] ty #[.slice (some ⟨V.heap.size, 0, none⟩) 0 0, .slice (some ⟨gq, 0, none⟩) S cq]).run Try.prog (V.alloc (.cells #[] 107)) = .ok (.slice (some ⟨g1, 0, none⟩) S c1) W1) ∧
      Hid (∀ ty, (Builtin.append_ #[105, 105] ty #[.slice (some ⟨g1, 0, none⟩) S c1, .slice (some ⟨g, 0, none⟩) q c]).run Try.prog W1 = .ok (.slice (some ⟨g2, 0, none⟩) (S + q) c2) W2) ∧ OwR RP g2 (.slice (some ⟨g2, 0, none⟩) (S + q) c2) (qs ++ pp) W2 ∧ IkI n B (fun _ => False) (qs ++ pp) W2 ∧ Nw V W2 := by
  have hN0 : Nw V (V.alloc (.cells #[] 107)) := (Fr.refl _ _).alloc _
  have hs0 : (V.alloc (.cells #[] RP.T)).heap.size = V.heap.size + 1 := by simp
  obtain ⟨v1, g1, W1, a1, a2, a3, a4⟩ := owR_app rpOk _ _ _ _ (OwR.empty (R := RP) V) (.slice (some ⟨gq, 0, none⟩) S cq) qs (((h1.nw hN0).slr rpOk).mono (fun _ h => h.elim)) (by simp only [RP, List.length_nil]; omega) (by simp; omega)
  rw [List.nil_append] at a2
  obtain ⟨c1, e1, _, _⟩ := a2.form
  rw [hS] at e1
  subst e1
  have n1 : Nw V W1 := Fr.then hN0 a3 (fun i hi => .inr (by omega))
  have hg1 : V.heap.size ≤ g1 := by
    rcases a4 with e | e <;> omega
  obtain ⟨v2, g2, W2, b1, b2, b3, b4⟩ := owR_app rpOk W1 g1 _ _ a2 (.slice (some ⟨g, 0, none⟩) q c) pp (((h2.nw n1).slr rpOk).mono (fun _ h => h.elim)) (by simp only [RP]; omega) (by omega)
  obtain ⟨c2, e2, _, _⟩ := b2.form
  rw [List.length_append, hS, hq] at e2
  subst e2
  have n2 : Nw V W2 := Fr.then n1 b3 (fun i hi => .inr (by omega))
  refine ⟨g1, c1, W1, g2, c2, W2, a1, b1, b2, fun p hp => ?_, n2⟩
  rcases List.mem_append.1 hp with hp | hp
  · exact (k1.nw n2) p hp
  · exact (k2.nw n2) p hp
/-- The single symbols, sorted; and a level. -/
def SgI (cs : List Nat) (n S g c : Nat) (V : World) : Prop := ∃ qs : List Pk, qs.length = S ∧ OwR RP g (.slice (some ⟨g, 0, none⟩) S c) qs V ∧ qs.map Prod.fst = cs ∧ IkI n 1 (fun _ => False) qs V
def LvI (cs : List Nat) (n lev N g c : Nat) (V : World) : Prop := ∃ ls : List Pk, ls.length = N ∧ OwR RP g (.slice (some ⟨g, 0, none⟩) N c) ls V ∧ ls.map Prod.fst = cost (pu cs (lev - 1)) ∧ IkI n (2 ^ (lev - 1)) (fun _ => False) ls V
theorem SgI.nw {cs : List Nat} {n S g c : Nat} {V W : World} (h : SgI cs n S g c V) (k : Nw V W) : SgI cs n S g c W := by
  obtain ⟨qs, h1, h2, h3, h4⟩ := h
  exact ⟨qs, h1, h2.nw k, h3, h4.nw k⟩
theorem LvI.nw {cs : List Nat} {n lev N g c : Nat} {V W : World} (h : LvI cs n lev N g c V) (k : Nw V W) : LvI cs n lev N g c W := by
  obtain ⟨qs, h1, h2, h3, h4⟩ := h
  exact ⟨qs, h1, h2.nw k, h3, h4.nw k⟩
theorem SgI.lv {cs : List Nat} {n S g c : Nat} {V : World} (h : SgI cs n S g c V) : LvI cs n 1 S g c V := by
  obtain ⟨qs, h1, h2, h3, h4⟩ := h
  refine ⟨qs, h1, h2, ?_, h4⟩
  rw [h3]
  show cs = cost (pu cs 0)
  rw [pu_zero]
  simp [cost, Function.comp_def]
theorem LvI.form {cs : List Nat} {n lev N g c : Nat} {V : World} (h : LvI cs n lev N g c V) : N = (pu cs (lev - 1)).length ∧ N ≤ c ∧ c < 9223372036854775808 := by
  obtain ⟨ls, h1, h2, h3, h4⟩ := h
  have := congrArg List.length h3
  rw [List.length_map, cost_length, h1] at this
  obtain ⟨c', e, q1, q2⟩ := h2.form
  rw [h1] at e q1
  cases e
  exact ⟨this, q1, q2⟩
end Go.Proofs.Ytkpkiajehclbhaa

import Derived.Test.YtenkchhlaphocaaGreatDoorNkN
import Derived.Test.YtenkchhlaphocaaGreatDoorNjQ
namespace Go.Proofs.YtenkchhlaphocaaGreatDoor
open Go.RowKit
set_option linter.unusedVariables false
/-! ### Merge: as a function; the document's -/
def ltB (a b : Bs) : Bool := Op.bytesLess (str a).toList (str b).toList
/-- Where a pair goes in: how many stand ahead of it. -/
def plc (x : Pr) : List Pr → Nat
  | [] => 0
  | y :: r => if ltB y.1 x.1 = true then plc x r + 1 else 0
theorem plc_le (x : Pr) (l : List Pr) : plc x l ≤ l.length := by
  induction l with
  | nil => exact Nat.le_refl _
  | cons y r ih =>
    rw [plc]
    split
    · simp; exact ih
    · simp
theorem plc_go (x : Pr) (l : List Pr) (I : Nat) (h : I ≤ plc x l) (hI : I < l.length) (hd : ltB l[I].1 x.1 = true) : I + 1 ≤ plc x l := by
  induction l generalizing I with
  | nil => simp at hI
  | cons y r ih =>
    rw [plc] at h ⊢
    cases I with
    | zero =>
      rw [List.getElem_cons_zero] at hd
      rw [if_pos hd]
      omega
    | succ K =>
      split at h
      · rename_i hy
        rw [if_pos hy]
        have := ih K (by omega) (by simpa using hI) (by simpa using hd)
        omega
      · omega
theorem plc_end (x : Pr) (l : List Pr) (I : Nat) (h : I ≤ plc x l) (hd : ∀ hI : I < l.length, ltB l[I].1 x.1 = false) : I = plc x l := by
  induction l generalizing I with
  | nil => rw [plc] at h ⊢; omega
  | cons y r ih =>
    rw [plc] at h ⊢
    cases I with
    | zero =>
      have := hd (by simp)
      rw [List.getElem_cons_zero] at this
      rw [if_neg (by rw [this]; decide)]
    | succ K =>
      split at h
      · rename_i hy
        rw [if_pos hy]
        have := ih K (by omega) (fun hI => by
          have := hd (by rw [List.length_cons]; omega)
          rw [List.getElem_cons_succ] at this
          exact this)
        omega
      · omega
def insP (x : Pr) (l : List Pr) : List Pr := l.take (plc x l) ++ x :: l.drop (plc x l)
theorem insP_len (x : Pr) (l : List Pr) : (insP x l).length = l.length + 1 := by
  unfold insP
  have := plc_le x l
  rw [List.length_append, List.length_cons, List.length_take, List.length_drop]
  omega
/-- Is a pair its key's last? -/
def lst (x : Pr) (r : List Pr) : Bool := r.all (fun y => decide (y.1 ≠ x.1))
theorem lst_snoc (x : Pr) (r : List Pr) (y : Pr) : lst x (r ++ [y]) = (lst x r && decide (y.1 ≠ x.1)) := by simp [lst]
def mrg : List Pr → List Pr → List Pr
  | [], out => out
  | x :: r, out => if lst x r = true ∧ x.2 ≠ [] then mrg r (insP x out) else mrg r out
def mergeV (b a : List Pr) : List Pr := mrg (b ++ a) []
theorem mrg_step (l : List Pr) (I : Nat) (h : I < l.length) (out : List Pr) : mrg (l.drop I) out = if lst l[I] (l.drop (I + 1)) = true ∧ l[I].2 ≠ [] then mrg (l.drop (I + 1)) (insP l[I] out) else mrg (l.drop (I + 1)) out := by
  rw [List.drop_eq_getElem_cons h, mrg]
theorem tk_step (A : List Pr) (I K : Nat) (h : I + 1 ≤ K) (hK : K < A.length) : (A.drop (I + 1)).take (K + 1 - (I + 1)) = (A.drop (I + 1)).take (K - (I + 1)) ++ [A[K]] := by
  have e : K + 1 - (I + 1) = (K - (I + 1)) + 1 := by omega
  rw [e, List.take_add_one, List.getElem?_drop, show I + 1 + (K - (I + 1)) = K by omega, List.getElem?_eq_getElem hK, Option.toList_some]
/-- A part of a row of pairs. -/
theorem SlR.takeP {X : Nat → Prop} {g o n c : Nat} {l : List Pr} {w : World} (h : SlR RP X (.slice (some ⟨g, o, none⟩) n c) l w) (p : Nat) (hp : p ≤ l.length) : SlR RP X (.slice (some ⟨g, o, none⟩) p c) (l.take p) w := by
  rcases h with ⟨a, e, hl⟩ | ⟨g', o', c', h1, e, h3, h4, h5⟩
  · injection e with e1 e2 e3
    subst hl
    have : p = 0 := by simpa using hp
    subst this e3
    exact .inl ⟨_, rfl, by simp⟩
  · injection e with e1 e2 e3
    injection e1 with e1
    injection e1 with e1 e4 _
    subst e1 e2 e3 e4
    refine .inr ⟨g, o, c, h1, by rw [List.length_take, Nat.min_eq_left hp], by rw [List.length_take]; omega, h4, fun i x j u h6 h7 => ?_⟩
    rw [List.getElem?_take] at h6
    split at h6
    · exact h5 i x j u h6 h7
    · cases h6
theorem SlR.dropP {X : Nat → Prop} {g o n c : Nat} {l : List Pr} {w : World} (h : SlR RP X (.slice (some ⟨g, o, none⟩) n c) l w) (p : Nat) (hp : p ≤ l.length) : SlR RP X (.slice (some ⟨g, o + p * 2, none⟩) (n - p) (c - p)) (l.drop p) w := by
  rcases h with ⟨a, e, hl⟩ | ⟨g', o', c', h1, e, h3, h4, h5⟩
  · injection e with e1 e2 e3
    subst hl
    have : p = 0 := by simpa using hp
    subst this e3 e2
    exact .inl ⟨_, rfl, by simp⟩
  · injection e with e1 e2 e3
    injection e1 with e1
    injection e1 with e1 e4 _
    subst e1 e2 e3 e4
    refine .inr ⟨g, o + p * 2, c - p, h1, by rw [List.length_drop], by rw [List.length_drop]; omega, by omega, fun i x j u h6 h7 => ?_⟩
    rw [List.getElem?_drop] at h6
    have := h5 (p + i) x j u h6 h7
    have e : o + p * 2 + i * RP.k + j = o + (p + i) * RP.k + j := by simp only [RP]; omega
    rw [e]
    exact this
/-- The three appends of an insertion. -/
theorem ins_chain (V : World) (u1 u2 : Value) (l1 l2 : List Pr) (h1 : SlR RP (fun _ => False) u1 l1 V) (h2 : SlR RP (fun _ => False) u2 l2 V) (x : Pr) (hn : l1.length + l2.length ≤ 100000000) :
    ∃ v1 W1 v2 W2 v3 W3, Hid (∀ ty, (Builtin.append_ #[22, 22] ty #[.slice (some ⟨V.heap.size, 0, none⟩) 0 0, u1]).run Tryz.prog (V.alloc (.cells #[] 28)) = .ok v1 W1) ∧ Hid (Nw V W1)
      ∧ Hid (∀ ty, (Builtin.append_ #[22, 22] ty #[v1, .slice (some ⟨W1.heap.size, 0, none⟩) 1 1]).run Tryz.prog (W1.alloc (.cells (prC x) 28)) = .ok v2 W2)
      ∧ Hid (∀ ty, (Builtin.append_ #[22, 22] ty #[v2, u2]).run Tryz.prog W2 = .ok v3 W3)
      ∧ Hid (Nw V W3 ∧ ∃ g, V.heap.size ≤ g ∧ OwR RP g v3 (l1 ++ x :: l2) W3) := by
  have hN0 : Nw V (V.alloc (.cells #[] 28)) := (Fr.refl _ _).alloc _
  have hs0 : (V.alloc (.cells #[] RP.T)).heap.size = V.heap.size + 1 := by simp
  obtain ⟨v1, g1, W1, a1, o1, f1, d1⟩ := owR_app rpOk _ _ _ [] (OwR.empty (R := RP) V) u1 l1 (h1.nw hN0) (by simp only [RP, List.length_nil]; omega) (by simp; omega)
  have hg1 : V.heap.size ≤ g1 := by rcases d1 with e | e <;> omega
  have hN1 : Nw V W1 := hN0.then f1 (fun i hi => .inr (by omega))
  rw [List.nil_append] at o1
  have hNa : Nw W1 (W1.alloc (.cells (prC x) 28)) := (Fr.refl _ _).alloc _
  obtain ⟨v2, g2, W2, a2, o2, f2, d2⟩ := owR_app rpOk _ g1 v1 l1 (o1.nw hNa) _ [x] ((litP W1 x).slr rpOk).anyP (by simp only [RP, List.length_cons, List.length_nil]; omega) (by simp; omega)
  have hsa : (W1.alloc (.cells (prC x) 28)).heap.size = W1.heap.size + 1 := by simp
  have hsz1 := hN1.size
  have hg2 : V.heap.size ≤ g2 := by rcases d2 with e | e <;> omega
  have hN2 : Nw V W2 := (hN1.trans hNa).then f2 (fun i hi => .inr (by omega))
  obtain ⟨v3, g3, W3, a3, o3, f3, d3⟩ := owR_app rpOk W2 g2 v2 _ o2 u2 l2 (h2.nw hN2) (by simp only [RP, List.length_append, List.length_cons, List.length_nil]; omega) (by simp; omega)
  have hsz2 := hN2.size
  have hg3 : V.heap.size ≤ g3 := by rcases d3 with e | e <;> omega
  refine ⟨v1, W1, v2, W2, v3, W3, a1, hN1, a2, a3, hN2.then f3 (fun i hi => .inr (by omega)), g3, hg3, ?_⟩
  rw [List.append_assoc] at o3
  exact o3
theorem copyPP2 (w : World) (v u : Value) (a b : List Pr) (ha : SlR RP (fun _ => False) v a w) (hb : SlR RP (fun _ => False) u b w) (hn : a.length + b.length ≤ 100000000) : ∃ v1 W1 v2 W2, Hid (∀ ty, (Builtin.append_ #[22, 22] ty #[.slice (some ⟨w.heap.size, 0, none⟩) 0 0, v]).run Tryz.prog (w.alloc (.cells #[] 28)) = .ok v1 W1) ∧ Hid (∀ ty, (Builtin.append_ #[22, 22] ty #[v1, u]).run Tryz.prog W1 = .ok v2 W2) ∧ Nw w W2 ∧ SlR RP (fun _ => False) v2 (a ++ b) W2 := by
  have hN0 : Nw w (w.alloc (.cells #[] 28)) := (Fr.refl _ _).alloc _
  obtain ⟨v1, g1, W1, a1, o1, f1, d1⟩ := owR_app rpOk _ _ _ [] (OwR.empty (R := RP) w) v a (ha.nw hN0) (by simp only [RP, List.length_nil]; omega) (by simp; omega)
  have hs0 : (w.alloc (.cells #[] RP.T)).heap.size = w.heap.size + 1 := by simp
  have hN1 : Nw w W1 := hN0.then f1 (fun i hi => .inr (by omega))
  have hg1 : w.heap.size ≤ g1 := by rcases d1 with e | e <;> omega
  obtain ⟨v2, g2, W2, a2, o2, f2, d2⟩ := owR_app rpOk W1 g1 v1 _ o1 u b (hb.nw hN1) (by simp only [RP, List.nil_append]; omega) (by simp; omega)
  exact ⟨v1, W1, v2, W2, a1, a2, hN1.then f2 (fun i hi => .inr (by omega)), by rw [List.nil_append] at o2; exact (o2.slr rpOk).anyP⟩
def MrI (w : World) (A : List Pr) (I : Nat) (v : Value) (out : List Pr) (V : World) : Prop := Nw w V ∧ out.length ≤ I ∧ mrg A [] = mrg (A.drop I) out ∧ ∃ og, OgR RP og v out V ∧ ∀ g, og = some g → w.heap.size ≤ g
end Go.Proofs.YtenkchhlaphocaaGreatDoor

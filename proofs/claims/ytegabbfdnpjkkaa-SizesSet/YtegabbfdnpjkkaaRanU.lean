import Derived.Test.YtegabbfdnpjkkaaRanS
import Derived.Deep.DeepCutAuto
namespace Go.Proofs.Ytegabbfdnpjkkaa
open Go.RowKit
set_option linter.unusedVariables false
set_option linter.unusedSimpArgs false

theorem less_any (a b : Int) (w : World) : Calls Try.prog 52 #[.int .i64 a, .int .i64 b] w fun e w' => e = .returned (.int .i64 (min a b)) ∧ w = w' := by
  by_cases h : a < b
  · rw [show min a b = a by omega]
    go_enter Try.func52, Try.ntmps52
    go_wp2
    go_ret
    exact ⟨rfl, rfl⟩
  · rw [show min a b = b by omega]
    go_enter Try.func52, Try.ntmps52
    go_wp2
    go_ret
    exact ⟨rfl, rfl⟩
theorem more_any (a b : Int) (w : World) : Calls Try.prog 53 #[.int .i64 a, .int .i64 b] w fun e w' => e = .returned (.int .i64 (max a b)) ∧ w = w' := by
  by_cases h : b < a
  · rw [show max a b = a by omega]
    go_enter Try.func53, Try.ntmps53
    go_wp2
    go_ret
    exact ⟨rfl, rfl⟩
  · rw [show max a b = b by omega]
    go_enter Try.func53, Try.ntmps53
    go_wp2
    go_ret
    exact ⟨rfl, rfl⟩

def sing (p : Rg) : List Rg := if p.1 < p.2 then [p] else []
def wo1 (x p : Rg) : List Rg := if x.1 < x.2 then sing (p.1, min p.2 x.1) ++ sing (max p.1 x.2, p.2) else sing p
def wo (L : List Rg) (x : Rg) : List Rg := L.flatMap (wo1 x)
theorem wo_snoc (L : List Rg) (x : Rg) (t : Nat) (h : t < L.length) : wo (L.take (t + 1)) x = wo (L.take t) x ++ wo1 x L[t] := by
  unfold wo
  rw [List.take_succ_eq_append_getElem h, List.flatMap_append]; simp
theorem wo1_len (x p : Rg) : (wo1 x p).length ≤ 2 := by
  unfold wo1 sing; split
  · rw [List.length_append]; split <;> split <;> simp
  · split <;> simp
theorem wo_len (L : List Rg) (x : Rg) : (wo L x).length ≤ 2 * L.length := by
  unfold wo
  induction L with
  | nil => simp
  | cons p r ih => rw [List.flatMap_cons, List.length_append]; have := wo1_len x p; simp only [List.length_cons]; omega
theorem keepBox {og : Option Nat} {W W' : World} {v' : Value} {L : List Rg} {k : Nat} {y : Rg} (hA : Apped og W W' v' L) (hW : BoxB k y W) (hne : og ≠ some k) : BoxB k y W' := by
  obtain ⟨og', h1, h2, h3⟩ := hA
  exact (h2.block k (Array.getElem?_eq_some_iff.1 hW).1 hne).trans hW
theorem BoxB.put {k : Nat} {y : Rg} {W : World} (h : BoxB k y W) (z : Rg) : BoxB k z ((W.setCell ⟨k, 0, none⟩ (.int .i64 z.1)).setCell ⟨k, 1, none⟩ (.int .i64 z.2)) := by
  have h1 : (W.setCell ⟨k, 0, none⟩ (.int .i64 z.1)).heap[k]? = some (.cells #[.int .i64 z.1, .int .i64 y.2] 49) := by
    unfold BoxB at h; simp only [World.setCell, Array.getElem?_modify, h]; simp
  unfold BoxB
  generalize (W.setCell ⟨k, 0, none⟩ (.int .i64 z.1)) = W1 at h1 ⊢
  simp only [World.setCell, Array.getElem?_modify, h1]; simp
theorem BoxB.off {k j o : Nat} {y : Rg} {W : World} (h : BoxB k y W) (v : Value) (hj : k ≠ j) : BoxB k y (W.setCell ⟨j, o, none⟩ v) := (Below.heap_setCell W ⟨j, o, none⟩ v k hj).trans h
def WoRes (R : List Rg) (w w' : World) (e : Ending) : Prop := ∃ b c, e = .returned (.slice b R.length c) ∧ NewS w w' (.slice b R.length c) R
theorem SVal.lit0 (w : World) : SVal (.slice (some ⟨w.heap.size, 0, none⟩) 0 0) (some w.heap.size) [] (w.alloc (.cells #[] 49)) := .inr ⟨w.heap.size, [], rfl, rfl, Nat.zero_le _, Nat.le_refl _, rfl, RowB.new w []⟩
theorem SVal.get {v : Value} {og : Option Nat} {L : List Rg} {w : World} (h : SVal v og L w) (t : Nat) (ht : t < L.length) :
    ∃ g c, og = some g ∧ v = .slice (some ⟨g, 0, none⟩) L.length c ∧ c ≤ maxLen ∧ w.cell? ⟨g, t * 2, none⟩ = some (.int .i64 L[t].1) ∧ w.cell? ⟨g, t * 2 + 1, none⟩ = some (.int .i64 L[t].2) := by
  rcases h with ⟨_, _, rfl⟩ | ⟨g, xs, h1, h2, h3, h4, h5, h6⟩
  · simp at ht
  · obtain ⟨d1, d2⟩ := h6.cell t (by omega)
    have e1 : xs[t]'(by omega) = L[t] := by
      have : (xs.take L.length)[t]? = L[t]? := by rw [h5]
      rw [List.getElem?_take, if_pos ht, List.getElem?_eq_getElem (by omega), List.getElem?_eq_getElem ht] at this
      exact Option.some.inj this
    rw [e1] at d1 d2
    exact ⟨g, xs.length, h1, h2, h3, d1, d2⟩

end Go.Proofs.Ytegabbfdnpjkkaa

import Derived.Test.YtegabbfdnpjkkaaRanV
import Derived.Test.YtegabbfdnpjkkaaRanW
namespace Go.Proofs.Ytegabbfdnpjkkaa
open Go.RowKit
set_option linter.unusedVariables false
set_option linter.unusedSimpArgs false

theorem wo_any (lv : Value) (ol : Option Nat) (L : List Rg) (x : Rg) (w : World) (h : SVal lv ol L w) (hL : L.length ≤ 200000) :
    Calls Try.prog 42 #[lv, rv x] w fun e w' => WoRes (wo L x) w w' e := by
  by_cases hx : x.1 < x.2
  · exact wo_yes lv ol L x w h hL hx
  · exact wo_no lv ol L x w h hL hx

theorem foldl_snoc {α β : Type} (f : β → α → β) (s : β) (M : List α) (t : Nat) (h : t < M.length) : (M.take (t + 1)).foldl f s = f ((M.take t).foldl f s) M[t] := by
  rw [List.take_succ_eq_append_getElem h, List.foldl_append]; rfl

def insS (x : Rg) (s : List Rg × Bool) (y : Rg) : List Rg × Bool := if s.2 = false ∧ x.2 ≤ y.1 then (s.1 ++ [x] ++ [y], true) else (s.1 ++ [y], s.2)
def insA (x : Rg) (M : List Rg) : List Rg × Bool := M.foldl (insS x) ([], false)
def ins (x : Rg) (M : List Rg) : List Rg := if (insA x M).2 = true then (insA x M).1 else (insA x M).1 ++ [x]
theorem insA_snoc (x : Rg) (M : List Rg) (t : Nat) (h : t < M.length) (GS : List Rg) (d : Bool) (hG : (GS, d) = insA x (M.take t)) : insA x (M.take (t + 1)) = insS x (GS, d) M[t] := by
  unfold insA at hG ⊢
  rw [foldl_snoc _ _ _ _ h, ← hG]
theorem insS_t (x : Rg) (GS : List Rg) (y : Rg) : insS x (GS, true) y = (GS ++ [y], true) := by unfold insS; rw [if_neg (fun h => by cases h.1)]
theorem insS_f (x : Rg) (GS : List Rg) (y : Rg) (h : ¬ x.2 ≤ y.1) : insS x (GS, false) y = (GS ++ [y], false) := by unfold insS; rw [if_neg (fun k => h k.2)]
theorem insS_y (x : Rg) (GS : List Rg) (y : Rg) (h : x.2 ≤ y.1) : insS x (GS, false) y = (GS ++ [x] ++ [y], true) := by unfold insS; rw [if_pos ⟨rfl, h⟩]
theorem insA_len (x : Rg) (M : List Rg) : (insA x M).1.length ≤ 2 * M.length := by
  have key : ∀ (M : List Rg) (s : List Rg × Bool), (M.foldl (insS x) s).1.length ≤ s.1.length + 2 * M.length := by
    intro M
    induction M with
    | nil => intro s; simp
    | cons y r ih =>
      intro s
      rw [List.foldl_cons]
      have h1 := ih (insS x s y)
      have h2 : (insS x s y).1.length ≤ s.1.length + 2 := by unfold insS; split <;> simp
      simp only [List.length_cons]
      omega
  have := key M ([], false)
  simpa [insA] using this
def mgS (O : List Rg) (y : Rg) : List Rg := if h : 0 < O.length then (if (O[O.length - 1]'(by omega)).2 = y.1 then O.set (O.length - 1) ((O[O.length - 1]'(by omega)).1, y.2) else O ++ [y]) else O ++ [y]
def mg (R : List Rg) : List Rg := R.foldl mgS []
theorem mgS_len (O : List Rg) (y : Rg) : (mgS O y).length ≤ O.length + 1 := by
  unfold mgS; split
  · split <;> simp
  · simp
theorem mg_len (R : List Rg) : (mg R).length ≤ R.length := by
  have key : ∀ (M O : List Rg), (M.foldl mgS O).length ≤ O.length + M.length := by
    intro M
    induction M with
    | nil => intro s; simp
    | cons y r ih =>
      intro s
      rw [List.foldl_cons]
      have h1 := ih (mgS s y)
      have h2 := mgS_len s y
      simp only [List.length_cons]
      omega
  have := key R []
  simpa [mg] using this
def withL (L : List Rg) (x : Rg) : List Rg := mg (ins x (wo L x))

theorem cellsL_set (xs : List Rg) (k : Nat) (hk : k < xs.length) (v : Int) : (cellsL xs).set (k * 2 + 1) (.int .i64 v) = cellsL (xs.set k (xs[k].1, v)) := by
  induction xs generalizing k with
  | nil => simp at hk
  | cons p r ih =>
    cases k with
    | zero => rfl
    | succ k =>
      have h1 := ih k (by simpa using hk)
      show (Value.int .i64 p.1 :: Value.int .i64 p.2 :: cellsL r).set ((k + 1) * 2 + 1) _ = _
      rw [show (k + 1) * 2 + 1 = (k * 2 + 1) + 1 + 1 by omega, List.set_cons_succ, List.set_cons_succ, h1]
      rfl
theorem RowB.setTo {g : Nat} {xs : List Rg} {w : World} (h : RowB g xs w) (k : Nat) (hk : k < xs.length) (v : Int) : RowB g (xs.set k (xs[k].1, v)) (w.setCell ⟨g, k * 2 + 1, none⟩ (.int .i64 v)) := by
  unfold RowB at h ⊢
  rw [← cellsL_set xs k hk v]
  simp only [World.setCell, Array.getElem?_modify, h]; simp
theorem SVal.setTo {g c : Nat} {b : Option Addr} {L : List Rg} {w : World} (h : SVal (.slice b L.length c) (some g) L w) (k : Nat) (hk : k < L.length) (v : Int) : SVal (.slice b L.length c) (some g) (L.set k (L[k].1, v)) (w.setCell ⟨g, k * 2 + 1, none⟩ (.int .i64 v)) := by
  rcases h with ⟨_, h, _⟩ | ⟨g', xs, h1, h2, h3, h4, h5, h6⟩
  · cases h
  · obtain rfl : g = g' := by injection h1
    have e1 : xs[k]'(by omega) = L[k] := by
      have : (xs.take L.length)[k]? = L[k]? := by rw [h5]
      rw [List.getElem?_take, if_pos hk, List.getElem?_eq_getElem (by omega), List.getElem?_eq_getElem hk] at this
      exact Option.some.inj this
    refine .inr ⟨g, xs.set k (L[k].1, v), rfl, ?_, ?_, ?_, ?_, ?_⟩
    · rw [List.length_set, List.length_set]; exact h2
    · rw [List.length_set]; exact h3
    · rw [List.length_set, List.length_set]; exact h4
    · rw [List.length_set, List.take_set, h5]
    · rw [← e1]; exact h6.setTo k (by omega) v
theorem SVal.frozen {g : Nat} {v : Value} {L : List Rg} {w : World} (h : SVal v (some g) L w) (o : Nat) : w.frozen? ⟨g, o, none⟩ = false := by
  rcases h with ⟨_, h, _⟩ | ⟨g', xs, h1, h2, h3, h4, h5, h6⟩
  · cases h
  · obtain rfl : g = g' := by injection h1
    exact h6.frozen o

/-- What an append to a new slice leaves: the box, and another row. -/
theorem appK {w wr W W' : World} {x y : Rg} {GS : List Rg} {b : Option Addr} {c : Nat} {og1 om : Option Nat} {rest : Value} {M : List Rg} (hA : Apped og1 W W' (.slice b (GS.length + 1) c) (GS ++ [y])) (hW : Nw wr W) (hN : Nw w wr) (hog : ∀ g', og1 = some g' → w.heap.size < g') (hB : BoxB w.heap.size x wr) (hM : SVal rest om M wr) (hd : ∀ g', om = some g' → og1 ≠ some g') :
    ∃ og2, SVal (.slice b (GS ++ [y]).length c) og2 (GS ++ [y]) W' ∧ (∀ g', og2 = some g' → w.heap.size < g') ∧ Nw w W' ∧ Hid (BoxB w.heap.size x W') ∧ Hid (SVal rest om M W') ∧ (∀ g', om = some g' → og2 ≠ some g') := by
  have hb1 : w.heap.size < wr.heap.size := (Array.getElem?_eq_some_iff.1 hB).1
  have hb2 : w.heap.size < W.heap.size := Nat.lt_of_lt_of_le hb1 hW.size
  obtain ⟨og2, h1, h2, h3⟩ := hA
  refine ⟨og2, by rw [List.length_append]; exact h1, ?_, Fr.then (hN.trans hW) h2 (fun k hk => .inr (by have := hog k hk; omega)), ?_, ?_, ?_⟩
  · intro g' hg'
    rcases h3 with rfl | ⟨g2, rfl, hg2⟩
    · exact hog g' hg'
    · injection hg' with hg'; omega
  · exact (h2.block w.heap.size hb2 (fun e => by have := hog _ e; omega)).trans (hB.nw hW)
  · exact SVal.kept (Nw.sval hW hM) h2 (fun g hg => hd g hg)
  · intro g' hg' he
    rcases h3 with rfl | ⟨g2, rfl, hg2⟩
    · exact hd g' hg' he
    · injection he with he
      have := (Nw.sval hW hM).lt g' hg'
      omega


end Go.Proofs.Ytegabbfdnpjkkaa

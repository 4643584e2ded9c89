import Derived.Test.YtenkchhlaphocaaGreatDoorNkE
import Derived.Test.YtenkchhlaphocaaGreatDoorNjY
import Derived.Test.YtenkchhlaphocaaGreatDoorLzOp
import Derived.Test.YtenkchhlaphocaaGreatDoorIsB2
import Derived.Handy
namespace Go.Proofs.YtenkchhlaphocaaGreatDoor
open Go.ChangeShapes Go.WideShapes Go.ChangeAt Go.RowKit Go.Deep
set_option linter.unusedVariables false
set_option maxRecDepth 100000
theorem cellsS9 : Tryz.prog.cellsOf 9 = 1 := by kernel_rfl
theorem cellsPr : Tryz.prog.cellsOf 28 = 2 := by kernel_rfl
section
variable {H : Type} {enc : TypeId × Value → H} {W : World} {α : Type}
theorem bulk_sum (f : α → Nat) (xs : List Nat) (F : Nat → α) (D : Nat → DataW H) (h : ∀ x ∈ xs, f (F x) ≤ Rows.uptoBulk (D x)) : ((xs.map F).map f).sum ≤ Rows.uptoBulkAll (xs.map D) := by
  induction xs with
  | nil => simp [Rows.uptoBulkAll]
  | cons x r ih =>
    have h1 := h x (by simp)
    have h2 := ih (fun y hy => h y (by simp [hy]))
    simp only [List.map_cons, List.sum_cons, Rows.uptoBulkAll]
    omega
/-- A list that came in, where an element that came in is known. -/
theorem openedR [Inhabited α] (R : RT α) (hund : Tryz.prog.underlying R.TS = some (.slice R.T)) (hcell : Tryz.prog.cellsOf R.T = R.k) (hk : 0 < R.k) (hlen : ∀ x, (R.enc x).length = R.k) (Q : α → Prop) (f : α → Nat)
    (elem : ∀ (n : Nat) (a' : Addr) (cs' : List Value) (D : DataW H) (Pl : List MemPlace), W.cells? 0 a' R.k = some cs' → DataW.trod enc Tryz.prog W 0 (fun _ => true) true n R.T cs' = some (D, Pl) → ∃ x, (∀ j u, (R.enc x)[j]? = some u → W.cell? (a'.add j) = some u) ∧ Q x ∧ f x ≤ Rows.uptoBulk D)
    {a : Option Addr} {len cap : Nat} {d : DataW H} {p : List MemPlace} (h : DataW.Trod enc Tryz.prog W 0 (fun _ => true) true R.TS (.slice a len cap) d p) :
    ∃ l : List α, l.length = len ∧ SlR R (fun _ => False) (.slice a len cap) l W ∧ (∀ x ∈ l, Q x) ∧ (l.map f).sum + 1 ≤ Rows.uptoBulk d := by
  obtain ⟨fuel, hf⟩ := h
  rcases open_slice hund hf with ⟨hcs, _⟩ | ⟨x, l, c, m, n, D, Pl, hcs, _, hl, hm, hmm, hd, hx⟩
  · simp [Value.cells] at hcs
    obtain ⟨rfl, rfl, rfl⟩ := hcs
    exact ⟨[], rfl, .inl ⟨none, rfl, rfl⟩, (fun x hx => by cases hx), by have := bulk_pos d; simpa using this⟩
  · simp [Value.cells] at hcs
    obtain ⟨rfl, rfl, rfl⟩ := hcs
    simp only [if_true] at hmm
    rw [hcell] at hx
    have hdd := (Prod.ext_iff.1 hd).1
    simp only at hdd
    obtain ⟨q, hq⟩ := choose_lt (α := α) (p := fun i q => (∀ j u, (R.enc q)[j]? = some u → W.cell? ((x.add (i * R.k)).add j) = some u) ∧ Q q ∧ f q ≤ Rows.uptoBulk (D i)) (n := m) (fun i hi => by
      obtain ⟨cs', h1, h2⟩ := hx i hi
      exact elem n _ cs' _ _ h1 h2)
    obtain ⟨b, off, spot⟩ := x
    have hsp : 0 < len → spot = none := by
      intro h0
      obtain ⟨u, hu⟩ : ∃ u, (R.enc (q 0))[0]? = some u := ⟨_, List.getElem?_eq_getElem (by rw [hlen]; exact hk)⟩
      have := (hq 0 (by omega)).1 0 u hu
      simpa [Addr.add] using World.cell?_spot this
    refine ⟨(List.range len).map q, by simp, ?_, fun x hx => ?_, ?_⟩
    · rcases Nat.eq_zero_or_pos len with h0 | h0
      · subst h0
        by_cases hc0 : cap = 0
        · subst hc0; exact .inl ⟨_, rfl, rfl⟩
        · have hs : spot = none := by
            obtain ⟨u, hu⟩ : ∃ u, (R.enc (q 0))[0]? = some u := ⟨_, List.getElem?_eq_getElem (by rw [hlen]; exact hk)⟩
            have := (hq 0 (by omega)).1 0 u hu
            simpa [Addr.add] using World.cell?_spot this
          subst hs
          exact .inr ⟨b, off, cap, fun h => h, by simp, by simp, by unfold maxLen at hm; omega, fun i x j u hx => by simp at hx⟩
      · obtain rfl := hsp h0
        refine .inr ⟨b, off, cap, fun h => h, by simp, by simpa using hl, by unfold maxLen at hm; omega, fun i x j u hi hu => ?_⟩
        obtain ⟨hil, rfl⟩ := List.getElem?_eq_some_iff.1 hi
        have hi' : i < len := by simpa using hil
        simp only [List.getElem_map, List.getElem_range] at hu
        have := (hq i (by omega)).1 j u hu
        rw [add_plain, add_plain] at this
        exact this
    · obtain ⟨i, hi, rfl⟩ := List.mem_map.1 hx
      exact (hq i (by have := List.mem_range.1 hi; omega)).2.1
    · have := bulk_sum f (List.range len) q D (fun i hi => (hq i (by have := List.mem_range.1 hi; omega)).2.2)
      rw [hdd]
      simp only [Rows.uptoBulk]
      omega
theorem twoL {β : Type} (xs : List β) (h : xs.length = 2) : ∃ a b, xs = [a, b] := by
  match xs, h with
  | [a, b], _ => exact ⟨a, b, rfl⟩
def wp1 (x : Pr) : Nat := x.1.length + x.2.length + 1
def wpr (l : List Pr) : Nat := (l.map wp1).sum
theorem elemPr (n : Nat) (a' : Addr) (cs' : List Value) (D : DataW H) (Pl : List MemPlace) (h1 : W.cells? 0 a' 2 = some cs') (h2 : DataW.trod enc Tryz.prog W 0 (fun _ => true) true n 28 cs' = some (D, Pl)) : ∃ x : Pr, (∀ j u, (RP.enc x)[j]? = some u → W.cell? (a'.add j) = some u) ∧ True ∧ wp1 x ≤ Rows.uptoBulk D := by
  obtain ⟨_, hlen, hcell⟩ := World.cells?_some h1
  obtain ⟨xs, k, hk, hxy, _, hxl, hf⟩ := DataW.trod_struct Tryz.underlying28 h2
  obtain ⟨v0, v1, rfl⟩ := twoL cs' hlen
  obtain ⟨y0, y1, rfl⟩ := twoL xs hxl
  have g0 := hf 0 _ rfl
  have g1 := hf 1 _ rfl
  simp [cellsS9] at g0 g1
  have e0 := hcell 0 (by omega)
  have e1 := hcell 1 (by omega)
  obtain ⟨s, hs, x0, _⟩ := DataW.trod_string Tryz.underlying9 g0
  obtain ⟨t, ht, x1, _⟩ := DataW.trod_string Tryz.underlying9 g1
  obtain rfl : v0 = .string s := by simpa using hs
  obtain rfl : v1 = .string t := by simpa using ht
  refine ⟨(bys s, bys t), fun j u hu => ?_, trivial, ?_⟩
  · match j with
    | 0 =>
      simp only [RP, List.getElem?_cons_zero, Option.some.injEq, str_bys] at hu
      rw [← hu]; simpa using e0
    | 1 =>
      simp only [RP, List.getElem?_cons_succ, List.getElem?_cons_zero, Option.some.injEq, str_bys] at hu
      rw [← hu]; simpa using e1
    | j + 2 => simp [RP] at hu
  · simp only [Prod.mk.injEq] at hxy
    rw [hxy.1]
    simp only [List.map_cons, List.map_nil, Rows.uptoBulk, Rows.uptoBulkAll]
    rw [x0, x1]
    have h3 := bys_length s
    have h4 := bys_length t
    have h5 : s.data.toList.length = s.size := Array.length_toList
    have h6 : t.data.toList.length = t.size := Array.length_toList
    simp only [Rows.uptoBulk, wp1]
    omega
instance : Inhabited Pr := ⟨([], [])⟩
theorem openedPr {a : Option Addr} {len cap : Nat} {d : DataW H} {p : List MemPlace} (h : DataW.Trod enc Tryz.prog W 0 (fun _ => true) true 22 (.slice a len cap) d p) :
    ∃ l : List Pr, SlR RP (fun _ => False) (.slice a len cap) l W ∧ l.length = len ∧ wpr l + 1 ≤ Rows.uptoBulk d := by
  obtain ⟨l, h1, h2, _, h4⟩ := openedR RP rpOk.und cellsPr rpOk.kp rpOk.len (fun _ => True) wp1 (fun n a' cs' D Pl h1 h2 => elemPr n a' cs' D Pl h1 h2) h
  exact ⟨l, h2, h1, h4⟩
theorem wpr_wt (l : List Pr) : wtP l ≤ 12 * wpr l := by
  induction l with
  | nil => simp [wtP, wpr]
  | cons x r ih =>
    unfold wtP wpr at ih ⊢
    rw [List.map_cons, List.sum_cons, List.map_cons, List.sum_cons]
    unfold wp1 at ih ⊢
    omega
end
end Go.Proofs.YtenkchhlaphocaaGreatDoor

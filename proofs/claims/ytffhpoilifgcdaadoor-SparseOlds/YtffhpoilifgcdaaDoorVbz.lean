import Derived.Test.YtffhpoilifgcdaaDoorVal
import Derived.Test.YtffhpoilifgcdaaDoorVbx
import Derived.Test.YtffhpoilifgcdaaDoorVby
import Derived.Handy
namespace Go.Proofs.YtffhpoilifgcdaaDoor
open Go.ChangeShapes Go.WideShapes Go.ChangeAt Go.RowKit Go.Deep
set_option linter.unusedVariables false
set_option maxRecDepth 100000
/-! ### Ranges that came in -/
theorem cells64 : Tryd.prog.cellsOf 2 = 1 := by kernel_rfl
theorem cellsRg : Tryd.prog.cellsOf 51 = 2 := by kernel_rfl
theorem cellsRgs : Tryd.prog.cellsOf 22 = 1 := by kernel_rfl
theorem cellsBys : Tryd.prog.cellsOf 23 = 1 := by kernel_rfl
theorem cellsInt : Tryd.prog.cellsOf 3 = 1 := by kernel_rfl
section
variable {H : Type} {enc : TypeId × Value → H} {W : World} {α : Type}
theorem bulk_sumG (f : α → Nat) (xs : List Nat) (F : Nat → α) (D : Nat → DataW H) (h : ∀ x ∈ xs, f (F x) ≤ Rows.uptoBulk (D x)) : ((xs.map F).map f).sum ≤ Rows.uptoBulkAll (xs.map D) := by
  induction xs with
  | nil => simp [Rows.uptoBulkAll]
  | cons x r ih =>
    have h1 := h x (by simp)
    have h2 := ih (fun y hy => h y (by simp [hy]))
    simp only [List.map_cons, List.sum_cons, Rows.uptoBulkAll]
    omega
/-- A list that came in, where an element that came in is known. -/
theorem openedRX [Inhabited α] (R : RT α) (hund : Tryd.prog.underlying R.TS = some (.slice R.T)) (hcell : Tryd.prog.cellsOf R.T = R.k) (hk : 0 < R.k) (hlen : ∀ x, (R.enc x).length = R.k) (Q : α → Prop) (f : α → Nat)
    (elem : ∀ (n : Nat) (a' : Addr) (cs' : List Value) (D : DataW H) (Pl : List MemPlace), W.cells? 0 a' R.k = some cs' → DataW.trod enc Tryd.prog W 0 (fun _ => true) true n R.T cs' = some (D, Pl) → ∃ x, (∀ j u, (R.enc x)[j]? = some u → W.cell? (a'.add j) = some u) ∧ Q x ∧ f x ≤ Rows.uptoBulk D)
    {a : Option Addr} {len cap : Nat} {d : DataW H} {p : List MemPlace} (h : DataW.Trod enc Tryd.prog W 0 (fun _ => true) true R.TS (.slice a len cap) d p) :
    ∃ l : List α, l.length = len ∧ SlR R (fun k => W.heap.size ≤ k) (.slice a len cap) l W ∧ (∀ x ∈ l, Q x) ∧ (l.map f).sum + 1 ≤ Rows.uptoBulk d := by
  obtain ⟨fuel, hf⟩ := h
  rcases open_slice hund hf with ⟨hcs, _⟩ | ⟨x, l, c, m, n, D, Pl, hcs, _, hl, hm, hmm, hd, hx⟩
  · simp [Value.cells] at hcs
    obtain ⟨rfl, rfl, rfl⟩ := hcs
    exact ⟨[], rfl, .inl ⟨none, rfl, rfl⟩, (fun x hx => by cases hx), by have := bulk_pos d; simpa using this⟩
  · simp [Value.cells] at hcs
    obtain ⟨rfl, rfl, rfl⟩ := hcs
    simp only [if_true] at hmm
    rw [hcell] at hx
    have hdd := (Prod.ext_iff.1 hd).1
    simp only at hdd
    obtain ⟨q, hq⟩ := choose_lt (α := α) (p := fun i q => (∀ j u, (R.enc q)[j]? = some u → W.cell? ((x.add (i * R.k)).add j) = some u) ∧ Q q ∧ f q ≤ Rows.uptoBulk (D i)) (n := m) (fun i hi => by
      obtain ⟨cs', h1, h2⟩ := hx i hi
      exact elem n _ cs' _ _ h1 h2)
    obtain ⟨b, off, spot⟩ := x
    have hsp : 0 < cap → spot = none ∧ b < W.heap.size := by
      intro h0
      obtain ⟨u, hu⟩ : ∃ u, (R.enc (q 0))[0]? = some u := ⟨_, List.getElem?_eq_getElem (by rw [hlen]; exact hk)⟩
      have := (hq 0 (by omega)).1 0 u hu
      have hs : spot = none := by simpa [Addr.add] using World.cell?_spot this
      subst hs
      refine ⟨rfl, ?_⟩
      have h2 := World.block_lt_of_cell? _ _ this
      rw [add_plain, add_plain] at h2
      exact h2
    refine ⟨(List.range len).map q, by simp, ?_, fun x hx => ?_, ?_⟩
    · by_cases hc0 : cap = 0
      · subst hc0
        obtain rfl : len = 0 := by omega
        exact .inl ⟨_, rfl, rfl⟩
      · obtain ⟨rfl, hbl⟩ := hsp (by omega)
        refine .inr ⟨b, off, cap, by omega, by simp, by simpa using hl, by unfold maxLen at hm; omega, fun i x j u hi hu => ?_⟩
        obtain ⟨hil, rfl⟩ := List.getElem?_eq_some_iff.1 hi
        have hi' : i < len := by simpa using hil
        simp only [List.getElem_map, List.getElem_range] at hu
        have := (hq i (by omega)).1 j u hu
        rw [add_plain, add_plain] at this
        exact this
    · obtain ⟨i, hi, rfl⟩ := List.mem_map.1 hx
      exact (hq i (by have := List.mem_range.1 hi; omega)).2.1
    · have := bulk_sumG f (List.range len) q D (fun i hi => (hq i (by have := List.mem_range.1 hi; omega)).2.2)
      rw [hdd]
      simp only [Rows.uptoBulk]
      omega
theorem twoLG {β : Type} (xs : List β) (h : xs.length = 2) : ∃ a b, xs = [a, b] := by
  match xs, h with
  | [a, b], _ => exact ⟨a, b, rfl⟩
theorem fourLG {β : Type} (xs : List β) (h : xs.length = 4) : ∃ a b c d, xs = [a, b, c, d] := by
  match xs, h with
  | [a, b, c, d], _ => exact ⟨a, b, c, d, rfl⟩
def I64r (x : Int) : Prop := -9223372036854775808 ≤ x ∧ x ≤ 9223372036854775807
theorem elemRg (n : Nat) (a' : Addr) (cs' : List Value) (D : DataW H) (Pl : List MemPlace) (h1 : W.cells? 0 a' 2 = some cs') (h2 : DataW.trod enc Tryd.prog W 0 (fun _ => true) true n 51 cs' = some (D, Pl)) : ∃ x : Rg, (∀ j u, (RG.enc x)[j]? = some u → W.cell? (a'.add j) = some u) ∧ (I64r x.1 ∧ I64r x.2) ∧ 1 ≤ Rows.uptoBulk D := by
  obtain ⟨_, hlen, hcell⟩ := World.cells?_some h1
  obtain ⟨xs, k, hk, hxy, _, hxl, hf⟩ := DataW.trod_struct Tryd.underlying51 h2
  obtain ⟨v0, v1, rfl⟩ := twoLG cs' hlen
  obtain ⟨y0, y1, rfl⟩ := twoLG xs hxl
  have g0 := hf 0 _ rfl
  have g1 := hf 1 _ rfl
  simp [cells64] at g0 g1
  have e0 := hcell 0 (by omega)
  have e1 := hcell 1 (by omega)
  obtain ⟨s, hs, _, ws⟩ := DataW.trod_int Tryd.underlying2 g0
  obtain ⟨t, ht, _, wt⟩ := DataW.trod_int Tryd.underlying2 g1
  obtain rfl : v0 = .int .i64 s := by simpa using hs
  obtain rfl : v1 = .int .i64 t := by simpa using ht
  refine ⟨(s, t), fun j u hu => ?_, ⟨by simp [Lit.wf, IntKind.bits, IntKind.signed, IntKind.min, IntKind.max] at ws; exact ⟨by omega, by omega⟩, by simp [Lit.wf, IntKind.bits, IntKind.signed, IntKind.min, IntKind.max] at wt; exact ⟨by omega, by omega⟩⟩, bulk_pos D⟩
  match j with
  | 0 =>
    simp only [RG, List.getElem?_cons_zero, Option.some.injEq] at hu
    rw [← hu]; simpa using e0
  | 1 =>
    simp only [RG, List.getElem?_cons_succ, List.getElem?_cons_zero, Option.some.injEq] at hu
    rw [← hu]; simpa using e1
  | j + 2 => simp [RG] at hu
theorem sum_one {β : Type} (l : List β) : (l.map (fun _ => 1)).sum = l.length := by
  induction l with
  | nil => rfl
  | cons x r ih => rw [List.map_cons, List.sum_cons, ih, List.length_cons, Nat.add_comm]
theorem openedG {a : Option Addr} {len cap : Nat} {d : DataW H} {p : List MemPlace} (h : DataW.Trod enc Tryd.prog W 0 (fun _ => true) true 22 (.slice a len cap) d p) :
    ∃ l : List Rg, SlR RG (fun k => W.heap.size ≤ k) (.slice a len cap) l W ∧ l.length = len ∧ (∀ x ∈ l, I64r x.1 ∧ I64r x.2) ∧ len + 1 ≤ Rows.uptoBulk d := by
  obtain ⟨l, h1, h2, h3, h4⟩ := openedRX RG Tryd.underlying22 cellsRg (by decide) (fun _ => rfl) (fun x => I64r x.1 ∧ I64r x.2) (fun _ => 1) elemRg h
  rw [sum_one] at h4
  exact ⟨l, h2, h1, h3, by omega⟩
end
end Go.Proofs.YtffhpoilifgcdaaDoor

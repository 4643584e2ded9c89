import Derived.Test.YtkpkiajehclbhaaVaj
import Derived.Test.YtkpkiajehclbhaaVak
import Derived.Test.YtkpkiajehclbhaaVal
import Derived.Test.YtkpkiajehclbhaaVan
namespace Go.Proofs.Ytkpkiajehclbhaa
open Go.RowKit
set_option linter.unusedVariables false
/-! ### Rows of numbers -/
def RI : RT Int := { enc := fun x => [.int .i64 x], k := 1, T := 3, TS := 54, z := 0, by_ := 8 }
theorem riOk : RI.Ok := by
  refine ⟨fun _ => rfl, by decide, fun x v hv => ?_, Try.underlying54, ?_⟩
  · simp only [RI, List.mem_cons, List.mem_nil_iff, or_false] at hv
    subst hv; rfl
  · have h : (Try.prog.info? 3).map (fun i => (i.zero, i.size, i.bytes)) = some (some (.int .i64 0), 1, 8) := by kernel_rfl
    cases hq : Try.prog.info? 3 with
    | none => simp [hq] at h
    | some i => simp [hq] at h; exact ⟨i, _, hq, h.1, h.2.1, h.2.2, rfl⟩
theorem ri_at {X : Nat → Prop} {a : Option Addr} {n c : Nat} {l : List Int} {w : World} (h : SlR RI X (.slice a n c) l w) (i : Nat) (x : Int) (hx : l[i]? = some x) : ∃ g o, a = some ⟨g, o, none⟩ ∧ ¬ X g ∧ w.cell? ⟨g, o + i, none⟩ = some (.int .i64 x) := by
  obtain ⟨g, o, e, hg, hc⟩ := h.at i x hx
  refine ⟨g, o, e, hg, ?_⟩
  have := hc 0 _ rfl
  rw [show RI.k = 1 from rfl, Nat.mul_one, Nat.add_zero] at this
  exact this
/-- The lengths may be. -/
def okL (zs : List Int) : Prop := (∀ z ∈ zs, 0 ≤ z ∧ z ≤ 15) ∧ zs.length ≤ 320
set_option maxHeartbeats 8000000 in
theorem canBe_any (w : World) (v : Value) (zs : List Int) (h : SlR RI (fun _ => False) v zs w) (hl : zs.length ≤ 17592186043904) : Calls Try.prog 46 #[v] w fun e w' => (∃ b, e = .returned (.bool b) ∧ (b = true ↔ okL zs)) ∧ w' = w := by
  obtain ⟨P, hP⟩ : ∃ P : Ending → World → Prop, P = fun e w' => (∃ b, e = .returned (.bool b) ∧ (b = true ↔ okL zs)) ∧ w' = w := ⟨_, rfl⟩
  rw [← hP]
  have HS : Hid (SlR RI (fun _ => False) v zs w) := h
  obtain ⟨a, c, rfl, hc, hc2, hca⟩ := h.form
  have HP : Hid (P = fun e w' => (∃ b, e = .returned (.bool b) ∧ (b = true ↔ okL zs)) ∧ w' = w) := hP
  clear hP h
  generalize hL : zs.length = L at *
  have hL' : Hid (zs.length = L) := hL
  clear hL
  go_enter Try.func46, Try.ntmps46
  go_wp2
  go_loopg [7] L (fun kx i wr => ∃ (I : Nat), I ≤ L ∧ L - I ≤ kx ∧ i = .int .i64 I ∧ wr = w ∧ Hid (∀ j x, j < I → zs[j]? = some x → 0 ≤ x ∧ x ≤ 15))
  case atStart => exact ⟨0, by omega, by omega, rfl, rfl, fun j x hj => by omega⟩
  case round =>
    obtain ⟨I, hI, hkx, rfl, rfl, HI⟩ := hrel
    by_cases hlt : I < L
    · have hlt' : I < zs.length := by rw [hL'.out]; exact hlt
      obtain ⟨g, o, rfl, _, hcell⟩ := ri_at HS.out I zs[I] (List.getElem?_eq_getElem hlt')
      have hz : (I : Int) < (L : Int) := by omega
      have hxx : zs[I]? = some zs[I] := List.getElem?_eq_getElem hlt'
      generalize zs[I] = x at *
      by_cases hx : 0 ≤ x ∧ x ≤ 15
      · have HN : Hid (∀ j y, j < I + 1 → zs[j]? = some y → 0 ≤ y ∧ y ≤ 15) := fun j y hj hy => by
          by_cases e : j = I
          · rw [e, hxx] at hy; injection hy with hy; subst hy; exact hx
          · exact HI.out j y (by omega) hy
        have h1 : ¬ x < 0 := by omega
        have h2 : ¬ 15 < x := by omega
        clear HI HS HP hxx
        go_wp2
        go_roundg (L - (I + 1))
        case measure => omega
        case rel => exact ⟨I + 1, by omega, by omega, by first | rfl | (congr 1), rfl, HN⟩
      · have HF : Hid (P (.returned (.bool false)) wr) := by
          show P _ _
          rw [HP.out]
          refine ⟨⟨false, rfl, ?_⟩, rfl⟩
          simp only [Bool.false_eq_true, false_iff]
          intro hk
          exact hx (hk.1 x (List.mem_of_getElem? hxx))
        clear HI HS HP hxx
        by_cases h1 : x < 0
        · go_wp2
          exact HF.out
        · have h2 : 15 < x := by omega
          go_wp2
          exact HF.out
    · obtain rfl : I = L := by omega
      have HF : Hid (P (.returned (.bool (decide ((I : Int) ≤ 320)))) wr) := by
        show P _ _
        rw [HP.out]
        refine ⟨⟨_, rfl, ?_⟩, rfl⟩
        rw [decide_eq_true_eq, okL, hL'.out]
        constructor
        · intro h
          refine ⟨fun z hz => ?_, by omega⟩
          obtain ⟨j, hj⟩ := List.mem_iff_getElem?.1 hz
          exact HI.out j z (by have := (List.getElem?_eq_some_iff.1 hj).1; rw [hL'.out] at this; exact this) hj
        · exact fun h => by have := h.2; omega
      have hz : ¬ (I : Int) < (I : Int) := by omega
      clear HI HS HP
      go_wp2
      exact HF.out
/-! ### The rows of a code -/
def rowC (f : Nat → Nat → Nat) : Array Value := ((List.range 48).map fun m => Value.int .i64 ((f (m / 3) (m % 3) : Nat) : Int)).toArray
theorem rowC_zero : rowC (fun _ _ => 0) = #[.int .i64 0, .int .i64 0, .int .i64 0, .int .i64 0, .int .i64 0, .int .i64 0, .int .i64 0, .int .i64 0, .int .i64 0, .int .i64 0, .int .i64 0, .int .i64 0, .int .i64 0, .int .i64 0, .int .i64 0, .int .i64 0, .int .i64 0, .int .i64 0, .int .i64 0, .int .i64 0, .int .i64 0, .int .i64 0, .int .i64 0, .int .i64 0, .int .i64 0, .int .i64 0, .int .i64 0, .int .i64 0, .int .i64 0, .int .i64 0, .int .i64 0, .int .i64 0, .int .i64 0, .int .i64 0, .int .i64 0, .int .i64 0, .int .i64 0, .int .i64 0, .int .i64 0, .int .i64 0, .int .i64 0, .int .i64 0, .int .i64 0, .int .i64 0, .int .i64 0, .int .i64 0, .int .i64 0, .int .i64 0] := by rfl
theorem rowC_size (f : Nat → Nat → Nat) : (rowC f).size = 48 := by simp [rowC]
theorem rowC_one (f : Nat → Nat → Nat) : (rowC f).all (·.oneCell') = true := by
  rw [Array.all_eq_true]
  intro i hi
  simp [rowC]
  rfl
theorem rowC_at (f : Nat → Nat → Nat) (n j : Nat) (hn : n < 16) (hj : j < 3) : (rowC f)[n * 3 + j]? = some (.int .i64 ((f n j : Nat) : Int)) := by
  have h1 : n * 3 + j < 48 := by omega
  simp only [rowC, List.getElem?_toArray, List.getElem?_map]
  rw [List.getElem?_range h1]
  simp only [Option.map_some]
  rw [show (n * 3 + j) / 3 = n by omega, show (n * 3 + j) % 3 = j by omega]
theorem rowC_congr (f g : Nat → Nat → Nat) (h : ∀ n j, n < 16 → j < 3 → f n j = g n j) : rowC f = rowC g := by
  apply Array.ext'
  simp only [rowC]
  apply List.map_congr_left
  intro m hm
  have := List.mem_range.1 hm
  rw [h (m / 3) (m % 3) (by omega) (by omega)]
def upd (f : Nat → Nat → Nat) (n j v : Nat) : Nat → Nat → Nat := fun a b => if a = n ∧ b = j then v else f a b
theorem rowC_set (f : Nat → Nat → Nat) (n j v : Nat) (hn : n < 16) (hj : j < 3) (z : Int) (hz : z = v) : (rowC f).setIfInBounds (n * 3 + j) (.int .i64 z) = rowC (upd f n j v) := by
  subst hz
  apply Array.ext'
  apply List.ext_getElem?
  intro m
  rw [Array.toList_setIfInBounds, List.getElem?_set]
  by_cases hm : m < 48
  · have h1 := rowC_at (upd f n j v) (m / 3) (m % 3) (by omega) (by omega)
    have h2 := rowC_at f (m / 3) (m % 3) (by omega) (by omega)
    rw [show m / 3 * 3 + m % 3 = m by omega] at h1 h2
    rw [Array.getElem?_toList, Array.getElem?_toList, h1, h2]
    by_cases e : n * 3 + j = m
    · rw [if_pos e, if_pos (by have := rowC_size f; simp; omega), upd, if_pos (by omega)]
    · rw [if_neg e, upd, if_neg (by omega)]
  · have hs := rowC_size f
    have hs2 := rowC_size (upd f n j v)
    rw [if_neg (by omega), List.getElem?_eq_none (by simp; omega), List.getElem?_eq_none (by simp; omega)]
def fr (ls : List Nat) (n j : Nat) : Nat := if j = 0 then ct ls n else if j = 1 then nm ls n else pc ls n
theorem nm_bound (ls : List Nat) (hl : ls.length ≤ 320) (n : Nat) : nm ls n + 640 ≤ 640 * 2 ^ n := by
  induction n with
  | zero => simp [nm]
  | succ n ih =>
    have h1 : ct ls n ≤ 320 := by
      rw [ct]; split
      · omega
      · exact Nat.le_trans (List.count_le_length) hl
    rw [nm, Nat.pow_succ]
    omega
theorem pc_bound (ls : List Nat) (hl : ls.length ≤ 320) (n : Nat) : pc ls n ≤ 320 * n := by
  induction n with
  | zero => simp [pc]
  | succ n ih =>
    have h1 : ct ls n ≤ 320 := by
      rw [ct]; split
      · omega
      · exact Nat.le_trans (List.count_le_length) hl
    rw [pc]
    omega
/-- The rows in memory, at the block rr; the answer's own lie at r0. -/
structure RwI (w : World) (rr r0 : Nat) (f : Nat → Nat → Nat) (wr : World) : Prop where
  r : wr.heap[rr]? = some (.cells (rowC f) 90)
  o : wr.heap[r0]? = some (.cells (rowC fun _ _ => 0) 90)
  ne : r0 ≠ rr
  h1 : w.heap.size ≤ rr
  h0 : w.heap.size ≤ r0
  nw : Nw w wr
variable {w : World} {rr r0 : Nat} {f : Nat → Nat → Nat} {wr : World}
theorem RwI.cell (h : RwI w rr r0 f wr) (n j : Nat) (hn : n < 16) (hj : j < 3) : wr.cell? ⟨rr, n * 3 + j, none⟩ = some (.int .i64 ((f n j : Nat) : Int)) ∧ wr.frozen? ⟨rr, n * 3 + j, none⟩ = false := row_cell h.r _ _ (rowC_at f n j hn hj)
theorem RwI.keep {W : World} (h : RwI w rr r0 f wr) (k : Nw wr W) : RwI w rr r0 f W := ⟨k.heap h.r, k.heap h.o, h.ne, h.h1, h.h0, h.nw.trans k⟩
theorem RwI.set (h : RwI w rr r0 f wr) (n j v : Nat) (hn : n < 16) (hj : j < 3) (z : Int) (hz : z = v) : RwI w rr r0 (upd f n j v) (wr.setCell ⟨rr, n * 3 + j, none⟩ (.int .i64 z)) := by
  have hf : Fr (fun k => k = rr) wr (wr.setCell ⟨rr, n * 3 + j, none⟩ (.int .i64 z)) := (Fr.refl _ _).setCell _ _ (.inl rfl)
  have := row_set h.r (n * 3 + j) (.int .i64 z)
  rw [rowC_set f n j v hn hj z hz] at this
  exact ⟨this, row_kept h.o hf h.ne, h.ne, h.h1, h.h0, Fr.then h.nw hf (fun i hi => .inr (by have := h.h1; omega))⟩
theorem RwI.congr {g : Nat → Nat → Nat} (h : RwI w rr r0 f wr) (e : ∀ n j, n < 16 → j < 3 → f n j = g n j) : RwI w rr r0 g wr := ⟨by rw [← rowC_congr f g e]; exact h.r, h.o, h.ne, h.h1, h.h0, h.nw⟩
/-- While the words are counted. -/
def fa (ls : List Nat) (I n j : Nat) : Nat := if j = 0 then ct (ls.take I) n else 0
theorem fa_step (ls : List Nat) (I m : Nat) (hI : I < ls.length) (hm : ls.getD I 0 = m) : (m = 0 → ∀ n j, fa ls I n j = fa ls (I + 1) n j) ∧ (m ≠ 0 → ∀ n j, upd (fa ls I) m 0 (fa ls I m 0 + 1) n j = fa ls (I + 1) n j) := by
  have hc : ∀ n, (ls.take (I + 1)).count n = (ls.take I).count n + (if m = n then 1 else 0) := fun n => by rw [count_take_succ ls I n hI, hm]
  constructor
  · intro h0 n j
    unfold fa
    split
    · unfold ct
      split
      · rfl
      · rw [hc n, if_neg (by omega)]
        rfl
    · rfl
  · intro h0 n j
    unfold upd fa
    by_cases hj : j = 0
    · simp only [hj, and_true, if_true]
      unfold ct
      by_cases hn : n = m
      · rw [if_pos hn, if_neg h0, hn, if_neg h0, hc m, if_pos rfl]
      · rw [if_neg hn]
        split
        · rfl
        · rw [hc n, if_neg (fun e => hn e.symm)]
          rfl
    · rw [if_neg (fun h => hj h.2), if_neg hj, if_neg hj]
/-- While numbers and places are laid, those below N are. -/
def fb (ls : List Nat) (N n j : Nat) : Nat := if j = 0 then ct ls n else if n < N then (if j = 1 then nm ls n else pc ls n) else 0
theorem fb_step (ls : List Nat) (N : Nat) (hN : 1 ≤ N) (n j : Nat) (hj : j < 3) : upd (upd (fb ls N) N 1 (nm ls N)) N 2 (pc ls N) n j = fb ls (N + 1) n j := by
  unfold upd fb
  rcases (show j = 0 ∨ j = 1 ∨ j = 2 by omega) with rfl | rfl | rfl
  · simp
  · simp
    by_cases h : n = N
    · subst h; simp
    · rw [if_neg h]
      by_cases h2 : n < N
      · rw [if_pos h2, if_pos (by omega)]
      · rw [if_neg h2, if_neg (by omega)]
  · simp
    by_cases h : n = N
    · subst h; simp
    · rw [if_neg h]
      by_cases h2 : n < N
      · rw [if_pos h2, if_pos (by omega)]
      · rw [if_neg h2, if_neg (by omega)]
end Go.Proofs.Ytkpkiajehclbhaa

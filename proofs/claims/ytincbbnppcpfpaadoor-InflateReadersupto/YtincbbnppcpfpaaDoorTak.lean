import Derived.Test.YtincbbnppcpfpaaDoorTag
import Derived.Test.YtincbbnppcpfpaaDoorTah
import Derived.Test.YtincbbnppcpfpaaDoorTaj
namespace Go.Proofs.YtincbbnppcpfpaaDoor
open Go.RowKit
set_option linter.unusedVariables false
/-! ### Rows of numbers -/
def RI : RT Int := { enc := fun x => [.int .i64 x], k := 1, T := 3, TS := 42, z := 0, by_ := 8 }
theorem riOk : RI.Ok := by
  refine ⟨fun _ => rfl, by decide, fun x v hv => ?_, Tryd.underlying42, ?_⟩
  · simp only [RI, List.mem_cons, List.mem_nil_iff, or_false] at hv
    subst hv; rfl
  · have h : (Tryd.prog.info? 3).map (fun i => (i.zero, i.size, i.bytes)) = some (some (.int .i64 0), 1, 8) := by kernel_rfl
    cases hq : Tryd.prog.info? 3 with
    | none => simp [hq] at h
    | some i => simp [hq] at h; exact ⟨i, _, hq, h.1, h.2.1, h.2.2, rfl⟩
theorem ri_at {X : Nat → Prop} {a : Option Addr} {n c : Nat} {l : List Int} {w : World} (h : SlR RI X (.slice a n c) l w) (i : Nat) (x : Int) (hx : l[i]? = some x) : ∃ g o, a = some ⟨g, o, none⟩ ∧ ¬ X g ∧ w.cell? ⟨g, o + i, none⟩ = some (.int .i64 x) := by
  obtain ⟨g, o, e, hg, hc⟩ := h.at i x hx
  refine ⟨g, o, e, hg, ?_⟩
  have := hc 0 _ rfl
  rw [show RI.k = 1 from rfl, Nat.mul_one, Nat.add_zero] at this
  exact this
/-- The lengths may be. -/
def okL (zs : List Int) : Prop := (∀ z ∈ zs, 0 ≤ z ∧ z ≤ 15) ∧ zs.length ≤ 320
set_option maxHeartbeats 8000000 in
theorem canBe_any (w : World) (v : Value) (zs : List Int) (h : SlR RI (fun _ => False) v zs w) (hl : zs.length ≤ 17592186043904) : Calls Tryd.prog 94 #[v] w fun e w' => (∃ b, e = .returned (.bool b) ∧ (b = true ↔ okL zs)) ∧ w' = w := by
  obtain ⟨P, hP⟩ : ∃ P : Ending → World → Prop, P = fun e w' => (∃ b, e = .returned (.bool b) ∧ (b = true ↔ okL zs)) ∧ w' = w := ⟨_, rfl⟩
  rw [← hP]
  have HS : Hid (SlR RI (fun _ => False) v zs w) := h
  obtain ⟨a, c, rfl, hc, hc2, hca⟩ := h.form
  have HP : Hid (P = fun e w' => (∃ b, e = .returned (.bool b) ∧ (b = true ↔ okL zs)) ∧ w' = w) := hP
  clear hP h
  generalize hL : zs.length = L at *
  have hL' : Hid (zs.length = L) := hL
  clear hL
  go_enter Tryd.func94, Tryd.ntmps94
  go_wp2
  go_loopg [7] L (fun kx i wr => ∃ (I : Nat), I ≤ L ∧ L - I ≤ kx ∧ i = .int .i64 I ∧ wr = w ∧ Hid (∀ j x, j < I → zs[j]? = some x → 0 ≤ x ∧ x ≤ 15))
  case atStart => exact ⟨0, by omega, by omega, rfl, rfl, fun j x hj => by omega⟩
  case round =>
    obtain ⟨I, hI, hkx, rfl, rfl, HI⟩ := hrel
    by_cases hlt : I < L
    · have hlt' : I < zs.length := by rw [hL'.out]; exact hlt
      obtain ⟨g, o, rfl, _, hcell⟩ := ri_at HS.out I zs[I] (List.getElem?_eq_getElem hlt')
      have hz : (I : Int) < (L : Int) := by omega
      have hxx : zs[I]? = some zs[I] := List.getElem?_eq_getElem hlt'
      generalize zs[I] = x at *
      by_cases hx : 0 ≤ x ∧ x ≤ 15
      · have HN : Hid (∀ j y, j < I + 1 → zs[j]? = some y → 0 ≤ y ∧ y ≤ 15) := fun j y hj hy => by
          by_cases e : j = I
          · rw [e, hxx] at hy; injection hy with hy; subst hy; exact hx
          · exact HI.out j y (by omega) hy
        have h1 : ¬ x < 0 := by omega
        have h2 : ¬ 15 < x := by omega
        clear HI HS HP hxx
        go_wp2
        go_roundg (L - (I + 1))
        case measure => omega
        case rel => exact ⟨I + 1, by omega, by omega, by first | rfl | (congr 1), rfl, HN⟩
      · have HF : Hid (P (.returned (.bool false)) wr) := by
          show P _ _
          rw [HP.out]
          refine ⟨⟨false, rfl, ?_⟩, rfl⟩
          simp only [Bool.false_eq_true, false_iff]
          intro hk
          exact hx (hk.1 x (List.mem_of_getElem? hxx))
        clear HI HS HP hxx
        by_cases h1 : x < 0
        · go_wp2
          exact HF.out
        · have h2 : 15 < x := by omega
          go_wp2
          exact HF.out
    · obtain rfl : I = L := by omega
      have HF : Hid (P (.returned (.bool (decide ((I : Int) ≤ 320)))) wr) := by
        show P _ _
        rw [HP.out]
        refine ⟨⟨_, rfl, ?_⟩, rfl⟩
        rw [decide_eq_true_eq, okL, hL'.out]
        constructor
        · intro h
          refine ⟨fun z hz => ?_, by omega⟩
          obtain ⟨j, hj⟩ := List.mem_iff_getElem?.1 hz
          exact HI.out j z (by have := (List.getElem?_eq_some_iff.1 hj).1; rw [hL'.out] at this; exact this) hj
        · exact fun h => by have := h.2; omega
      have hz : ¬ (I : Int) < (I : Int) := by omega
      clear HI HS HP
      go_wp2
      exact HF.out
/-! ### The rows of a code -/
def rowC (f : Nat → Nat → Nat) : Array Value := ((List.range 48).map fun m => Value.int .i64 ((f (m / 3) (m % 3) : Nat) : Int)).toArray
theorem rowC_zero : rowC (fun _ _ => 0) = #[.int .i64 0, .int .i64 0, .int .i64 0, .int .i64 0, .int .i64 0, .int .i64 0, .int .i64 0, .int .i64 0, .int .i64 0, .int .i64 0, .int .i64 0, .int .i64 0, .int .i64 0, .int .i64 0, .int .i64 0, .int .i64 0, .int .i64 0, .int .i64 0, .int .i64 0, .int .i64 0, .int .i64 0, .int .i64 0, .int .i64 0, .int .i64 0, .int .i64 0, .int .i64 0, .int .i64 0, .int .i64 0, .int .i64 0, .int .i64 0, .int .i64 0, .int .i64 0, .int .i64 0, .int .i64 0, .int .i64 0, .int .i64 0, .int .i64 0, .int .i64 0, .int .i64 0, .int .i64 0, .int .i64 0, .int .i64 0, .int .i64 0, .int .i64 0, .int .i64 0, .int .i64 0, .int .i64 0, .int .i64 0] := by rfl
theorem rowC_size (f : Nat → Nat → Nat) : (rowC f).size = 48 := by simp [rowC]
theorem rowC_one (f : Nat → Nat → Nat) : (rowC f).all (·.oneCell') = true := by
  rw [Array.all_eq_true]
  intro i hi
  simp [rowC]
  rfl
theorem rowC_at (f : Nat → Nat → Nat) (n j : Nat) (hn : n < 16) (hj : j < 3) : (rowC f)[n * 3 + j]? = some (.int .i64 ((f n j : Nat) : Int)) := by
  have h1 : n * 3 + j < 48 := by omega
  simp only [rowC, List.getElem?_toArray, List.getElem?_map]
  rw [List.getElem?_range h1]
  simp only [Option.map_some]
  rw [show (n * 3 + j) / 3 = n by omega, show (n * 3 + j) % 3 = j by omega]
theorem rowC_congr (f g : Nat → Nat → Nat) (h : ∀ n j, n < 16 → j < 3 → f n j = g n j) : rowC f = rowC g := by
  apply Array.ext'
  simp only [rowC]
  apply List.map_congr_left
  intro m hm
  have := List.mem_range.1 hm
  rw [h (m / 3) (m % 3) (by omega) (by omega)]
def upd (f : Nat → Nat → Nat) (n j v : Nat) : Nat → Nat → Nat := fun a b => if a = n ∧ b = j then v else f a b
theorem rowC_set (f : Nat → Nat → Nat) (n j v : Nat) (hn : n < 16) (hj : j < 3) (z : Int) (hz : z = v) : (rowC f).setIfInBounds (n * 3 + j) (.int .i64 z) = rowC (upd f n j v) := by
  subst hz
  apply Array.ext'
  apply List.ext_getElem?
  intro m
  rw [Array.toList_setIfInBounds, List.getElem?_set]
  by_cases hm : m < 48
  · have h1 := rowC_at (upd f n j v) (m / 3) (m % 3) (by omega) (by omega)
    have h2 := rowC_at f (m / 3) (m % 3) (by omega) (by omega)
    rw [show m / 3 * 3 + m % 3 = m by omega] at h1 h2
    rw [Array.getElem?_toList, Array.getElem?_toList, h1, h2]
    by_cases e : n * 3 + j = m
    · rw [if_pos e, if_pos (by have := rowC_size f; simp; omega), upd, if_pos (by omega)]
    · rw [if_neg e, upd, if_neg (by omega)]
  · have hs := rowC_size f
    have hs2 := rowC_size (upd f n j v)
    rw [if_neg (by omega), List.getElem?_eq_none (by simp; omega), List.getElem?_eq_none (by simp; omega)]
def fr (ls : List Nat) (n j : Nat) : Nat := if j = 0 then ct ls n else if j = 1 then nm ls n else pc ls n
theorem nm_bound (ls : List Nat) (hl : ls.length ≤ 320) (n : Nat) : nm ls n + 640 ≤ 640 * 2 ^ n := by
  induction n with
  | zero => simp [nm]
  | succ n ih =>
    have h1 : ct ls n ≤ 320 := by
      rw [ct]; split
      · omega
      · exact Nat.le_trans (List.count_le_length) hl
    rw [nm, Nat.pow_succ]
    omega
theorem pc_bound (ls : List Nat) (hl : ls.length ≤ 320) (n : Nat) : pc ls n ≤ 320 * n := by
  induction n with
  | zero => simp [pc]
  | succ n ih =>
    have h1 : ct ls n ≤ 320 := by
      rw [ct]; split
      · omega
      · exact Nat.le_trans (List.count_le_length) hl
    rw [pc]
    omega
/-- The rows in memory, at the block rr; the answer's own lie at r0. -/
structure RwI (w : World) (rr r0 : Nat) (f : Nat → Nat → Nat) (wr : World) : Prop where
  r : wr.heap[rr]? = some (.cells (rowC f) 125)
  o : wr.heap[r0]? = some (.cells (rowC fun _ _ => 0) 125)
  ne : r0 ≠ rr
  h1 : w.heap.size ≤ rr
  h0 : w.heap.size ≤ r0
  nw : Nw w wr
variable {w : World} {rr r0 : Nat} {f : Nat → Nat → Nat} {wr : World}
theorem RwI.cell (h : RwI w rr r0 f wr) (n j : Nat) (hn : n < 16) (hj : j < 3) : wr.cell? ⟨rr, n * 3 + j, none⟩ = some (.int .i64 ((f n j : Nat) : Int)) ∧ wr.frozen? ⟨rr, n * 3 + j, none⟩ = false := row_cell h.r _ _ (rowC_at f n j hn hj)
theorem RwI.keep {W : World} (h : RwI w rr r0 f wr) (k : Nw wr W) : RwI w rr r0 f W := ⟨k.heap h.r, k.heap h.o, h.ne, h.h1, h.h0, h.nw.trans k⟩
theorem RwI.set (h : RwI w rr r0 f wr) (n j v : Nat) (hn : n < 16) (hj : j < 3) (z : Int) (hz : z = v) : RwI w rr r0 (upd f n j v) (wr.setCell ⟨rr, n * 3 + j, none⟩ (.int .i64 z)) := by
  have hf : Fr (fun k => k = rr) wr (wr.setCell ⟨rr, n * 3 + j, none⟩ (.int .i64 z)) := (Fr.refl _ _).setCell _ _ (.inl rfl)
  have := row_set h.r (n * 3 + j) (.int .i64 z)
  rw [rowC_set f n j v hn hj z hz] at this
  exact ⟨this, row_kept h.o hf h.ne, h.ne, h.h1, h.h0, Fr.then h.nw hf (fun i hi => .inr (by have := h.h1; omega))⟩
theorem RwI.congr {g : Nat → Nat → Nat} (h : RwI w rr r0 f wr) (e : ∀ n j, n < 16 → j < 3 → f n j = g n j) : RwI w rr r0 g wr := ⟨by rw [← rowC_congr f g e]; exact h.r, h.o, h.ne, h.h1, h.h0, h.nw⟩
/-- While the words are counted. -/
def fa (ls : List Nat) (I n j : Nat) : Nat := if j = 0 then ct (ls.take I) n else 0
theorem fa_step (ls : List Nat) (I m : Nat) (hI : I < ls.length) (hm : ls.getD I 0 = m) : (m = 0 → ∀ n j, fa ls I n j = fa ls (I + 1) n j) ∧ (m ≠ 0 → ∀ n j, upd (fa ls I) m 0 (fa ls I m 0 + 1) n j = fa ls (I + 1) n j) := by
  have hc : ∀ n, (ls.take (I + 1)).count n = (ls.take I).count n + (if m = n then 1 else 0) := fun n => by rw [count_take_succ ls I n hI, hm]
  constructor
  · intro h0 n j
    unfold fa
    split
    · unfold ct
      split
      · rfl
      · rw [hc n, if_neg (by omega)]
        rfl
    · rfl
  · intro h0 n j
    unfold upd fa
    by_cases hj : j = 0
    · simp only [hj, and_true, if_true]
      unfold ct
      by_cases hn : n = m
      · rw [if_pos hn, if_neg h0, hn, if_neg h0, hc m, if_pos rfl]
      · rw [if_neg hn]
        split
        · rfl
        · rw [hc n, if_neg (fun e => hn e.symm)]
          rfl
    · rw [if_neg (fun h => hj h.2), if_neg hj, if_neg hj]
/-- While numbers and places are laid, those below N are. -/
def fb (ls : List Nat) (N n j : Nat) : Nat := if j = 0 then ct ls n else if n < N then (if j = 1 then nm ls n else pc ls n) else 0
theorem fb_step (ls : List Nat) (N : Nat) (hN : 1 ≤ N) (n j : Nat) (hj : j < 3) : upd (upd (fb ls N) N 1 (nm ls N)) N 2 (pc ls N) n j = fb ls (N + 1) n j := by
  unfold upd fb
  rcases (show j = 0 ∨ j = 1 ∨ j = 2 by omega) with rfl | rfl | rfl
  · simp
  · simp
    by_cases h : n = N
    · subst h; simp
    · rw [if_neg h]
      by_cases h2 : n < N
      · rw [if_pos h2, if_pos (by omega)]
      · rw [if_neg h2, if_neg (by omega)]
  · simp
    by_cases h : n = N
    · subst h; simp
    · rw [if_neg h]
      by_cases h2 : n < N
      · rw [if_pos h2, if_pos (by omega)]
      · rw [if_neg h2, if_neg (by omega)]
end Go.Proofs.YtincbbnppcpfpaaDoor

namespace Go.Proofs.YtincbbnppcpfpaaDoor
open Go.RowKit
set_option linter.unusedVariables false
/-- As the numbers of the program. -/
def toI (ls : List Nat) : List Int := ls.map (fun (n : Nat) => (n : Int))
theorem toI_length (ls : List Nat) : (toI ls).length = ls.length := by simp [toI]
theorem toI_at (ls : List Nat) (I : Nat) (hI : I < ls.length) : (toI ls)[I]? = some ((ls.getD I 0 : Nat) : Int) := by
  rw [toI, List.getElem?_map, List.getElem?_eq_getElem hI, List.getD_eq_getElem?_getD, List.getElem?_eq_getElem hI]; rfl
theorem rw_start (w : World) (ls : List Nat) : RwI w (w.heap.size + 1) w.heap.size (fa ls 0) ((w.alloc (.cells (rowC fun _ _ => 0) 125)).alloc (.cells (rowC fun _ _ => 0) 125)) := by
  have h1 : Nw w (w.alloc (.cells (rowC fun _ _ => 0) 125)) := (Fr.refl _ _).alloc _
  have h2 : Nw (w.alloc (.cells (rowC fun _ _ => 0) 125)) ((w.alloc (.cells (rowC fun _ _ => 0) 125)).alloc (.cells (rowC fun _ _ => 0) 125)) := (Fr.refl _ _).alloc _
  have e : (w.alloc (.cells (rowC fun _ _ => 0) 125)).heap.size = w.heap.size + 1 := by simp
  have r1 := h2.heap (new_heap w (.cells (rowC fun _ _ => 0) 125))
  have r2 := new_heap (w.alloc (.cells (rowC fun _ _ => 0) 125)) (.cells (rowC fun _ _ => 0) 125)
  rw [e] at r2
  refine ⟨?_, r1, by omega, by omega, Nat.le_refl _, h1.trans h2⟩
  exact r2
theorem fb_last (ls : List Nat) (n j : Nat) (hn : n < 16) : fb ls 16 n j = fr ls n j := by
  unfold fb fr
  rw [if_pos hn]
theorem size90 : (Tryd.prog.info? 125).map (·.size) = some 48 := by kernel_rfl
set_option maxHeartbeats 16000000 in
set_option maxRecDepth 100000 in
theorem rowsOf_any (w : World) (v : Value) (ls : List Nat) (h : SlR RI (fun k => w.heap.size ≤ k) v (toI ls) w) (hl : ls.length ≤ 320) (he : ∀ i, ls.getD i 0 ≤ 15) : Calls Tryd.prog 95 #[v] w fun e w' => e = .returned (.agg (rowC (fr ls))) ∧ Nw w w' := by
  obtain ⟨P, hP⟩ : ∃ P : Ending → World → Prop, P = fun e w' => e = .returned (.agg (rowC (fr ls))) ∧ Nw w w' := ⟨_, rfl⟩
  rw [← hP]
  have HS : Hid (SlR RI (fun k => w.heap.size ≤ k) v (toI ls) w) := h
  obtain ⟨a, c, rfl, hc, hc2, hca⟩ := h.form
  rw [toI_length] at hc ⊢
  have HP : Hid (P = fun e w' => e = .returned (.agg (rowC (fr ls))) ∧ Nw w w') := hP
  have HI0 : Hid (RwI w (w.heap.size + 1) w.heap.size (fa ls 0) ((w.alloc (.cells (rowC fun _ _ => 0) 125)).alloc (.cells (rowC fun _ _ => 0) 125))) := rw_start w ls
  have HE : Hid (∀ i, ls.getD i 0 ≤ 15) := he
  clear hP h he
  have hgd : Hid (∀ I, I < ls.length → (toI ls)[I]? = some ((ls.getD I 0 : Nat) : Int)) := fun I hI => toI_at ls I hI
  generalize hL : ls.length = L at *
  have hL' : Hid (ls.length = L) := hL
  clear hL
  go_enter Tryd.func95, Tryd.ntmps95
  go_upto_region 2 with fail
  rw [← rowC_zero]
  obtain ⟨rr, hrr⟩ : ∃ r, r = w.heap.size + 1 := ⟨_, rfl⟩
  obtain ⟨r0, hr0⟩ : ∃ r, r = w.heap.size := ⟨_, rfl⟩
  have HB : Hid (∀ g, ¬ w.heap.size ≤ g → g ≠ rr ∧ g ≠ r0) := fun g hg => by omega
  generalize (w.alloc (.cells (rowC fun _ _ => 0) 125)).alloc (.cells (rowC fun _ _ => 0) 125) = w0 at *
  rw [← hrr, ← hr0] at HI0
  rw [← hrr, ← hr0]
  clear hrr hr0
  go_wp2_with fail
  go_loopg [10] L (fun kx i wr => ∃ (I : Nat), I ≤ L ∧ L - I ≤ kx ∧ i = .int .i64 I ∧ Hid (RwI w rr r0 (fa ls I) wr))
  case atStart => exact ⟨0, by omega, by omega, rfl, HI0⟩
  case round =>
    obtain ⟨I, hI, hkx, rfl, HI⟩ := hrel
    clear HI0
    by_cases hlt : I < L
    · obtain ⟨g, o, rfl, hg, hcell⟩ := ri_at HS.out I _ (hgd.out I (by omega))
      have hcell' := HI.out.nw.cell hcell
      obtain ⟨m, hm⟩ : ∃ m, m = ls.getD I 0 := ⟨_, rfl⟩
      have hm15 : m ≤ 15 := by rw [hm]; exact HE.out I
      obtain ⟨s0, s1⟩ := fa_step ls I m (by rw [hL'.out]; exact hlt) hm.symm
      have hz : (I : Int) < (L : Int) := by omega
      rw [← hm] at hcell'
      clear hcell hm
      by_cases hm0 : m = 0
      · subst hm0
        have HN : Hid (RwI w rr r0 (fa ls (I + 1)) wr) := HI.out.congr (fun n j _ _ => s0 rfl n j)
        clear HI HS HE hgd HP s0 s1
        go_wp2_with fail
        go_roundg (L - (I + 1))
        case measure => omega
        case rel => exact ⟨I + 1, by omega, by omega, by first | rfl | (congr 1), HN⟩
      · obtain ⟨c0, c1⟩ := HI.out.cell m 0 (by omega) (by omega)
        obtain ⟨k, hk⟩ : ∃ k, k = fa ls I m 0 := ⟨_, rfl⟩
        have hkb : k ≤ 320 := by
          rw [hk]; unfold fa ct
          simp only [if_true]
          split
          · omega
          · exact Nat.le_trans (List.count_le_length) (by rw [List.length_take]; omega)
        have HN : Hid (RwI w rr r0 (fa ls (I + 1)) (wr.setCell ⟨rr, m * 3, none⟩ (.int .i64 ((k : Int) + 1)))) := by
          have := (HI.out.set m 0 (k + 1) (by omega) (by omega) ((k : Int) + 1) (by omega)).congr (g := fa ls (I + 1)) (fun n j _ _ => by rw [hk]; exact s1 hm0 n j)
          exact this
        rw [← hk] at c0
        replace c0 : wr.cell? ⟨rr, m * 3, none⟩ = some (.int .i64 k) := c0
        replace c1 : wr.frozen? ⟨rr, m * 3, none⟩ = false := c1
        have hz2 : (0 : Int) < (m : Int) := by omega
        have hz3 : (m : Int) < 16 := by omega
        clear HI HS HE hgd HP s0 s1 hk
        go_wp2_with fail
        go_roundg (L - (I + 1))
        case measure => omega
        case rel => exact ⟨I + 1, by omega, by omega, by first | rfl | (congr 1), HN⟩
    · obtain rfl : I = L := by omega
      have HJ0 : Hid (RwI w rr r0 (fb ls 1) wr) := by
        refine HI.out.congr (fun n j _ hj => ?_)
        unfold fa fb
        rw [← hL'.out, List.take_length]
        split
        · rfl
        · split
          · rename_i h1 h2
            obtain rfl : n = 0 := by omega
            split <;> rfl
          · rfl
      have hz : ¬ (I : Int) < (I : Int) := by omega
      clear HI HS HE hgd
      go_wp2_with fail
      go_loopg [6] 16 (fun kx i wr => ∃ (N : Nat), 1 ≤ N ∧ N ≤ 16 ∧ 16 - N ≤ kx ∧ i = .int .i64 N ∧ Hid (RwI w rr r0 (fb ls N) wr))
      case atStart => exact ⟨1, by omega, by omega, by omega, rfl, HJ0⟩
      case round =>
        obtain ⟨N, hN1, hN2, hkx2, rfl, HJ⟩ := hrel
        clear HJ0
        by_cases hlt2 : N ≤ 15
        · obtain ⟨M, hM⟩ : ∃ M, M = N - 1 := ⟨_, rfl⟩
          have hMi : (N : Int) - 1 = (M : Int) := by omega
          obtain ⟨a0, _⟩ := HJ.out.cell M 0 (by omega) (by omega)
          obtain ⟨a1, _⟩ := HJ.out.cell M 1 (by omega) (by omega)
          obtain ⟨a2, _⟩ := HJ.out.cell M 2 (by omega) (by omega)
          rw [show fb ls N M 0 = ct ls M from rfl] at a0
          rw [show fb ls N M 1 = nm ls M by unfold fb; rw [if_neg (by decide), if_pos (by omega), if_pos rfl]] at a1
          rw [show fb ls N M 2 = pc ls M by unfold fb; rw [if_neg (by decide), if_pos (by omega), if_neg (by decide)]] at a2
          have hnN : nm ls N = 2 * (nm ls M + ct ls M) := by rw [show N = M + 1 by omega, nm]
          have hpN : pc ls N = pc ls M + ct ls M := by rw [show N = M + 1 by omega, pc]
          have hnb := nm_bound ls (by rw [hL'.out]; exact hl) M
          have hpb := pc_bound ls (by rw [hL'.out]; exact hl) M
          have h2M : 2 ^ M ≤ 2 ^ 15 := Nat.pow_le_pow_right (by decide) (by omega)
          have h2e : (2 : Nat) ^ 15 = 32768 := by decide
          have hcb : ct ls M ≤ 320 := by
            rw [ct]; split
            · omega
            · exact Nat.le_trans (List.count_le_length) (by rw [hL'.out]; exact hl)
          have hnb2 : nm ls M ≤ 20971520 := by omega
          have HN : Hid (∀ W, Nw wr W → RwI w rr r0 (fb ls N) W ∧ RwI w rr r0 (upd (fb ls N) N 1 (nm ls N)) (W.setCell ⟨rr, N * 3 + 1, none⟩ (.int .i64 (nm ls N))) ∧ RwI w rr r0 (fb ls (N + 1)) ((W.setCell ⟨rr, N * 3 + 1, none⟩ (.int .i64 (nm ls N))).setCell ⟨rr, N * 3 + 2, none⟩ (.int .i64 (pc ls N)))) := fun W hW => by
            have k0 := HJ.out.keep hW
            have k1 := k0.set N 1 (nm ls N) (by omega) (by omega) (nm ls N) rfl
            have k2 := (k1.set N 2 (pc ls N) (by omega) (by omega) (pc ls N) rfl).congr (g := fb ls (N + 1)) (fun n j _ hj => fb_step ls N hN1 n j hj)
            exact ⟨k0, k1, k2⟩
          have hvi : 2 * ((nm ls M : Int) + (ct ls M : Int)) = (nm ls N : Int) := by rw [hnN]; push_cast; rfl
          have hpi : (pc ls M : Int) + (ct ls M : Int) = (pc ls N : Int) := by rw [hpN]; push_cast; rfl
          have hnN2 : nm ls N ≤ 42000000 := by omega
          have hpN2 : pc ls N ≤ 10000 := by omega
          replace a0 : wr.cell? ⟨rr, M * 3, none⟩ = some (.int .i64 (ct ls M)) := a0
          have hz2 : (N : Int) ≤ 15 := by omega
          have hz3 : (N : Int) < 16 := by omega
          have hz4 : (M : Int) < 16 := by omega
          have hpb2 : pc ls M ≤ 10000 := by omega
          clear HJ HP hnN hpN hnb hpb hM h2M h2e
          have hrl : rr < wr.heap.size := World.block_lt_of_cell? _ _ a0
          generalize ct ls M = C at *
          generalize nm ls M = U at *
          generalize pc ls M = Q at *
          have HW := HN.out (wr.alloc (.cells #[.int .i64 C, .int .i64 U, .int .i64 Q] 122)) ((Fr.refl _ _).alloc _)
          have s0 := (row_cell (new_heap wr (.cells #[.int .i64 C, .int .i64 U, .int .i64 Q] 122)) 0 _ rfl).1
          have s1 := (row_cell (new_heap wr (.cells #[.int .i64 C, .int .i64 U, .int .i64 Q] 122)) 1 _ rfl).1
          have s2 := (row_cell (new_heap wr (.cells #[.int .i64 C, .int .i64 U, .int .i64 Q] 122)) 2 _ rfl).1
          have HW' : Hid _ := HW
          have HS3 : Hid (wr.heap.size ≠ rr) := by show _ ≠ _; omega
          clear HN HW hrl
          go_upto_region 12 with fail
          generalize wr.alloc (.cells #[.int .i64 C, .int .i64 U, .int .i64 Q] 122) = W1 at *
          obtain ⟨sb, hsb⟩ : ∃ sb, sb = wr.heap.size := ⟨_, rfl⟩
          rw [← hsb] at s0 s1 s2 HS3
          rw [← hsb]
          obtain ⟨k0, k1, k2⟩ := HW'.out
          obtain ⟨b0, b1⟩ := k0.cell N 1 (by omega) (by omega)
          obtain ⟨b2, b3⟩ := k1.cell N 2 (by omega) (by omega)
          have hf1 : Fr (fun k => k = rr) W1 (W1.setCell ⟨rr, N * 3 + 1, none⟩ (.int .i64 (nm ls N))) := (Fr.refl _ _).setCell _ _ (.inl rfl)
          have t0 := hf1.cellv s0 HS3.out
          have t2 := hf1.cellv s2 HS3.out
          have HN2 : Hid (RwI w rr r0 (fb ls (N + 1)) ((W1.setCell ⟨rr, N * 3 + 1, none⟩ (.int .i64 (nm ls N))).setCell ⟨rr, N * 3 + 2, none⟩ (.int .i64 (pc ls N)))) := k2
          clear HW' k0 k1 k2 hf1 a0 a1 a2 hsb
          generalize nm ls N = NN at *
          generalize pc ls N = PN at *
          generalize fb ls N N 1 = x1 at *
          generalize upd (fb ls N) N 1 NN N 2 = x2 at *
          go_upto_region 13 with fail
          generalize W1.setCell ⟨rr, N * 3 + 1, none⟩ (.int .i64 NN) = W2 at *
          clear s0 s1 s2 b0 b1
          go_wp2_with fail
          go_roundg (16 - (N + 1))
          case measure => omega
          case rel => exact ⟨N + 1, by omega, by omega, by omega, by first | rfl | (congr 1), HN2⟩
        · obtain rfl : N = 16 := by omega
          have hR : RwI w rr r0 (fr ls) wr := HJ.out.congr (fun n j hn hj => fb_last ls n j hn)
          have hr := hR.r
          have ho := hR.o
          have HF : Hid (∀ W, W.heap[r0]? = some (.cells (rowC (fr ls)) 125) → Fr (fun k => k = r0) wr W → P (.returned (.agg (rowC (fr ls)))) W) := fun W hW hf => by
            rw [HP.out]
            exact ⟨rfl, Fr.then hR.nw hf (fun i hi => .inr (by have := hR.h0; omega))⟩
          have hz2 : ¬ ((16 : Nat) : Int) ≤ 15 := by omega
          have hsz := rowC_size (fr ls)
          have hsz0 := rowC_size (fun _ _ => 0)
          have hone := rowC_one (fr ls)
          clear HJ HP hR
          generalize rowC (fr ls) = A at *
          generalize rowC (fun _ _ => 0) = A0 at *
          go_wp2_with (first
            | (refine wpList_load_row rfl 125 _ rfl rr (by simp [Act.eval]) 125 A (0, 0) _ hr Tryd.underlying125 rfl (by rw [size90, hsz]) ?_)
            | (refine wpList_store_row rfl 125 _ _ rfl r0 A (by first | rfl | simp [Act.eval]) (by first | rfl | simp [Act.eval]) 125 A0 ho (by rw [size90, hsz]) (by rw [hsz, hsz0]) hone ?_))
          refine bodyPost_ret (results_cell_row (P := Tryd.prog) rfl _ _ r0 125 A (0, 0) _ rfl (setRow_heap _ _ _ _ 125 _ ho) Tryd.underlying125 rfl (by rw [size90, hsz])) rfl ?_
          exact HF.out _ (setRow_heap _ _ _ _ 125 _ ho) ((Fr.refl _ _).setRow _ _ (.inl rfl))
end Go.Proofs.YtincbbnppcpfpaaDoor

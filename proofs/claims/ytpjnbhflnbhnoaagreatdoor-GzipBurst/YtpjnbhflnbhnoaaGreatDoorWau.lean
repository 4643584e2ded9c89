import Derived.Test.YtpjnbhflnbhnoaaGreatDoorWat
import Derived.Test.YtpjnbhflnbhnoaaGreatDoorWak
import Derived.Test.YtpjnbhflnbhnoaaGreatDoorWaq
import Derived.Test.YtpjnbhflnbhnoaaGreatDoorWaj
namespace Go.Proofs.YtpjnbhflnbhnoaaGreatDoor
open Go.RowKit
set_option linter.unusedVariables false
/-! ### Rows of numbers -/
def RI : RT Int := { enc := fun x => [.int .i64 x], k := 1, T := 3, TS := 124, z := 0, by_ := 8 }
theorem riOk : RI.Ok := by
  refine ⟨fun _ => rfl, by decide, fun x v hv => ?_, Tryz.underlying124, ?_⟩
  · simp only [RI, List.mem_cons, List.mem_nil_iff, or_false] at hv
    subst hv; rfl
  · have h : (Tryz.prog.info? 3).map (fun i => (i.zero, i.size, i.bytes)) = some (some (.int .i64 0), 1, 8) := by kernel_rfl
    cases hq : Tryz.prog.info? 3 with
    | none => simp [hq] at h
    | some i => simp [hq] at h; exact ⟨i, _, hq, h.1, h.2.1, h.2.2, rfl⟩
theorem ri_at {X : Nat → Prop} {a : Option Addr} {n c : Nat} {l : List Int} {w : World} (h : SlR RI X (.slice a n c) l w) (i : Nat) (x : Int) (hx : l[i]? = some x) : ∃ g o, a = some ⟨g, o, none⟩ ∧ ¬ X g ∧ w.cell? ⟨g, o + i, none⟩ = some (.int .i64 x) := by
  obtain ⟨g, o, e, hg, hc⟩ := h.at i x hx
  refine ⟨g, o, e, hg, ?_⟩
  have := hc 0 _ rfl
  rw [show RI.k = 1 from rfl, Nat.mul_one, Nat.add_zero] at this
  exact this
/-- The lengths may be. -/
def okL (zs : List Int) : Prop := (∀ z ∈ zs, 0 ≤ z ∧ z ≤ 15) ∧ zs.length ≤ 320
set_option maxHeartbeats 8000000 in
theorem canBe_any (w : World) (v : Value) (zs : List Int) (h : SlR RI (fun _ => False) v zs w) (hl : zs.length ≤ 17592186043904) : Calls Tryz.prog 154 #[v] w fun e w' => (∃ b, e = .returned (.bool b) ∧ (b = true ↔ okL zs)) ∧ w' = w := by
  obtain ⟨P, hP⟩ : ∃ P : Ending → World → Prop, P = fun e w' => (∃ b, e = .returned (.bool b) ∧ (b = true ↔ okL zs)) ∧ w' = w := ⟨_, rfl⟩
  rw [← hP]
  have HS : Hid (SlR RI (fun _ => False) v zs w) := h
  obtain ⟨a, c, rfl, hc, hc2, hca⟩ := h.form
  have HP : Hid (P = fun e w' => (∃ b, e = .returned (.bool b) ∧ (b = true ↔ okL zs)) ∧ w' = w) := hP
  clear hP h
  generalize hL : zs.length = L at *
  have hL' : Hid (zs.length = L) := hL
  clear hL
  go_enter Tryz.func154, Tryz.ntmps154
  go_wp2
  go_loopg [7] L (fun kx i wr => ∃ (I : Nat), I ≤ L ∧ L - I ≤ kx ∧ i = .int .i64 I ∧ wr = w ∧ Hid (∀ j x, j < I → zs[j]? = some x → 0 ≤ x ∧ x ≤ 15))
  case atStart => exact ⟨0, by omega, by omega, rfl, rfl, fun j x hj => by omega⟩
  case round =>
    obtain ⟨I, hI, hkx, rfl, rfl, HI⟩ := hrel
    by_cases hlt : I < L
    · have hlt' : I < zs.length := by rw [hL'.out]; exact hlt
      obtain ⟨g, o, rfl, _, hcell⟩ := ri_at HS.out I zs[I] (List.getElem?_eq_getElem hlt')
      have hz : (I : Int) < (L : Int) := by omega
      have hxx : zs[I]? = some zs[I] := List.getElem?_eq_getElem hlt'
      generalize zs[I] = x at *
      by_cases hx : 0 ≤ x ∧ x ≤ 15
      · have HN : Hid (∀ j y, j < I + 1 → zs[j]? = some y → 0 ≤ y ∧ y ≤ 15) := fun j y hj hy => by
          by_cases e : j = I
          · rw [e, hxx] at hy; injection hy with hy; subst hy; exact hx
          · exact HI.out j y (by omega) hy
        have h1 : ¬ x < 0 := by omega
        have h2 : ¬ 15 < x := by omega
        clear HI HS HP hxx
        go_wp2
        go_roundg (L - (I + 1))
        case measure => omega
        case rel => exact ⟨I + 1, by omega, by omega, by first | rfl | (congr 1), rfl, HN⟩
      · have HF : Hid (P (.returned (.bool false)) wr) := by
          show P _ _
          rw [HP.out]
          refine ⟨⟨false, rfl, ?_⟩, rfl⟩
          simp only [Bool.false_eq_true, false_iff]
          intro hk
          exact hx (hk.1 x (List.mem_of_getElem? hxx))
        clear HI HS HP hxx
        by_cases h1 : x < 0
        · go_wp2
          exact HF.out
        · have h2 : 15 < x := by omega
          go_wp2
          exact HF.out
    · obtain rfl : I = L := by omega
      have HF : Hid (P (.returned (.bool (decide ((I : Int) ≤ 320)))) wr) := by
        show P _ _
        rw [HP.out]
        refine ⟨⟨_, rfl, ?_⟩, rfl⟩
        rw [decide_eq_true_eq, okL, hL'.out]
        constructor
        · intro h
          refine ⟨fun z hz => ?_, by omega⟩
          obtain ⟨j, hj⟩ := List.mem_iff_getElem?.1 hz
          exact HI.out j z (by have := (List.getElem?_eq_some_iff.1 hj).1; rw [hL'.out] at this; exact this) hj
        · exact fun h => by have := h.2; omega
      have hz : ¬ (I : Int) < (I : Int) := by omega
      clear HI HS HP
      go_wp2
      exact HF.out
/-! ### The rows of a code -/
def rowC (f : Nat → Nat → Nat) : Array Value := ((List.range 48).map fun m => Value.int .i64 ((f (m / 3) (m % 3) : Nat) : Int)).toArray
theorem rowC_zero : rowC (fun _ _ => 0) = #[.int .i64 0, .int .i64 0, .int .i64 0, .int .i64 0, .int .i64 0, .int .i64 0, .int .i64 0, .int .i64 0, .int .i64 0, .int .i64 0, .int .i64 0, .int .i64 0, .int .i64 0, .int .i64 0, .int .i64 0, .int .i64 0, .int .i64 0, .int .i64 0, .int .i64 0, .int .i64 0, .int .i64 0, .int .i64 0, .int .i64 0, .int .i64 0, .int .i64 0, .int .i64 0, .int .i64 0, .int .i64 0, .int .i64 0, .int .i64 0, .int .i64 0, .int .i64 0, .int .i64 0, .int .i64 0, .int .i64 0, .int .i64 0, .int .i64 0, .int .i64 0, .int .i64 0, .int .i64 0, .int .i64 0, .int .i64 0, .int .i64 0, .int .i64 0, .int .i64 0, .int .i64 0, .int .i64 0, .int .i64 0] := by rfl
theorem rowC_size (f : Nat → Nat → Nat) : (rowC f).size = 48 := by simp [rowC]
theorem rowC_one (f : Nat → Nat → Nat) : (rowC f).all (·.oneCell') = true := by
  rw [Array.all_eq_true]
  intro i hi
  simp [rowC]
  rfl
theorem rowC_at (f : Nat → Nat → Nat) (n j : Nat) (hn : n < 16) (hj : j < 3) : (rowC f)[n * 3 + j]? = some (.int .i64 ((f n j : Nat) : Int)) := by
  have h1 : n * 3 + j < 48 := by omega
  simp only [rowC, List.getElem?_toArray, List.getElem?_map]
  rw [List.getElem?_range h1]
  simp only [Option.map_some]
  rw [show (n * 3 + j) / 3 = n by omega, show (n * 3 + j) % 3 = j by omega]
theorem rowC_congr (f g : Nat → Nat → Nat) (h : ∀ n j, n < 16 → j < 3 → f n j = g n j) : rowC f = rowC g := by
  apply Array.ext'
  simp only [rowC]
  apply List.map_congr_left
  intro m hm
  have := List.mem_range.1 hm
  rw [h (m / 3) (m % 3) (by omega) (by omega)]
def upd (f : Nat → Nat → Nat) (n j v : Nat) : Nat → Nat → Nat := fun a b => if a = n ∧ b = j then v else f a b
theorem rowC_set (f : Nat → Nat → Nat) (n j v : Nat) (hn : n < 16) (hj : j < 3) (z : Int) (hz : z = v) : (rowC f).setIfInBounds (n * 3 + j) (.int .i64 z) = rowC (upd f n j v) := by
  subst hz
  apply Array.ext'
  apply List.ext_getElem?
  intro m
  rw [Array.toList_setIfInBounds, List.getElem?_set]
  by_cases hm : m < 48
  · have h1 := rowC_at (upd f n j v) (m / 3) (m % 3) (by omega) (by omega)
    have h2 := rowC_at f (m / 3) (m % 3) (by omega) (by omega)
    rw [show m / 3 * 3 + m % 3 = m by omega] at h1 h2
    rw [Array.getElem?_toList, Array.getElem?_toList, h1, h2]
    by_cases e : n * 3 + j = m
    · rw [if_pos e, if_pos (by have := rowC_size f; simp; omega), upd, if_pos (by omega)]
    · rw [if_neg e, upd, if_neg (by omega)]
  · have hs := rowC_size f
    have hs2 := rowC_size (upd f n j v)
    rw [if_neg (by omega), List.getElem?_eq_none (by simp; omega), List.getElem?_eq_none (by simp; omega)]
def fr (ls : List Nat) (n j : Nat) : Nat := if j = 0 then ct ls n else if j = 1 then nm ls n else pc ls n
theorem nm_bound (ls : List Nat) (hl : ls.length ≤ 320) (n : Nat) : nm ls n + 640 ≤ 640 * 2 ^ n := by
  induction n with
  | zero => simp [nm]
  | succ n ih =>
    have h1 : ct ls n ≤ 320 := by
      rw [ct]; split
      · omega
      · exact Nat.le_trans (List.count_le_length) hl
    rw [nm, Nat.pow_succ]
    omega
theorem pc_bound (ls : List Nat) (hl : ls.length ≤ 320) (n : Nat) : pc ls n ≤ 320 * n := by
  induction n with
  | zero => simp [pc]
  | succ n ih =>
    have h1 : ct ls n ≤ 320 := by
      rw [ct]; split
      · omega
      · exact Nat.le_trans (List.count_le_length) hl
    rw [pc]
    omega
/-- The rows in memory, at the block rr; the answer's own lie at r0. -/
structure RwI (w : World) (rr r0 : Nat) (f : Nat → Nat → Nat) (wr : World) : Prop where
  r : wr.heap[rr]? = some (.cells (rowC f) 209)
  o : wr.heap[r0]? = some (.cells (rowC fun _ _ => 0) 209)
  ne : r0 ≠ rr
  h1 : w.heap.size ≤ rr
  h0 : w.heap.size ≤ r0
  nw : Nw w wr
variable {w : World} {rr r0 : Nat} {f : Nat → Nat → Nat} {wr : World}
theorem RwI.cell (h : RwI w rr r0 f wr) (n j : Nat) (hn : n < 16) (hj : j < 3) : wr.cell? ⟨rr, n * 3 + j, none⟩ = some (.int .i64 ((f n j : Nat) : Int)) ∧ wr.frozen? ⟨rr, n * 3 + j, none⟩ = false := row_cell h.r _ _ (rowC_at f n j hn hj)
theorem RwI.keep {W : World} (h : RwI w rr r0 f wr) (k : Nw wr W) : RwI w rr r0 f W := ⟨k.heap h.r, k.heap h.o, h.ne, h.h1, h.h0, h.nw.trans k⟩
theorem RwI.set (h : RwI w rr r0 f wr) (n j v : Nat) (hn : n < 16) (hj : j < 3) (z : Int) (hz : z = v) : RwI w rr r0 (upd f n j v) (wr.setCell ⟨rr, n * 3 + j, none⟩ (.int .i64 z)) := by
  have hf : Fr (fun k => k = rr) wr (wr.setCell ⟨rr, n * 3 + j, none⟩ (.int .i64 z)) := (Fr.refl _ _).setCell _ _ (.inl rfl)
  have := row_set h.r (n * 3 + j) (.int .i64 z)
  rw [rowC_set f n j v hn hj z hz] at this
  exact ⟨this, row_kept h.o hf h.ne, h.ne, h.h1, h.h0, Fr.then h.nw hf (fun i hi => .inr (by have := h.h1; omega))⟩
theorem RwI.congr {g : Nat → Nat → Nat} (h : RwI w rr r0 f wr) (e : ∀ n j, n < 16 → j < 3 → f n j = g n j) : RwI w rr r0 g wr := ⟨by rw [← rowC_congr f g e]; exact h.r, h.o, h.ne, h.h1, h.h0, h.nw⟩
/-- While the words are counted. -/
def fa (ls : List Nat) (I n j : Nat) : Nat := if j = 0 then ct (ls.take I) n else 0
theorem fa_step (ls : List Nat) (I m : Nat) (hI : I < ls.length) (hm : ls.getD I 0 = m) : (m = 0 → ∀ n j, fa ls I n j = fa ls (I + 1) n j) ∧ (m ≠ 0 → ∀ n j, upd (fa ls I) m 0 (fa ls I m 0 + 1) n j = fa ls (I + 1) n j) := by
  have hc : ∀ n, (ls.take (I + 1)).count n = (ls.take I).count n + (if m = n then 1 else 0) := fun n => by rw [count_take_succ ls I n hI, hm]
  constructor
  · intro h0 n j
    unfold fa
    split
    · unfold ct
      split
      · rfl
      · rw [hc n, if_neg (by omega)]
        rfl
    · rfl
  · intro h0 n j
    unfold upd fa
    by_cases hj : j = 0
    · simp only [hj, and_true, if_true]
      unfold ct
      by_cases hn : n = m
      · rw [if_pos hn, if_neg h0, hn, if_neg h0, hc m, if_pos rfl]
      · rw [if_neg hn]
        split
        · rfl
        · rw [hc n, if_neg (fun e => hn e.symm)]
          rfl
    · rw [if_neg (fun h => hj h.2), if_neg hj, if_neg hj]
/-- While numbers and places are laid, those below N are. -/
def fb (ls : List Nat) (N n j : Nat) : Nat := if j = 0 then ct ls n else if n < N then (if j = 1 then nm ls n else pc ls n) else 0
theorem fb_step (ls : List Nat) (N : Nat) (hN : 1 ≤ N) (n j : Nat) (hj : j < 3) : upd (upd (fb ls N) N 1 (nm ls N)) N 2 (pc ls N) n j = fb ls (N + 1) n j := by
  unfold upd fb
  rcases (show j = 0 ∨ j = 1 ∨ j = 2 by omega) with rfl | rfl | rfl
  · simp
  · simp
    by_cases h : n = N
    · subst h; simp
    · rw [if_neg h]
      by_cases h2 : n < N
      · rw [if_pos h2, if_pos (by omega)]
      · rw [if_neg h2, if_neg (by omega)]
  · simp
    by_cases h : n = N
    · subst h; simp
    · rw [if_neg h]
      by_cases h2 : n < N
      · rw [if_pos h2, if_pos (by omega)]
      · rw [if_neg h2, if_neg (by omega)]
end Go.Proofs.YtpjnbhflnbhnoaaGreatDoor

namespace Go.Proofs.YtpjnbhflnbhnoaaGreatDoor
open Go.RowKit
set_option linter.unusedVariables false
/-- As the numbers of the program. -/
def toI (ls : List Nat) : List Int := ls.map (fun (n : Nat) => (n : Int))
theorem toI_length (ls : List Nat) : (toI ls).length = ls.length := by simp [toI]
theorem toI_at (ls : List Nat) (I : Nat) (hI : I < ls.length) : (toI ls)[I]? = some ((ls.getD I 0 : Nat) : Int) := by
  rw [toI, List.getElem?_map, List.getElem?_eq_getElem hI, List.getD_eq_getElem?_getD, List.getElem?_eq_getElem hI]; rfl
theorem rw_start (w : World) (ls : List Nat) : RwI w (w.heap.size + 1) w.heap.size (fa ls 0) ((w.alloc (.cells (rowC fun _ _ => 0) 209)).alloc (.cells (rowC fun _ _ => 0) 209)) := by
  have h1 : Nw w (w.alloc (.cells (rowC fun _ _ => 0) 209)) := (Fr.refl _ _).alloc _
  have h2 : Nw (w.alloc (.cells (rowC fun _ _ => 0) 209)) ((w.alloc (.cells (rowC fun _ _ => 0) 209)).alloc (.cells (rowC fun _ _ => 0) 209)) := (Fr.refl _ _).alloc _
  have e : (w.alloc (.cells (rowC fun _ _ => 0) 209)).heap.size = w.heap.size + 1 := by simp
  have r1 := h2.heap (new_heap w (.cells (rowC fun _ _ => 0) 209))
  have r2 := new_heap (w.alloc (.cells (rowC fun _ _ => 0) 209)) (.cells (rowC fun _ _ => 0) 209)
  rw [e] at r2
  refine ⟨?_, r1, by omega, by omega, Nat.le_refl _, h1.trans h2⟩
  exact r2
theorem fb_last (ls : List Nat) (n j : Nat) (hn : n < 16) : fb ls 16 n j = fr ls n j := by
  unfold fb fr
  rw [if_pos hn]
theorem size90 : (Tryz.prog.info? 209).map (·.size) = some 48 := by kernel_rfl
set_option maxHeartbeats 16000000 in
set_option maxRecDepth 100000 in
theorem rowsOf_any (w : World) (v : Value) (ls : List Nat) (h : SlR RI (fun k => w.heap.size ≤ k) v (toI ls) w) (hl : ls.length ≤ 320) (he : ∀ i, ls.getD i 0 ≤ 15) : Calls Tryz.prog 155 #[v] w fun e w' => e = .returned (.agg (rowC (fr ls))) ∧ Nw w w' := by
  obtain ⟨P, hP⟩ : ∃ P : Ending → World → Prop, P = fun e w' => e = .returned (.agg (rowC (fr ls))) ∧ Nw w w' := ⟨_, rfl⟩
  rw [← hP]
  have HS : Hid (SlR RI (fun k => w.heap.size ≤ k) v (toI ls) w) := h
  obtain ⟨a, c, rfl, hc, hc2, hca⟩ := h.form
  rw [toI_length] at hc ⊢
  have HP : Hid (P = fun e w' => e = .returned (.agg (rowC (fr ls))) ∧ Nw w w') := hP
  have HI0 : Hid (RwI w (w.heap.size + 1) w.heap.size (fa ls 0) ((w.alloc (.cells (rowC fun _ _ => 0) 209)).alloc (.cells (rowC fun _ _ => 0) 209))) := rw_start w ls
  have HE : Hid (∀ i, ls.getD i 0 ≤ 15) := he
  clear hP h he
  have hgd : Hid (∀ I, I < ls.length → (toI ls)[I]? = some ((ls.getD I 0 : Nat) : Int)) := fun I hI => toI_at ls I hI
  generalize hL : ls.length = L at *
  have hL' : Hid (ls.length = L) := hL
  clear hL
  go_enter Tryz.func155, Tryz.ntmps155
  go_upto_region 2 with fail
  rw [← rowC_zero]
  obtain ⟨rr, hrr⟩ : ∃ r, r = w.heap.size + 1 := ⟨_, rfl⟩
  obtain ⟨r0, hr0⟩ : ∃ r, r = w.heap.size := ⟨_, rfl⟩
  have HB : Hid (∀ g, ¬ w.heap.size ≤ g → g ≠ rr ∧ g ≠ r0) := fun g hg => by omega
  generalize (w.alloc (.cells (rowC fun _ _ => 0) 209)).alloc (.cells (rowC fun _ _ => 0) 209) = w0 at *
  rw [← hrr, ← hr0] at HI0
  rw [← hrr, ← hr0]
  clear hrr hr0
  go_wp2_with fail
  go_loopg [10] L (fun kx i wr => ∃ (I : Nat), I ≤ L ∧ L - I ≤ kx ∧ i = .int .i64 I ∧ Hid (RwI w rr r0 (fa ls I) wr))
  case atStart => exact ⟨0, by omega, by omega, rfl, HI0⟩
  case round =>
    obtain ⟨I, hI, hkx, rfl, HI⟩ := hrel
    clear HI0
    by_cases hlt : I < L
    · obtain ⟨g, o, rfl, hg, hcell⟩ := ri_at HS.out I _ (hgd.out I (by omega))
      have hcell' := HI.out.nw.cell hcell
      obtain ⟨m, hm⟩ : ∃ m, m = ls.getD I 0 := ⟨_, rfl⟩
      have hm15 : m ≤ 15 := by rw [hm]; exact HE.out I
      obtain ⟨s0, s1⟩ := fa_step ls I m (by rw [hL'.out]; exact hlt) hm.symm
      have hz : (I : Int) < (L : Int) := by omega
      rw [← hm] at hcell'
      clear hcell hm
      by_cases hm0 : m = 0
      · subst hm0
        have HN : Hid (RwI w rr r0 (fa ls (I + 1)) wr) := HI.out.congr (fun n j _ _ => s0 rfl n j)
        clear HI HS HE hgd HP s0 s1
        go_wp2_with fail
        go_roundg (L - (I + 1))
        case measure => omega
        case rel => exact ⟨I + 1, by omega, by omega, by first | rfl | (congr 1), HN⟩
      · obtain ⟨c0, c1⟩ := HI.out.cell m 0 (by omega) (by omega)
        obtain ⟨k, hk⟩ : ∃ k, k = fa ls I m 0 := ⟨_, rfl⟩
        have hkb : k ≤ 320 := by
          rw [hk]; unfold fa ct
          simp only [if_true]
          split
          · omega
          · exact Nat.le_trans (List.count_le_length) (by rw [List.length_take]; omega)
        have HN : Hid (RwI w rr r0 (fa ls (I + 1)) (wr.setCell ⟨rr, m * 3, none⟩ (.int .i64 ((k : Int) + 1)))) := by
          have := (HI.out.set m 0 (k + 1) (by omega) (by omega) ((k : Int) + 1) (by omega)).congr (g := fa ls (I + 1)) (fun n j _ _ => by rw [hk]; exact s1 hm0 n j)
          exact this
        rw [← hk] at c0
        replace c0 : wr.cell? ⟨rr, m * 3, none⟩ = some (.int .i64 k) := c0
        replace c1 : wr.frozen? ⟨rr, m * 3, none⟩ = false := c1
        have hz2 : (0 : Int) < (m : Int) := by omega
        have hz3 : (m : Int) < 16 := by omega
        clear HI HS HE hgd HP s0 s1 hk
        go_wp2_with fail
        go_roundg (L - (I + 1))
        case measure => omega
        case rel => exact ⟨I + 1, by omega, by omega, by first | rfl | (congr 1), HN⟩
    · obtain rfl : I = L := by omega
      have HJ0 : Hid (RwI w rr r0 (fb ls 1) wr) := by
        refine HI.out.congr (fun n j _ hj => ?_)
        unfold fa fb
        rw [← hL'.out, List.take_length]
        split
        · rfl
        · split
          · rename_i h1 h2
            obtain rfl : n = 0 := by omega
            split <;> rfl
          · rfl
      have hz : ¬ (I : Int) < (I : Int) := by omega
      clear HI HS HE hgd
      go_wp2_with fail
      go_loopg [6] 16 (fun kx i wr => ∃ (N : Nat), 1 ≤ N ∧ N ≤ 16 ∧ 16 - N ≤ kx ∧ i = .int .i64 N ∧ Hid (RwI w rr r0 (fb ls N) wr))
      case atStart => exact ⟨1, by omega, by omega, by omega, rfl, HJ0⟩
      case round =>
        obtain ⟨N, hN1, hN2, hkx2, rfl, HJ⟩ := hrel
        clear HJ0
        by_cases hlt2 : N ≤ 15
        · obtain ⟨M, hM⟩ : ∃ M, M = N - 1 := ⟨_, rfl⟩
          have hMi : (N : Int) - 1 = (M : Int) := by omega
          obtain ⟨a0, _⟩ := HJ.out.cell M 0 (by omega) (by omega)
          obtain ⟨a1, _⟩ := HJ.out.cell M 1 (by omega) (by omega)
          obtain ⟨a2, _⟩ := HJ.out.cell M 2 (by omega) (by omega)
          rw [show fb ls N M 0 = ct ls M from rfl] at a0
          rw [show fb ls N M 1 = nm ls M by unfold fb; rw [if_neg (by decide), if_pos (by omega), if_pos rfl]] at a1
          rw [show fb ls N M 2 = pc ls M by unfold fb; rw [if_neg (by decide), if_pos (by omega), if_neg (by decide)]] at a2
          have hnN : nm ls N = 2 * (nm ls M + ct ls M) := by rw [show N = M + 1 by omega, nm]
          have hpN : pc ls N = pc ls M + ct ls M := by rw [show N = M + 1 by omega, pc]
          have hnb := nm_bound ls (by rw [hL'.out]; exact hl) M
          have hpb := pc_bound ls (by rw [hL'.out]; exact hl) M
          have h2M : 2 ^ M ≤ 2 ^ 15 := Nat.pow_le_pow_right (by decide) (by omega)
          have h2e : (2 : Nat) ^ 15 = 32768 := by decide
          have hcb : ct ls M ≤ 320 := by
            rw [ct]; split
            · omega
            · exact Nat.le_trans (List.count_le_length) (by rw [hL'.out]; exact hl)
          have hnb2 : nm ls M ≤ 20971520 := by omega
          have HN : Hid (∀ W, Nw wr W → RwI w rr r0 (fb ls N) W ∧ RwI w rr r0 (upd (fb ls N) N 1 (nm ls N)) (W.setCell ⟨rr, N * 3 + 1, none⟩ (.int .i64 (nm ls N))) ∧ RwI w rr r0 (fb ls (N + 1)) ((W.setCell ⟨rr, N * 3 + 1, none⟩ (.int .i64 (nm ls N))).setCell ⟨rr, N * 3 + 2, none⟩ (.int .i64 (pc ls N)))) := fun W hW => by
            have k0 := HJ.out.keep hW
            have k1 := k0.set N 1 (nm ls N) (by omega) (by omega) (nm ls N) rfl
            have k2 := (k1.set N 2 (pc ls N) (by omega) (by omega) (pc ls N) rfl).congr (g := fb ls (N + 1)) (fun n j _ hj => fb_step ls N hN1 n j hj)
            exact ⟨k0, k1, k2⟩
          have hvi : 2 * ((nm ls M : Int) + (ct ls M : Int)) = (nm ls N : Int) := by rw [hnN]; push_cast; rfl
          have hpi : (pc ls M : Int) + (ct ls M : Int) = (pc ls N : Int) := by rw [hpN]; push_cast; rfl
          have hnN2 : nm ls N ≤ 42000000 := by omega
          have hpN2 : pc ls N ≤ 10000 := by omega
          replace a0 : wr.cell? ⟨rr, M * 3, none⟩ = some (.int .i64 (ct ls M)) := a0
          have hz2 : (N : Int) ≤ 15 := by omega
          have hz3 : (N : Int) < 16 := by omega
          have hz4 : (M : Int) < 16 := by omega
          have hpb2 : pc ls M ≤ 10000 := by omega
          clear HJ HP hnN hpN hnb hpb hM h2M h2e
          have hrl : rr < wr.heap.size := World.block_lt_of_cell? _ _ a0
          generalize ct ls M = C at *
          generalize nm ls M = U at *
          generalize pc ls M = Q at *
          have HW := HN.out (wr.alloc (.cells #[.int .i64 C, .int .i64 U, .int .i64 Q] 207)) ((Fr.refl _ _).alloc _)
          have s0 := (row_cell (new_heap wr (.cells #[.int .i64 C, .int .i64 U, .int .i64 Q] 207)) 0 _ rfl).1
          have s1 := (row_cell (new_heap wr (.cells #[.int .i64 C, .int .i64 U, .int .i64 Q] 207)) 1 _ rfl).1
          have s2 := (row_cell (new_heap wr (.cells #[.int .i64 C, .int .i64 U, .int .i64 Q] 207)) 2 _ rfl).1
          have HW' : Hid _ := HW
          have HS3 : Hid (wr.heap.size ≠ rr) := by show _ ≠ _; omega
          clear HN HW hrl
          go_upto_region 12 with fail
          generalize wr.alloc (.cells #[.int .i64 C, .int .i64 U, .int .i64 Q] 207) = W1 at *
          obtain ⟨sb, hsb⟩ : ∃ sb, sb = wr.heap.size := ⟨_, rfl⟩
          rw [← hsb] at s0 s1 s2 HS3
          rw [← hsb]
          obtain ⟨k0, k1, k2⟩ := HW'.out
          obtain ⟨b0, b1⟩ := k0.cell N 1 (by omega) (by omega)
          obtain ⟨b2, b3⟩ := k1.cell N 2 (by omega) (by omega)
          have hf1 : Fr (fun k => k = rr) W1 (W1.setCell ⟨rr, N * 3 + 1, none⟩ (.int .i64 (nm ls N))) := (Fr.refl _ _).setCell _ _ (.inl rfl)
          have t0 := hf1.cellv s0 HS3.out
          have t2 := hf1.cellv s2 HS3.out
          have HN2 : Hid (RwI w rr r0 (fb ls (N + 1)) ((W1.setCell ⟨rr, N * 3 + 1, none⟩ (.int .i64 (nm ls N))).setCell ⟨rr, N * 3 + 2, none⟩ (.int .i64 (pc ls N)))) := k2
          clear HW' k0 k1 k2 hf1 a0 a1 a2 hsb
          generalize nm ls N = NN at *
          generalize pc ls N = PN at *
          generalize fb ls N N 1 = x1 at *
          generalize upd (fb ls N) N 1 NN N 2 = x2 at *
          go_upto_region 13 with fail
          generalize W1.setCell ⟨rr, N * 3 + 1, none⟩ (.int .i64 NN) = W2 at *
          clear s0 s1 s2 b0 b1
          go_wp2_with fail
          go_roundg (16 - (N + 1))
          case measure => omega
          case rel => exact ⟨N + 1, by omega, by omega, by omega, by first | rfl | (congr 1), HN2⟩
        · obtain rfl : N = 16 := by omega
          have hR : RwI w rr r0 (fr ls) wr := HJ.out.congr (fun n j hn hj => fb_last ls n j hn)
          have hr := hR.r
          have ho := hR.o
          have HF : Hid (∀ W, W.heap[r0]? = some (.cells (rowC (fr ls)) 209) → Fr (fun k => k = r0) wr W → P (.returned (.agg (rowC (fr ls)))) W) := fun W hW hf => by
            rw [HP.out]
            exact ⟨rfl, Fr.then hR.nw hf (fun i hi => .inr (by have := hR.h0; omega))⟩
          have hz2 : ¬ ((16 : Nat) : Int) ≤ 15 := by omega
          have hsz := rowC_size (fr ls)
          have hsz0 := rowC_size (fun _ _ => 0)
          have hone := rowC_one (fr ls)
          clear HJ HP hR
          generalize rowC (fr ls) = A at *
          generalize rowC (fun _ _ => 0) = A0 at *
          go_wp2_with (first
            | (refine wpList_load_row rfl 209 _ rfl rr (by simp [Act.eval]) 209 A (0, 0) _ hr Tryz.underlying209 rfl (by rw [size90, hsz]) ?_)
            | (refine wpList_store_row rfl 209 _ _ rfl r0 A (by first | rfl | simp [Act.eval]) (by first | rfl | simp [Act.eval]) 209 A0 ho (by rw [size90, hsz]) (by rw [hsz, hsz0]) hone ?_))
          refine bodyPost_ret (results_cell_row (P := Tryz.prog) rfl _ _ r0 209 A (0, 0) _ rfl (setRow_heap _ _ _ _ 209 _ ho) Tryz.underlying209 rfl (by rw [size90, hsz])) rfl ?_
          exact HF.out _ (setRow_heap _ _ _ _ 209 _ ho) ((Fr.refl _ _).setRow _ _ (.inl rfl))
end Go.Proofs.YtpjnbhflnbhnoaaGreatDoor

namespace Go.Proofs.YtpjnbhflnbhnoaaGreatDoor
open Go.RowKit
set_option linter.unusedVariables false
theorem box_cell (w : World) (f : Nat → Nat → Nat) (n j : Nat) (hn : n < 16) (hj : j < 3) : (w.alloc (.cells (rowC f) 209)).cell? ⟨w.heap.size, n * 3 + j, none⟩ = some (.int .i64 (f n j)) := (row_cell (new_heap w _) _ _ (rowC_at f n j hn hj)).1
set_option maxHeartbeats 8000000 in
theorem room_any (w : World) (f : Nat → Nat → Nat) (h : f 15 1 + f 15 0 ≤ 1000000000) : Calls Tryz.prog 156 #[.agg (rowC f)] w fun e w' => e = .returned (.int .i64 (f 15 1 + f 15 0 : Nat)) ∧ Nw w w' := by
  obtain ⟨P, hP⟩ : ∃ P : Ending → World → Prop, P = fun e w' => e = .returned (.int .i64 (f 15 1 + f 15 0 : Nat)) ∧ Nw w w' := ⟨_, rfl⟩
  rw [← hP]
  have HF : Hid (P (.returned (.int .i64 (f 15 1 + f 15 0 : Nat))) (w.alloc (.cells (rowC f) 209))) := by
    show P _ _
    rw [hP]; exact ⟨rfl, (Fr.refl _ _).alloc _⟩
  have c1 := box_cell w f 15 1 (by decide) (by decide)
  have c0 := box_cell w f 15 0 (by decide) (by decide)
  have hi : ((f 15 1 : Nat) : Int) + ((f 15 0 : Nat) : Int) = ((f 15 1 + f 15 0 : Nat) : Int) := by omega
  clear hP
  generalize f 15 1 + f 15 0 = s at *
  generalize f 15 1 = x at *
  generalize f 15 0 = y at *
  generalize rowC f = A at *
  go_enter Tryz.func156, Tryz.ntmps156
  go_wp2
  exact HF.out
set_option maxHeartbeats 8000000 in
theorem nwords_any (w : World) (f : Nat → Nat → Nat) (h : f 15 2 + f 15 0 ≤ 1000000000) : Calls Tryz.prog 157 #[.agg (rowC f)] w fun e w' => e = .returned (.int .i64 (f 15 2 + f 15 0 : Nat)) ∧ w' = w.alloc (.cells (rowC f) 209) := by
  obtain ⟨P, hP⟩ : ∃ P : Ending → World → Prop, P = fun e w' => e = .returned (.int .i64 (f 15 2 + f 15 0 : Nat)) ∧ w' = w.alloc (.cells (rowC f) 209) := ⟨_, rfl⟩
  rw [← hP]
  have HF : Hid (P (.returned (.int .i64 (f 15 2 + f 15 0 : Nat))) (w.alloc (.cells (rowC f) 209))) := by
    show P _ _
    rw [hP]; exact ⟨rfl, rfl⟩
  have c1 := box_cell w f 15 2 (by decide) (by decide)
  have c0 := box_cell w f 15 0 (by decide) (by decide)
  have hi : ((f 15 2 : Nat) : Int) + ((f 15 0 : Nat) : Int) = ((f 15 2 + f 15 0 : Nat) : Int) := by omega
  clear hP
  generalize f 15 2 + f 15 0 = s at *
  generalize f 15 2 = x at *
  generalize f 15 0 = y at *
  generalize rowC f = A at *
  go_enter Tryz.func157, Tryz.ntmps157
  go_wp2
  exact HF.out
end Go.Proofs.YtpjnbhflnbhnoaaGreatDoor

namespace Go.Proofs.YtpjnbhflnbhnoaaGreatDoor
open Go.RowKit
set_option linter.unusedVariables false
/-! ### A code in memory -/
def RW : RT (Nat × Nat) := { enc := fun x => [.int .u32 x.1, .int .i64 x.2], k := 2, T := 196, TS := 211, z := (0, 0), by_ := 16 }
theorem rwOk : RW.Ok := by
  refine ⟨fun _ => rfl, by decide, fun x v hv => ?_, Tryz.underlying211, ?_⟩
  · simp only [RW, List.mem_cons, List.mem_nil_iff, or_false] at hv
    rcases hv with rfl | rfl <;> rfl
  · have h : (Tryz.prog.info? 196).map (fun i => (i.zero, i.size, i.bytes)) = some (some (.agg #[.int .u32 0, .int .i64 0]), 2, 16) := by kernel_rfl
    cases hq : Tryz.prog.info? 196 with
    | none => simp [hq] at h
    | some i => simp [hq] at h; exact ⟨i, _, hq, h.1, h.2.1, h.2.2, rfl⟩
def codeC (vw vs : Value) (f : Nat → Nat → Nat) : Array Value := #[vw, vs] ++ rowC f
theorem codeC_row (vw vs : Value) (f : Nat → Nat → Nat) (n j : Nat) (hn : n < 16) (hj : j < 3) : (codeC vw vs f)[2 + (n * 3 + j)]? = some (.int .i64 ((f n j : Nat) : Int)) := by
  have h := rowC_at f n j hn hj
  rw [codeC, Array.getElem?_append_right (by simp)]
  simpa using h
structure CdM (cb gw gs L M : Nat) (f : Nat → Nat → Nat) (ws : List (Nat × Nat)) (ss : List Int) (w : World) : Prop where
  row : w.heap[cb]? = some (.cells (codeC (.slice (some ⟨gw, 0, none⟩) L L) (.slice (some ⟨gs, 0, none⟩) M M) f) 213)
  wd : SwR RW gw ws w
  st : SwR RI gs ss w
  wl : ws.length = L
  sl : ss.length = M
  n1 : cb ≠ gw
  n2 : cb ≠ gs
  n3 : gw ≠ gs
  ll : L ≤ 1000000
  ml : M ≤ 1000000
variable {cb gw gs L M : Nat} {f : Nat → Nat → Nat} {ws : List (Nat × Nat)} {ss : List Int} {w : World}
theorem CdM.kept {w' : World} {X : Nat → Prop} (h : CdM cb gw gs L M f ws ss w) (k : Fr X w w') (h1 : ¬ X cb) (h2 : ¬ X gw) (h3 : ¬ X gs) : CdM cb gw gs L M f ws ss w' :=
  ⟨row_kept h.row k h1, h.wd.kept k h2, h.st.kept k h3, h.wl, h.sl, h.n1, h.n2, h.n3, h.ll, h.ml⟩
theorem CdM.nw {w' : World} (h : CdM cb gw gs L M f ws ss w) (k : Nw w w') : CdM cb gw gs L M f ws ss w' := h.kept k (fun h => h) (fun h => h) (fun h => h)
theorem CdM.lt (h : CdM cb gw gs L M f ws ss w) : cb < w.heap.size ∧ gw < w.heap.size ∧ gs < w.heap.size := ⟨(Array.getElem?_eq_some_iff.1 h.row).1, h.wd.lt, h.st.lt⟩
theorem CdM.heads (h : CdM cb gw gs L M f ws ss w) : w.cell? ⟨cb, 0, none⟩ = some (.slice (some ⟨gw, 0, none⟩) L L) ∧ w.cell? ⟨cb, 1, none⟩ = some (.slice (some ⟨gs, 0, none⟩) M M) := by
  refine ⟨(row_cell h.row 0 _ ?_).1, (row_cell h.row 1 _ ?_).1⟩
  · rw [codeC, Array.getElem?_append_left (by simp)]; rfl
  · rw [codeC, Array.getElem?_append_left (by simp)]; rfl
theorem CdM.rows (h : CdM cb gw gs L M f ws ss w) (n j : Nat) (hn : n < 16) (hj : j < 3) : w.cell? ⟨cb, 2 + (n * 3 + j), none⟩ = some (.int .i64 ((f n j : Nat) : Int)) := (row_cell h.row _ _ (codeC_row _ _ f n j hn hj)).1
theorem CdM.word (h : CdM cb gw gs L M f ws ss w) (i : Nat) (x : Nat × Nat) (hx : ws[i]? = some x) : w.cell? ⟨gw, i * 2, none⟩ = some (.int .u32 x.1) ∧ w.cell? ⟨gw, i * 2 + 1, none⟩ = some (.int .i64 x.2) ∧ w.frozen? ⟨gw, i * 2, none⟩ = false ∧ w.frozen? ⟨gw, i * 2 + 1, none⟩ = false := by
  have a := h.wd.cell rwOk i 0 x _ hx rfl
  have b := h.wd.cell rwOk i 1 x _ hx rfl
  exact ⟨a.1, b.1, a.2, b.2⟩
theorem CdM.sym (h : CdM cb gw gs L M f ws ss w) (i : Nat) (x : Int) (hx : ss[i]? = some x) : w.cell? ⟨gs, i, none⟩ = some (.int .i64 x) ∧ w.frozen? ⟨gs, i, none⟩ = false := by
  have a := h.st.cell riOk i 0 x _ hx rfl
  rw [show RI.k = 1 from rfl, Nat.mul_one, Nat.add_zero] at a
  exact a
theorem SwR.set1 {g : Nat} {xs : List Int} {w : World} (h : SwR RI g xs w) (i : Nat) (z : Int) : SwR RI g (xs.set i z) (w.setCell ⟨g, i, none⟩ (.int .i64 z)) := by
  unfold SwR at h ⊢
  rw [row_set h i]
  congr 2
  have e : ∀ l : List Int, flatR RI l = l.map (fun x => Value.int .i64 x) := by
    intro l
    induction l with
    | nil => rfl
    | cons x r ih => rw [flatR, ih]; rfl
  rw [e, e, List.map_set]
  simp
theorem SwR.set2 {g : Nat} {xs : List (Nat × Nat)} {w : World} (h : SwR RW g xs w) (i : Nat) (hi : i < xs.length) (b n : Nat) : SwR RW g (xs.set i (b, n)) ((w.setCell ⟨g, i * 2, none⟩ (.int .u32 b)).setCell ⟨g, i * 2 + 1, none⟩ (.int .i64 n)) := by
  unfold SwR at h ⊢
  rw [row_set (row_set h (i * 2) (.int .u32 b)) (i * 2 + 1)]
  congr 2
  apply Array.ext'
  apply List.ext_getElem?
  intro m
  have hl := flatR_length rwOk xs
  have hl2 := flatR_length rwOk (xs.set i (b, n))
  rw [List.length_set] at hl2
  rw [show RW.k = 2 from rfl] at hl hl2
  simp only [Array.toList_setIfInBounds, List.getElem?_set, List.length_set]
  by_cases hm : m < xs.length * 2
  · have hmi : m / 2 < xs.length := by omega
    have hx : (xs.set i (b, n))[m / 2]? = some (if i = m / 2 then (b, n) else xs[m / 2]) := by
      rw [List.getElem?_set]
      by_cases e : i = m / 2
      · rw [if_pos e, if_pos e, if_pos (by omega)]
      · rw [if_neg e, if_neg e, List.getElem?_eq_getElem hmi]
    rcases (show m % 2 = 0 ∨ m % 2 = 1 by omega) with e | e
    · have h1 := flatR_at rwOk (xs.set i (b, n)) (m / 2) 0 _ _ hx rfl
      have h2 := flatR_at rwOk xs (m / 2) 0 _ _ (List.getElem?_eq_getElem hmi) rfl
      rw [show RW.k = 2 from rfl, show m / 2 * 2 + 0 = m by omega] at h1 h2
      rw [h1, h2, if_neg (by omega)]
      by_cases e2 : i = m / 2
      · rw [if_pos (by omega), if_pos (by omega), if_pos e2]
      · rw [if_neg (by omega), if_neg e2]
    · have h1 := flatR_at rwOk (xs.set i (b, n)) (m / 2) 1 _ _ hx rfl
      have h2 := flatR_at rwOk xs (m / 2) 1 _ _ (List.getElem?_eq_getElem hmi) rfl
      rw [show RW.k = 2 from rfl, show m / 2 * 2 + 1 = m by omega] at h1 h2
      rw [h1, h2]
      by_cases e2 : i = m / 2
      · rw [if_pos (by omega), if_pos (by omega), if_pos e2]
      · rw [if_neg (by omega), if_neg (by omega), if_neg e2]
  · rw [if_neg (by omega), if_neg (by omega), List.getElem?_eq_none (by omega), List.getElem?_eq_none (by omega)]
theorem CdM.put (h : CdM cb gw gs L M f ws ss w) (i : Nat) (hi : i < L) (b n : Nat) : CdM cb gw gs L M f (ws.set i (b, n)) ss ((w.setCell ⟨gw, i * 2, none⟩ (.int .u32 b)).setCell ⟨gw, i * 2 + 1, none⟩ (.int .i64 n)) ∧ Fr (fun k => k = gw) w ((w.setCell ⟨gw, i * 2, none⟩ (.int .u32 b)).setCell ⟨gw, i * 2 + 1, none⟩ (.int .i64 n)) := by
  have k : Fr (fun k => k = gw) w ((w.setCell ⟨gw, i * 2, none⟩ (.int .u32 b)).setCell ⟨gw, i * 2 + 1, none⟩ (.int .i64 n)) := Fr.setCell (Fr.setCell (Fr.refl (fun k => k = gw) w) ⟨gw, i * 2, none⟩ (.int .u32 b) (.inl rfl)) ⟨gw, i * 2 + 1, none⟩ (.int .i64 n) (.inl rfl)
  exact ⟨⟨row_kept h.row k h.n1, h.wd.set2 i (by rw [h.wl]; exact hi) b n, h.st.kept k (fun e => h.n3 e.symm), by rw [List.length_set]; exact h.wl, h.sl, h.n1, h.n2, h.n3, h.ll, h.ml⟩, k⟩
theorem CdM.sort (h : CdM cb gw gs L M f ws ss w) (i : Nat) (z : Int) : CdM cb gw gs L M f ws (ss.set i z) (w.setCell ⟨gs, i, none⟩ (.int .i64 z)) ∧ Fr (fun k => k = gs) w (w.setCell ⟨gs, i, none⟩ (.int .i64 z)) := by
  have k : Fr (fun k => k = gs) w (w.setCell ⟨gs, i, none⟩ (.int .i64 z)) := (Fr.refl _ _).setCell _ _ (.inl rfl)
  exact ⟨⟨row_kept h.row k h.n2, h.wd.kept k h.n3, h.st.set1 i z, h.wl, by rw [List.length_set]; exact h.sl, h.n1, h.n2, h.n3, h.ll, h.ml⟩, k⟩
set_option maxHeartbeats 8000000 in
set_option maxRecDepth 100000 in
/-- A word is told: it is laid where it belongs. -/
theorem tell_any (h : CdM cb gw gs L M f ws ss w) (pb : Nat) (hp : w.heap[pb]? = some (.cells #[.pointer (some ⟨cb, 0, none⟩)] 89)) (hpw : pb ≠ gw) (hps : pb ≠ gs) (i p b n : Nat) (hi : i < L) (hpm : p < M) :
    Calls Tryz.prog 159 #[.int .i64 i, .int .i64 p, .agg #[.int .u32 b, .int .i64 n], .pointer (some ⟨pb, 0, none⟩)] w fun e w' => (∃ r, e = .returned r) ∧ CdM cb gw gs L M f (ws.set i (b, n)) (ss.set p (i : Int)) w' ∧ Fr (fun k => k = gw ∨ k = gs) w w' := by
  obtain ⟨P, hP⟩ : ∃ P : Ending → World → Prop, P = fun e w' => (∃ r, e = .returned r) ∧ CdM cb gw gs L M f (ws.set i (b, n)) (ss.set p (i : Int)) w' ∧ Fr (fun k => k = gw ∨ k = gs) w w' := ⟨_, rfl⟩
  rw [← hP]
  have hN : Nw w (w.alloc (.cells #[.int .u32 b, .int .i64 n] 196)) := (Fr.refl _ _).alloc _
  have h1 := h.nw hN
  have hp1 := hN.heap hp
  have hpl : pb < w.heap.size := (Array.getElem?_eq_some_iff.1 hp).1
  obtain ⟨l1, l2, l3⟩ := h.lt
  have bx := new_heap w (.cells #[.int .u32 b, .int .i64 n] 196)
  have x0 := (row_cell bx 0 _ rfl).1
  have x1 := (row_cell bx 1 _ rfl).1
  obtain ⟨y0, y1⟩ := h1.heads
  have z0 := (row_cell hp1 0 _ rfl).1
  obtain ⟨xw, hxw⟩ : ∃ x, ws[i]? = some x := ⟨_, List.getElem?_eq_getElem (by rw [h.wl]; exact hi)⟩
  obtain ⟨q0, q1, q2, q3⟩ := h1.word i xw hxw
  obtain ⟨xs, hxs⟩ : ∃ x, ss[p]? = some x := ⟨_, List.getElem?_eq_getElem (by rw [h.sl]; exact hpm)⟩
  have hll := h.ll
  have hml := h.ml
  have hz1 : (i : Int) < (L : Int) := by omega
  have hz2 : (p : Int) < (M : Int) := by omega
  have HK := h1.put i hi b n
  have HN : Hid (Nw w (w.alloc (.cells #[.int .u32 b, .int .i64 n] 196))) := hN
  have HP1 : Hid ((w.alloc (.cells #[.int .u32 b, .int .i64 n] 196)).heap[pb]? = some (.cells #[.pointer (some ⟨cb, 0, none⟩)] 89)) := hp1
  have HPP : Hid (P = fun e w' => (∃ r, e = .returned r) ∧ CdM cb gw gs L M f (ws.set i (b, n)) (ss.set p (i : Int)) w' ∧ Fr (fun k => k = gw ∨ k = gs) w w') := hP
  have HK1 : Hid _ := HK
  clear HK hN h1 hp1 hP bx hp h
  go_enter Tryz.func159, Tryz.ntmps159
  go_upto_region 1 with fail
  generalize w.alloc (.cells #[.int .u32 b, .int .i64 n] 196) = W1 at *
  obtain ⟨sb, hsb⟩ : ∃ sb, sb = w.heap.size := ⟨_, rfl⟩
  rw [← hsb] at x0 x1
  rw [← hsb]
  clear hsb
  go_region
  obtain ⟨k1, f1⟩ := HK1.out
  have k1d := k1.nw ((Fr.refl _ _).drew)
  have f1d : Fr (fun k => k = gw) W1 ((W1.setCell ⟨gw, i * 2, none⟩ (.int .u32 b)).setCell ⟨gw, i * 2 + 1, none⟩ (.int .i64 n)).drew := f1.drew
  have z1 := (row_cell (row_kept HP1.out f1d hpw) 0 _ rfl).1
  obtain ⟨y2, y3⟩ := k1d.heads
  obtain ⟨t0, t1⟩ := k1d.sym p xs hxs
  obtain ⟨k2, f2⟩ := k1d.sort p (i : Int)
  have HF : Hid (∀ r, P (.returned r) (((W1.setCell ⟨gw, i * 2, none⟩ (.int .u32 b)).setCell ⟨gw, i * 2 + 1, none⟩ (.int .i64 n)).drew.setCell ⟨gs, p, none⟩ (.int .i64 i))) := fun r => by
    rw [HPP.out]
    exact ⟨⟨_, rfl⟩, k2, (HN.out.any.trans (f1d.mono (fun _ h => .inl (.inl h)))).trans (f2.mono (fun _ h => .inl (.inr h)))⟩
  clear k1 f1 k1d f1d k2 f2 HK1 HP1 HN HPP x0 x1 y0 y1 z0 q0 q1 q2 q3
  generalize ((W1.setCell ⟨gw, i * 2, none⟩ (.int .u32 b)).setCell ⟨gw, i * 2 + 1, none⟩ (.int .i64 n)).drew = W2 at *
  go_wp2_with fail
  go_end0
  exact HF.out _
end Go.Proofs.YtpjnbhflnbhnoaaGreatDoor

namespace Go.Proofs.YtpjnbhflnbhnoaaGreatDoor
open Go.RowKit
set_option linter.unusedVariables false
/-- The word of a symbol. -/
def wdP (ls : List Nat) (i : Nat) : Nat × Nat := if ls.getD i 0 = 0 then (0, 0) else (rev (ls.getD i 0) (cd ls i), ls.getD i 0)
/-- The rows while the words are told. -/
def fe (ls : List Nat) (I n j : Nat) : Nat := if j = 0 then ct ls n else (if j = 1 then nm ls n else pc ls n) + ct (ls.take I) n
theorem ct_take (ls : List Nat) (I n : Nat) (hI : I < ls.length) : ct (ls.take (I + 1)) n = ct (ls.take I) n + (if ls.getD I 0 = n ∧ n ≠ 0 then 1 else 0) := by
  unfold ct
  by_cases h : n = 0
  · simp [h]
  · rw [if_neg h, if_neg h, count_take_succ ls I n hI]
    congr 1
    by_cases e : ls.getD I 0 = n
    · rw [if_pos e, if_pos ⟨e, h⟩]
    · rw [if_neg e, if_neg (fun k => e k.1)]
theorem fe_rk (ls : List Nat) (I m : Nat) (hm : ls.getD I 0 = m) (h0 : m ≠ 0) : fe ls I m 2 = ps ls I ∧ fe ls I m 1 = cd ls I := by
  unfold fe ps cd rk
  rw [ct_pos (ls.take I) m h0, hm]
  exact ⟨rfl, rfl⟩
theorem fe_step (ls : List Nat) (I m : Nat) (hI : I < ls.length) (hm : ls.getD I 0 = m) (n j : Nat) (hj : j < 3) : (m = 0 → fe ls I n j = fe ls (I + 1) n j) ∧ (m ≠ 0 → upd (upd (fe ls I) m 2 (ps ls I + 1)) m 1 (cd ls I + 1) n j = fe ls (I + 1) n j) := by
  have hc := ct_take ls I n hI
  rw [hm] at hc
  constructor
  · intro h0
    rw [if_neg (fun k => k.2 (k.1.symm.trans h0))] at hc
    unfold fe
    rw [hc]
    rfl
  · intro h0
    obtain ⟨r1, r2⟩ := fe_rk ls I m hm h0
    by_cases hn : n = m
    · subst hn
      have hc' : ct (ls.take (I + 1)) n = ct (ls.take I) n + 1 := by rw [hc, if_pos ⟨rfl, h0⟩]
      rcases (show j = 0 ∨ j = 1 ∨ j = 2 by omega) with rfl | rfl | rfl
      · simp [upd, fe]
      · simp only [upd, true_and, if_true]
        rw [← r2]
        unfold fe
        simp only [hc']
        simp
        omega
      · simp only [upd, true_and, if_true]
        rw [if_neg (by decide), ← r1]
        unfold fe
        simp only [hc']
        simp
        omega
    · have hc' : ct (ls.take (I + 1)) n = ct (ls.take I) n := by rw [hc, if_neg (fun h => hn h.1.symm), Nat.add_zero]
      unfold upd
      rw [if_neg (fun h => hn h.1), if_neg (fun h => hn h.1)]
      unfold fe
      rw [hc']
structure EwI (w : World) (cb gw gs pb eb L M : Nat) (f0 : Nat → Nat → Nat) (ls : List Nat) (I J : Nat) (ws : List (Nat × Nat)) (ss : List Int) (wr : World) : Prop where
  c : CdM cb gw gs L M f0 ws ss wr
  W : ∀ i, i < L → ws[i]? = some (if i < I then wdP ls i else (0, 0))
  S : ∀ i, i < I → i < L → ls.getD i 0 ≠ 0 → ss[ps ls i]? = some (i : Int)
  p : wr.heap[pb]? = some (.cells #[.pointer (some ⟨cb, 0, none⟩)] 89)
  e : wr.heap[eb]? = some (.cells (rowC (fe ls J)) 209)
  n1 : pb ≠ gw
  n2 : pb ≠ gs
  n3 : eb ≠ gw
  n4 : eb ≠ gs
  n5 : eb ≠ cb
  n6 : eb ≠ pb
  lw : w.heap.size ≤ eb
  fr : Fr (fun k => k = gw ∨ k = gs) w wr
variable {w : World} {cb gw gs pb eb L M : Nat} {f0 : Nat → Nat → Nat} {ls : List Nat} {I J : Nat} {ws : List (Nat × Nat)} {ss : List Int} {wr : World}
theorem EwI.keep {V : World} (h : EwI w cb gw gs pb eb L M f0 ls I J ws ss wr) (k : Nw wr V) : EwI w cb gw gs pb eb L M f0 ls I J ws ss V :=
  ⟨h.c.nw k, h.W, h.S, k.heap h.p, k.heap h.e, h.n1, h.n2, h.n3, h.n4, h.n5, h.n6, h.lw, h.fr.trans k.any⟩
theorem EwI.cell (h : EwI w cb gw gs pb eb L M f0 ls I J ws ss wr) (n j : Nat) (hn : n < 16) (hj : j < 3) : wr.cell? ⟨eb, n * 3 + j, none⟩ = some (.int .i64 ((fe ls J n j : Nat) : Int)) ∧ wr.frozen? ⟨eb, n * 3 + j, none⟩ = false := row_cell h.e _ _ (rowC_at _ n j hn hj)
/-- A symbol without a word. -/
theorem EwI.skip (h : EwI w cb gw gs pb eb L M f0 ls I I ws ss wr) (hI : I < ls.length) (hL : ls.length = L) (h0 : ls.getD I 0 = 0) : EwI w cb gw gs pb eb L M f0 ls (I + 1) (I + 1) ws ss wr := by
  refine ⟨h.c, fun i hi => ?_, fun i hi hl hn => ?_, h.p, ?_, h.n1, h.n2, h.n3, h.n4, h.n5, h.n6, h.lw, h.fr⟩
  · rw [h.W i hi]
    by_cases e : i = I
    · subst e
      rw [if_neg (by omega), if_pos (by omega), wdP, if_pos h0]
    · by_cases e2 : i < I
      · rw [if_pos e2, if_pos (by omega)]
      · rw [if_neg e2, if_neg (by omega)]
  · have : i ≠ I := fun e => hn (by rw [e]; exact h0)
    exact h.S i (by omega) hl hn
  · rw [h.e]
    congr 2
    exact rowC_congr _ _ (fun n j _ hj => (fe_step ls I 0 hI h0 n j hj).1 rfl)
/-- A word is told. -/
theorem EwI.tell (h : EwI w cb gw gs pb eb L M f0 ls I I ws ss wr) (hk : Cod ls) (hI : I < ls.length) (hL : ls.length = L) (hM : nwd ls = M) (m : Nat) (hm : ls.getD I 0 = m) (h0 : m ≠ 0) (x : Nat) (hx : x = rev m (cd ls I)) :
    Hid (Calls Tryz.prog 159 #[.int .i64 I, .int .i64 (ps ls I), .agg #[.int .u32 x, .int .i64 m], .pointer (some ⟨pb, 0, none⟩)] wr.drew fun e w1 => (∃ r, e = .returned r) ∧ w1.cell? ⟨eb, m * 3 + 2, none⟩ = some (.int .i64 (ps ls I)) ∧ w1.cell? ⟨eb, m * 3 + 1, none⟩ = some (.int .i64 (cd ls I)) ∧ Hid (∃ ws' ss', EwI w cb gw gs pb eb L M f0 ls (I + 1) I ws' ss' w1)) := by
  have h' := h.keep ((Fr.refl _ wr).drew)
  have hp := hk.ps_lt I hI (by rw [hm]; exact h0)
  refine (tell_any h'.c pb h'.p h'.n1 h'.n2 I (ps ls I) x m (by omega) (by omega)).mono ?_
  rintro e w1 ⟨he, hc, hf⟩
  have h15 := hk.each I
  rw [hm] at h15
  have hE : EwI w cb gw gs pb eb L M f0 ls (I + 1) I (ws.set I (x, m)) (ss.set (ps ls I) (I : Int)) w1 := by
    refine ⟨hc, fun i hi => ?_, fun i hi hl hn => ?_, row_kept h'.p hf (fun e => ?_), row_kept h'.e hf (fun e => ?_), h.n1, h.n2, h.n3, h.n4, h.n5, h.n6, h.lw, h'.fr.trans hf⟩
    · rw [List.getElem?_set]
      by_cases e : I = i
      · subst e
        rw [if_pos rfl, if_pos (by rw [h.c.wl]; exact hi), if_pos (by omega), wdP, if_neg (by rw [hm]; exact h0), hm, hx]
      · rw [if_neg e, h.W i hi]
        by_cases e2 : i < I
        · rw [if_pos e2, if_pos (by omega)]
        · rw [if_neg e2, if_neg (by omega)]
    · rw [List.getElem?_set]
      by_cases e : i = I
      · subst e
        rw [if_pos rfl, if_pos (by rw [h.c.sl]; omega)]
      · rw [if_neg (fun e2 => e (hk.ps_inj i I (by omega) hI hn (by rw [hm]; exact h0) e2.symm))]
        exact h.S i (by omega) hl hn
    · rcases e with e | e
      · exact h.n1 e
      · exact h.n2 e
    · rcases e with e | e
      · exact h.n3 e
      · exact h.n4 e
  obtain ⟨r1, r2⟩ := fe_rk ls I m hm h0
  have c2 := (hE.cell m 2 (by omega) (by omega)).1
  have c1 := (hE.cell m 1 (by omega) (by omega)).1
  rw [r1] at c2
  rw [r2] at c1
  exact ⟨he, c2, c1, _, _, hE⟩
/-- Its row goes on. -/
theorem EwI.next (h : EwI w cb gw gs pb eb L M f0 ls (I + 1) I ws ss wr) (hk : Cod ls) (hI : I < ls.length) (m : Nat) (hm : ls.getD I 0 = m) (h0 : m ≠ 0) :
    wr.frozen? ⟨eb, m * 3 + 2, none⟩ = false ∧ (wr.setCell ⟨eb, m * 3 + 2, none⟩ (.int .i64 ((ps ls I : Int) + 1))).cell? ⟨eb, m * 3 + 1, none⟩ = some (.int .i64 (cd ls I)) ∧ (wr.setCell ⟨eb, m * 3 + 2, none⟩ (.int .i64 ((ps ls I : Int) + 1))).frozen? ⟨eb, m * 3 + 1, none⟩ = false ∧ EwI w cb gw gs pb eb L M f0 ls (I + 1) (I + 1) ws ss ((wr.setCell ⟨eb, m * 3 + 2, none⟩ (.int .i64 ((ps ls I : Int) + 1))).setCell ⟨eb, m * 3 + 1, none⟩ (.int .i64 ((cd ls I : Int) + 1))) := by
  have h15 := hk.each I
  rw [hm] at h15
  obtain ⟨r1, r2⟩ := fe_rk ls I m hm h0
  have e1 := row_set h.e (m * 3 + 2) (.int .i64 ((ps ls I : Int) + 1))
  rw [rowC_set _ m 2 (ps ls I + 1) (by omega) (by omega) _ (by omega)] at e1
  have c1 := row_cell e1 _ _ (rowC_at _ m 1 (by omega) (by omega))
  rw [show upd (fe ls I) m 2 (ps ls I + 1) m 1 = cd ls I by rw [upd, if_neg (by omega), r2]] at c1
  have e2 := row_set e1 (m * 3 + 1) (.int .i64 ((cd ls I : Int) + 1))
  rw [rowC_set _ m 1 (cd ls I + 1) (by omega) (by omega) _ (by omega), rowC_congr _ (fe ls (I + 1)) (fun n j _ hj => (fe_step ls I m hI hm n j hj).2 h0)] at e2
  have hf : Fr (fun k => k = eb) wr ((wr.setCell ⟨eb, m * 3 + 2, none⟩ (.int .i64 ((ps ls I : Int) + 1))).setCell ⟨eb, m * 3 + 1, none⟩ (.int .i64 ((cd ls I : Int) + 1))) := Fr.setCell (Fr.setCell (Fr.refl (fun k => k = eb) wr) ⟨eb, m * 3 + 2, none⟩ _ (.inl rfl)) ⟨eb, m * 3 + 1, none⟩ _ (.inl rfl)
  refine ⟨(h.cell m 2 (by omega) (by omega)).2, c1.1, c1.2, h.c.kept hf (fun e => h.n5 e.symm) (fun e => h.n3 e.symm) (fun e => h.n4 e.symm), h.W, h.S, row_kept h.p hf (fun e => h.n6 e.symm), e2, h.n1, h.n2, h.n3, h.n4, h.n5, h.n6, h.lw, Fr.then h.fr hf (fun i hi => .inr (by have := h.lw; omega))⟩
end Go.Proofs.YtpjnbhflnbhnoaaGreatDoor

namespace Go.Proofs.YtpjnbhflnbhnoaaGreatDoor
open Go.RowKit
set_option linter.unusedVariables false
/-- A code that is made. -/
structure CodeI (cb gw gs : Nat) (ls : List Nat) (ws : List (Nat × Nat)) (ss : List Int) (w : World) : Prop where
  c : CdM cb gw gs ls.length (nwd ls) (fr ls) ws ss w
  W : ∀ i, i < ls.length → ws[i]? = some (wdP ls i)
  S : ∀ i, i < ls.length → ls.getD i 0 ≠ 0 → ss[ps ls i]? = some (i : Int)
theorem CodeI.kept {cb gw gs : Nat} {ls : List Nat} {ws : List (Nat × Nat)} {ss : List Int} {w w' : World} {X : Nat → Prop} (h : CodeI cb gw gs ls ws ss w) (k : Fr X w w') (h1 : ¬ X cb) (h2 : ¬ X gw) (h3 : ¬ X gs) : CodeI cb gw gs ls ws ss w' := ⟨h.c.kept k h1 h2 h3, h.W, h.S⟩
theorem CodeI.nw {cb gw gs : Nat} {ls : List Nat} {ws : List (Nat × Nat)} {ss : List Int} {w w' : World} (h : CodeI cb gw gs ls ws ss w) (k : Nw w w') : CodeI cb gw gs ls ws ss w' := ⟨h.c.nw k, h.W, h.S⟩
set_option maxHeartbeats 16000000 in
set_option maxRecDepth 100000 in
theorem eachWord_any (w : World) (v : Value) (ls : List Nat) (hk : Cod ls) (cb gw gs pb : Nat) (ws : List (Nat × Nat)) (ss : List Int) (h : SlR RI (fun k => k = gw ∨ k = gs ∨ w.heap.size ≤ k) v (toI ls) w)
    (hc : CdM cb gw gs ls.length (nwd ls) (fr ls) ws ss w) (hW : ∀ i, i < ls.length → ws[i]? = some (0, 0)) (hp : w.heap[pb]? = some (.cells #[.pointer (some ⟨cb, 0, none⟩)] 89)) (n1 : pb ≠ gw) (n2 : pb ≠ gs) :
    Calls Tryz.prog 158 #[v, .agg (rowC (fr ls)), .func (.func 159) #[] #[.pointer (some ⟨pb, 0, none⟩)]] w fun e w' => (∃ r, e = .returned r) ∧ (∃ ws' ss', CodeI cb gw gs ls ws' ss' w') ∧ w'.heap[pb]? = some (.cells #[.pointer (some ⟨cb, 0, none⟩)] 89) ∧ Fr (fun k => k = gw ∨ k = gs) w w' := by
  obtain ⟨P, hP⟩ : ∃ P : Ending → World → Prop, P = fun e w' => (∃ r, e = .returned r) ∧ (∃ ws' ss', CodeI cb gw gs ls ws' ss' w') ∧ w'.heap[pb]? = some (.cells #[.pointer (some ⟨cb, 0, none⟩)] 89) ∧ Fr (fun k => k = gw ∨ k = gs) w w' := ⟨_, rfl⟩
  rw [← hP]
  have HS : Hid (SlR RI (fun k => k = gw ∨ k = gs ∨ w.heap.size ≤ k) v (toI ls) w) := h
  obtain ⟨a, c, rfl, hca, hc2, hcc⟩ := h.form
  rw [toI_length] at hca ⊢
  have hN : Nw w (w.alloc (.cells (rowC (fr ls)) 209)) := (Fr.refl _ _).alloc _
  obtain ⟨l1, l2, l3⟩ := hc.lt
  have hpl : pb < w.heap.size := (Array.getElem?_eq_some_iff.1 hp).1
  have HI0 : Hid (∃ ws ss, EwI w cb gw gs pb w.heap.size ls.length (nwd ls) (fr ls) ls 0 0 ws ss (w.alloc (.cells (rowC (fr ls)) 209))) := by
    refine ⟨ws, ss, hc.nw hN, fun i hi => by rw [if_neg (by omega)]; exact hW i hi, fun i hi => by omega, hN.heap hp, ?_, n1, n2, by omega, by omega, by omega, by omega, Nat.le_refl _, hN.any⟩
    rw [new_heap]
    congr 2
  have HK : Hid (Cod ls) := hk
  have HF : Hid (∀ r W ws ss, EwI w cb gw gs pb w.heap.size ls.length (nwd ls) (fr ls) ls ls.length ls.length ws ss W → P (.returned r) W) := fun r W ws' ss' hE => by
    rw [hP]
    exact ⟨⟨_, rfl⟩, ⟨ws', ss', hE.c, fun i hi => by rw [hE.W i hi, if_pos hi], fun i hi hn => hE.S i hi hi hn⟩, hE.p, hE.fr⟩
  have HB : Hid (∀ V, Fr (fun k => k = gw ∨ k = gs) w V → ∀ I, I < ls.length → ∃ g o, a = some ⟨g, o, none⟩ ∧ V.cell? ⟨g, o + I, none⟩ = some (.int .i64 (ls.getD I 0 : Nat))) := fun V hV I hI => by
    obtain ⟨g, o, e, hg, hcell⟩ := ri_at HS.out I _ (toI_at ls I hI)
    exact ⟨g, o, e, hV.cellv hcell (fun hx => hg (by rcases hx with e | e; exact .inl e; exact .inr (.inl e)))⟩
  have hlen := hk.len
  clear hP h hc hW hp hN HS l1 l2 l3 hpl hk
  generalize hL : ls.length = L at *
  have hL' : Hid (ls.length = L) := hL
  clear hL
  generalize hMM : nwd ls = M at *
  have hM' : Hid (nwd ls = M) := hMM
  clear hMM
  generalize hA : rowC (fr ls) = A at *
  clear hA
  go_enter Tryz.func158, Tryz.ntmps158
  go_upto_region 1 with fail
  generalize w.alloc (.cells A 209) = w1 at *
  obtain ⟨eb, heb⟩ : ∃ e, e = w.heap.size := ⟨_, rfl⟩
  rw [← heb] at HI0 HF
  rw [← heb]
  clear heb
  go_wp2_with fail
  go_loopg [10] L (fun kx i wr => ∃ (I : Nat), I ≤ L ∧ L - I ≤ kx ∧ i = .int .i64 I ∧ Hid (∃ ws ss, EwI w cb gw gs pb eb L M (fr ls) ls I I ws ss wr))
  case atStart => exact ⟨0, by omega, by omega, rfl, HI0⟩
  case round =>
    obtain ⟨I, hI, hkx, rfl, HI⟩ := hrel
    clear HI0
    obtain ⟨ws1, ss1, hE⟩ := HI.out
    by_cases hlt : I < L
    · have hIl : I < ls.length := by rw [hL'.out]; exact hlt
      obtain ⟨g, o, rfl, hcell⟩ := HB.out wr hE.fr I (by omega)
      have hz : (I : Int) < (L : Int) := by omega
      obtain ⟨m, hm⟩ : ∃ m, ls.getD I 0 = m := ⟨_, rfl⟩
      have h15 : m ≤ 15 := by rw [← hm]; exact HK.out.each I
      rw [hm] at hcell
      clear HB HF
      by_cases hm0 : m = 0
      · subst hm0
        have HN : Hid (∃ ws ss, EwI w cb gw gs pb eb L M (fr ls) ls (I + 1) (I + 1) ws ss wr) := ⟨_, _, hE.skip hIl hL'.out hm⟩
        clear HI hE hm
        go_wp2_with fail
        go_roundg (L - (I + 1))
        case measure => omega
        case rel => exact ⟨I + 1, by omega, by omega, by first | rfl | (congr 1), HN⟩
      · obtain ⟨x, hx⟩ : ∃ x, x = rev m (cd ls I) := ⟨_, rfl⟩
        have HTL := hE.tell HK.out hIl hL'.out hM'.out m hm hm0 x hx
        obtain ⟨r1, r2⟩ := fe_rk ls I m hm hm0
        have c2 := (hE.cell m 2 (by omega) (by omega)).1
        have c1 := (hE.cell m 1 (by omega) (by omega)).1
        rw [r1] at c2
        rw [r2] at c1
        have hcd := (HK.out.cd_lt I hIl (by rw [hm]; exact hm0)).2
        rw [hm] at hcd
        have hcd2 : cd ls I < 32768 := Nat.lt_of_lt_of_le hcd (Nat.pow_le_pow_right (n := 2) (by decide) h15)
        have HTU : Hid (Calls Tryz.prog 181 #[.int .u32 (cd ls I), .int .i64 m] wr.drew fun e w' => e = .returned (.int .u32 x) ∧ w'.cell? ⟨eb, m * 3 + 2, none⟩ = some (.int .i64 (ps ls I)) ∧ w'.cell? ⟨eb, m * 3 + 1, none⟩ = some (.int .i64 (cd ls I)) ∧ w' = wr.drew) := by
          refine (turned_any (cd ls I) m (by omega) (by omega) wr.drew).mono ?_
          rintro e w' ⟨rfl, rfl⟩
          exact ⟨by rw [hx], c2, c1, rfl⟩
        have HNX : Hid (∀ w1 ws ss, EwI w cb gw gs pb eb L M (fr ls) ls (I + 1) I ws ss w1 → w1.frozen? ⟨eb, m * 3 + 2, none⟩ = false ∧ (w1.setCell ⟨eb, m * 3 + 2, none⟩ (.int .i64 ((ps ls I : Int) + 1))).cell? ⟨eb, m * 3 + 1, none⟩ = some (.int .i64 (cd ls I)) ∧ (w1.setCell ⟨eb, m * 3 + 2, none⟩ (.int .i64 ((ps ls I : Int) + 1))).frozen? ⟨eb, m * 3 + 1, none⟩ = false ∧ EwI w cb gw gs pb eb L M (fr ls) ls (I + 1) (I + 1) ws ss ((w1.setCell ⟨eb, m * 3 + 2, none⟩ (.int .i64 ((ps ls I : Int) + 1))).setCell ⟨eb, m * 3 + 1, none⟩ (.int .i64 ((cd ls I : Int) + 1)))) := fun w1 ws ss h => h.next HK.out hIl m hm hm0
        have hpsb : ps ls I ≤ 1000000 := by
          have h1 := HK.out.ps_lt I hIl (by rw [hm]; exact hm0)
          have h2 := hE.c.ml
          rw [hM'.out] at h1
          omega
        have c2d : wr.drew.cell? ⟨eb, m * 3 + 2, none⟩ = some (.int .i64 (ps ls I)) := c2
        have c1d : wr.drew.cell? ⟨eb, m * 3 + 1, none⟩ = some (.int .i64 (cd ls I)) := c1
        have hcw : IntKind.u32.wrap ((cd ls I : Nat) : Int) = (cd ls I : Int) := by rw [IntKind.wrap_u32]; omega
        have hz3 : (m : Int) < 16 := by omega
        have hz4 : (0 : Int) ≤ (m : Int) := by omega
        have hmz : ((m : Int) == 0) = false := by simp; omega
        clear HI hE hm hcd hx r1 r2 HK
        generalize ps ls I = PL at *
        generalize cd ls I = C at *
        go_upto_region 5 with fail
        go_region_held3 (fun w' => w'.cell? ⟨eb, m * 3 + 2, none⟩ = some (.int .i64 PL) ∧ w'.cell? ⟨eb, m * 3 + 1, none⟩ = some (.int .i64 C))
          (first | assumption | (refine ⟨?_, ?_⟩ <;> assumption))
          (first | (go_at_call 181; (with_reducible refine HTU.out.mono ?_); rintro e w5 ⟨rfl, t0, t1, rfl⟩) | (go_at_call 159; (with_reducible refine HTL.out.mono ?_); rintro e w6 ⟨⟨r6, rfl⟩, t2, t3, H6⟩))
        obtain ⟨ws2, ss2, hE2⟩ := H6.out
        obtain ⟨b0, b1, b2, hE3⟩ := HNX.out _ _ _ hE2
        have HN : Hid (∃ ws ss, EwI w cb gw gs pb eb L M (fr ls) ls (I + 1) (I + 1) ws ss ((w6.setCell ⟨eb, m * 3 + 2, none⟩ (.int .i64 ((PL : Int) + 1))).setCell ⟨eb, m * 3 + 1, none⟩ (.int .i64 ((C : Int) + 1)))) := ⟨_, _, hE3⟩
        clear HTL HTU HNX H6 hE2 hE3 c2 c1 c2d c1d t0 t1
        go_upto_region 7 with fail
        generalize w6.setCell ⟨eb, m * 3 + 2, none⟩ (.int .i64 ((PL : Int) + 1)) = W7 at *
        go_wp2_with fail
        go_roundg (L - (I + 1))
        case measure => omega
        case rel => exact ⟨I + 1, by omega, by omega, by first | rfl | (congr 1), HN⟩
    · obtain rfl : I = L := by omega
      have HF2 : Hid (∀ r, P (.returned r) wr) := fun r => HF.out r _ _ _ hE
      have hz : ¬ (I : Int) < (I : Int) := by omega
      clear HI hE HF HB
      go_wp2_with fail
      go_end0
      exact HF2.out _
end Go.Proofs.YtpjnbhflnbhnoaaGreatDoor

namespace Go.Proofs.YtpjnbhflnbhnoaaGreatDoor
open Go.RowKit
set_option linter.unusedVariables false
theorem build_code (f : Nat → Nat → Nat) (g1 g2 L M : Nat) (w : World) : (Instr.build 213 #[(0, .slice (some ⟨g1, 0, none⟩) L L), (1, .slice (some ⟨g2, 0, none⟩) M M), (2, .agg (rowC f))]).run Tryz.prog w = .ok (.agg (codeC (.slice (some ⟨g1, 0, none⟩) L L) (.slice (some ⟨g2, 0, none⟩) M M) f)) w := by
  kernel_rfl
theorem size94 : (Tryz.prog.info? 213).map (·.size) = some 50 := by kernel_rfl
theorem toI_of (zs : List Int) (h : ∀ z ∈ zs, 0 ≤ z ∧ z ≤ 15) : ∃ ls : List Nat, zs = toI ls ∧ (∀ i, ls.getD i 0 ≤ 15) ∧ ∀ x ∈ ls, x ≤ 15 := by
  refine ⟨zs.map Int.toNat, ?_, ?_, ?_⟩
  · rw [toI, List.map_map]
    conv => lhs; rw [← List.map_id zs]
    apply List.map_congr_left
    intro z hz
    have := h z hz
    simp only [id, Function.comp]
    omega
  · intro i
    rw [List.getD_eq_getElem?_getD, List.getElem?_map]
    cases he : zs[i]? with
    | none => simp
    | some z =>
      have := h z (List.mem_of_getElem? he)
      simp
      omega
  · intro x hx
    obtain ⟨z, hz, rfl⟩ := List.mem_map.1 hx
    have := h z hz
    omega
theorem toI_inj (a b : List Nat) (h : toI a = toI b) : a = b := by
  apply List.ext_getElem?
  intro i
  have : (toI a)[i]? = (toI b)[i]? := by rw [h]
  simp only [toI, List.getElem?_map] at this
  cases ha : a[i]? with
  | none =>
    cases hb : b[i]? with
    | none => rfl
    | some y => rw [ha, hb] at this; simp at this
  | some x =>
    cases hb : b[i]? with
    | none => rw [ha, hb] at this; simp at this
    | some y => rw [ha, hb] at this; simp at this; rw [show x = y by omega]
theorem load_row_g {ops : Array Oper} {rest : List Oper} {o : Oper} {a : Act} {w : World} {Q : Exit → Act → World → Prop} (hw : Region.wanted o (yielded ops a.tmps) = true) (x : Operand) (ho : o.op = .load 209 x)
    (g : Nat) (hx : a.eval x = .pointer (some ⟨g, 0, none⟩)) (cs : Array Value) (hg : w.heap[g]? = some (.cells cs 209)) (hi : cs.size = 48)
    (h : wpList Tryz.prog ops Q rest (a.put o.dst (.agg cs)) w) : wpList Tryz.prog ops Q (o :: rest) a w := by
  unfold wpList
  rw [if_pos hw]
  exact .inl (wp_load_row 209 x ho g hx 209 cs (0, 0) _ hg Tryz.underlying209 rfl (by rw [size90, hi]) h)
/-- The lengths are a code. -/
def IsCode (zs : List Int) : Prop := ∃ ls, zs = toI ls ∧ Cod ls
set_option maxHeartbeats 8000000 in
set_option maxRecDepth 100000 in
theorem newCode_no (w : World) (v : Value) (zs : List Int) (h : SlR RI (fun k => w.heap.size ≤ k) v zs w) (hl : zs.length ≤ 17592186043904) (hn : ¬ IsCode zs) : Calls Tryz.prog 118 #[v] w fun e w' => e = .returned (.tuple #[.pointer none, .int .i64 51]) ∧ Nw w w' := by
  obtain ⟨P, hP⟩ : ∃ P : Ending → World → Prop, P = fun e w' => e = .returned (.tuple #[.pointer none, .int .i64 51]) ∧ Nw w w' := ⟨_, rfl⟩
  rw [← hP]
  have HF : Hid (∀ W, Nw w W → P (.returned (.tuple #[.pointer none, .int .i64 51])) W) := fun W hW => by rw [hP]; exact ⟨rfl, hW⟩
  have hcb := canBe_any w v zs (h.mono (fun _ h => h.elim)) hl
  by_cases hk : okL zs
  · obtain ⟨ls, rfl, h15, hm15⟩ := toI_of zs hk.1
    have hlen : ls.length ≤ 320 := by have := hk.2; rw [toI_length] at this; exact this
    have hroom : room ls = 0 ∨ 32768 < room ls := by
      rcases Nat.eq_zero_or_pos (room ls) with e | e
      · exact .inl e
      · rcases Nat.lt_or_ge 32768 (room ls) with e2 | e2
        · exact .inr e2
        · exact absurd ⟨ls, rfl, h15, hlen, e, e2⟩ hn
    have hnb := nm_bound ls hlen 15
    have hct : ct ls 15 ≤ 320 := by rw [ct_pos _ _ (by decide)]; exact Nat.le_trans (List.count_le_length) hlen
    have hrb : room ls ≤ 100000000 := by
      unfold room
      have : (2 : Nat) ^ 15 = 32768 := by decide
      omega
    have HC1 : Hid (Calls Tryz.prog 154 #[v] w fun e w' => e = .returned (.bool true) ∧ w' = w) := hcb.mono (fun e w' ⟨⟨b, he, hb⟩, hw⟩ => ⟨by rw [he, hb.2 hk], hw⟩)
    have HC2 : Hid (Calls Tryz.prog 155 #[v] w fun e w' => e = .returned (.agg (rowC (fr ls))) ∧ Hid (Nw w w')) := rowsOf_any w v ls h hlen h15
    have HC3 : Hid (∀ V, Calls Tryz.prog 156 #[.agg (rowC (fr ls))] V fun e w' => e = .returned (.int .i64 (room ls)) ∧ Hid (Nw V w')) := fun V => room_any V (fr ls) (by show room ls ≤ _; omega)
    have hsz := rowC_size (fr ls)
    have hone := rowC_one (fr ls)
    obtain ⟨a, c, rfl, hca, hc2, hcc⟩ := h.form
    clear hP hcb hn h hnb hct
    generalize rowC (fr ls) = A at *
    generalize room ls = R at *
    go_enter Tryz.func118, Tryz.ntmps118
    go_upto_region 4 with (first | (go_at_call 154; (with_reducible refine HC1.out.mono ?_); rintro e w1 ⟨rfl, rfl⟩) | (go_at_call 155; (with_reducible refine HC2.out.mono ?_); rintro e w2 ⟨rfl, H2⟩) | (refine wpList_store_row rfl 209 _ _ rfl w2.heap.size A (by first | rfl | simp [Act.eval]) (by first | rfl | simp [Act.eval]) 209 _ (new_heap w2 _) (by rw [size90, hsz]) (by rw [hsz]; rfl) hone ?_))
    rw [← rowC_zero]
    have hr : ((w2.alloc (.cells (rowC fun _ _ => 0) 209)).setRow w2.heap.size A).heap[w2.heap.size]? = some (.cells A 209) := setRow_heap _ _ _ _ 209 _ (new_heap w2 _)
    have HN3 : Hid (Nw _ ((w2.alloc (.cells (rowC fun _ _ => 0) 209)).setRow w2.heap.size A)) := (H2.out.trans ((Fr.refl _ _).alloc _)).setRow _ _ (.inr H2.out.size)
    generalize (w2.alloc (.cells (rowC fun _ _ => 0) 209)).setRow w2.heap.size A = W3 at *
    obtain ⟨rr, hrr⟩ : ∃ r, r = w2.heap.size := ⟨_, rfl⟩
    rw [← hrr] at hr
    rw [← hrr]
    clear hrr HC1 HC2 H2
    rcases hroom with hR0 | hR1
    · subst hR0
      go_wp2_with (first | (refine wpList_load_row rfl 209 _ rfl rr (by first | rfl | simp [Act.eval]) 209 A (0, 0) _ hr Tryz.underlying209 rfl (by rw [size90, hsz]) ?_) | (go_at_call 156; (with_reducible refine (HC3.out _).mono ?_); rintro e w4 ⟨rfl, H4⟩))
      exact HF.out _ (HN3.out.trans H4.out)
    · have hz1 : ((R : Int) == 0) = false := by simp; omega
      have hz2 : (32768 : Int) < (R : Int) := by omega
      go_wp2_with (first | (refine wpList_load_row rfl 209 _ rfl rr (by first | rfl | simp [Act.eval]) 209 A (0, 0) _ hr Tryz.underlying209 rfl (by rw [size90, hsz]) ?_) | (go_at_call 156; (with_reducible refine (HC3.out W3).mono ?_); rintro e w4 ⟨rfl, H4⟩; have hr4 := H4.out.heap hr) | (refine load_row_g (by first | rfl | simp) _ rfl rr (by first | rfl | simp [Act.eval]) A hr4 hsz ?_) | (go_at_call 156; (with_reducible refine (HC3.out _).mono ?_); rintro e w5 ⟨rfl, H5⟩))
      exact HF.out _ ((HN3.out.trans H4.out).trans H5.out)
  · have HC1 : Hid (Calls Tryz.prog 154 #[v] w fun e w' => e = .returned (.bool false) ∧ w' = w) := hcb.mono (fun e w' ⟨⟨b, he, hb⟩, hw⟩ => ⟨by rw [he]; cases b with | false => rfl | true => exact absurd (hb.1 rfl) hk, hw⟩)
    obtain ⟨a, c, rfl, hca, hc2, hcc⟩ := h.form
    have HF2 : Hid (P (.returned (.tuple #[.pointer none, .int .i64 51])) w) := HF.out _ (Fr.refl _ _)
    clear hP hcb hn h
    generalize zs.length = Z at *
    go_enter Tryz.func118, Tryz.ntmps118
    go_wp2_with (first | (go_at_call 154; (with_reducible refine HC1.out.mono ?_); rintro e w1 ⟨rfl, rfl⟩))
    exact HF2.out
end Go.Proofs.YtpjnbhflnbhnoaaGreatDoor

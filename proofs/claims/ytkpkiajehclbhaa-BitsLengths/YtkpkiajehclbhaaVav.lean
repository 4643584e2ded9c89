import Derived.Test.YtkpkiajehclbhaaVau
namespace Go.Proofs.Ytkpkiajehclbhaa
open Go.RowKit
set_option linter.unusedVariables false
variable {cb gw gs : Nat} {ls : List Nat} {ws : List (Nat × Nat)} {ss : List Int} {w : World}
theorem CodeI.range (h : CodeI cb gw gs ls ws ss w) : w.rangeAt cb 2 (rowC (fr ls)).toList := fun j v hv => by
  have hr := h.c.row
  refine (row_cell hr (2 + j) v ?_).1
  rw [codeC, Array.getElem?_append_right (by simp)]
  simpa using hv
set_option maxHeartbeats 8000000 in
theorem whole_any (h : CodeI cb gw gs ls ws ss w) (hk : Cod ls) : Calls Try.prog 34 #[.pointer (some ⟨cb, 0, none⟩)] w fun e w' => e = .returned (.bool (decide (room ls = 32768))) ∧ Nw w w' := by
  obtain ⟨P, hP⟩ : ∃ P : Ending → World → Prop, P = fun e w' => e = .returned (.bool (decide (room ls = 32768))) ∧ Nw w w' := ⟨_, rfl⟩
  rw [← hP]
  have hfit := hk.fit
  have HC : Hid (Calls Try.prog 48 #[.agg (rowC (fr ls)).toList.toArray] w fun e w' => e = .returned (.int .i64 (room ls)) ∧ Hid (P (.returned (.bool (decide (room ls = 32768)))) w')) := by
    rw [show (rowC (fr ls)).toList.toArray = rowC (fr ls) by simp]
    refine (room_any w (fr ls) (by show room ls ≤ _; omega)).mono ?_
    rintro e w' ⟨rfl, hN⟩
    refine ⟨rfl, ?_⟩
    show P _ _
    rw [hP]; exact ⟨rfl, hN⟩
  have hr := h.range
  have hsz : (Try.prog.info? 90).map (·.size) = some (rowC (fr ls)).toList.length := by rw [size90]; simp [rowC_size]
  have hd : ((room ls : Int) == 32768) = decide (room ls = 32768) := by
    by_cases e : room ls = 32768
    · simp [e]
    · rw [decide_eq_false e]; simp; omega
  clear hP h hk
  generalize (rowC (fr ls)).toList = AL at *
  generalize decide (room ls = 32768) = B at *
  generalize room ls = R at *
  go_enter Try.func34, Try.ntmps34
  go_wp2_with (first | (refine wpList_load_mid rfl 90 _ rfl cb 2 (by first | rfl | simp [Act.eval]) AL _ hr Try.underlying90 rfl hsz ?_) | (go_at_call 48; (with_reducible refine HC.out.mono ?_); rintro e w4 ⟨rfl, H4⟩))
  exact H4.out
end Go.Proofs.Ytkpkiajehclbhaa

namespace Go.Proofs.Ytkpkiajehclbhaa
open Go.RowKit
set_option linter.unusedVariables false
variable {cb gw gs : Nat} {ls : List Nat} {ws : List (Nat × Nat)} {ss : List Int} {w : World}
/-- What Word answers: the word, and the error. -/
def wordA (ls : List Nat) (z : Int) : (Nat × Nat) × Nat := if z < 0 ∨ (ls.length : Int) ≤ z then ((0, 0), 1) else if ls.getD z.toNat 0 = 0 then ((0, 0), 52) else (wdP ls z.toNat, 0)
def wordV (a : (Nat × Nat) × Nat) : Value := .tuple #[.agg #[.int .u32 a.1.1, .int .i64 a.1.2], .int .i64 a.2]
theorem wret {R : Ending → World → Prop} {a : Act} {w : World} {v0 v1 : Value} (sb : Nat) (h1 : a.tmps.getD 4 undef = .pointer (some ⟨sb, 0, none⟩)) (hrow : w.heap[sb]? = some (.cells #[v0, v1] 62)) (hd : a.defers = []) (hR : R (.returned (.tuple #[.agg #[v0, v1], a.tmps.getD 5 undef])) w) : bodyPost Try.prog Try.f35 R .ret a w := by
  have hi : (Try.prog.info? 62).map (·.size) = some (#[v0, v1] : Array Value).size := by kernel_rfl
  have hl := run_loadVar_row (P := Try.prog) w sb 62 62 #[v0, v1] (0, 0) _ hrow Try.underlying62 rfl hi
  have hp' : a.tmps[4]?.getD undef = .pointer (some ⟨sb, 0, none⟩) := by simpa using h1
  refine bodyPost_ret ?_ hd hR
  simp [results, hp', asAddr, hl]
theorem CodeI.word (h : CodeI cb gw gs ls ws ss w) (i : Nat) (hi : i < ls.length) : w.cell? ⟨gw, i * 2, none⟩ = some (.int .u32 (wdP ls i).1) ∧ w.cell? ⟨gw, i * 2 + 1, none⟩ = some (.int .i64 (wdP ls i).2) := by
  have := h.c.word i _ (h.W i hi)
  exact ⟨this.1, this.2.1⟩
theorem wdP_zero (i : Nat) : ((wdP ls i).2 = 0) ↔ ls.getD i 0 = 0 := by
  unfold wdP
  split
  · rename_i e; rw [e]
  · rfl
set_option maxHeartbeats 8000000 in
theorem word_any (h : CodeI cb gw gs ls ws ss w) (hk : Cod ls) (z : Int) : Calls Try.prog 35 #[.pointer (some ⟨cb, 0, none⟩), .int .i64 z] w fun e w' => e = .returned (wordV (wordA ls z)) ∧ Nw w w' := by
  obtain ⟨P, hP⟩ : ∃ P : Ending → World → Prop, P = fun e w' => e = .returned (wordV (wordA ls z)) ∧ Nw w w' := ⟨_, rfl⟩
  rw [← hP]
  obtain ⟨W1, hW1⟩ : ∃ W1, w.alloc (.cells #[.int .u32 0, .int .i64 0] 62) = W1 := ⟨_, rfl⟩
  have hN1 : Nw w W1 := by rw [← hW1]; exact (Fr.refl _ _).alloc _
  have hrow1 : W1.heap[w.heap.size]? = some (.cells #[.int .u32 0, .int .i64 0] 62) := by
    rw [← hW1]
    show (w.heap.push _)[w.heap.size]? = _
    rw [Array.getElem?_push_size]
  have h1 := h.nw hN1
  obtain ⟨x0, x1⟩ := h1.c.heads
  have hlen := hk.len
  obtain ⟨y0, y1⟩ : W1.frozen? ⟨w.heap.size, 0, none⟩ = false ∧ W1.frozen? ⟨w.heap.size, 1, none⟩ = false := ⟨(row_cell hrow1 0 _ rfl).2, (row_cell hrow1 1 _ rfl).2⟩
  obtain ⟨y2, y3⟩ : W1.cell? ⟨w.heap.size, 0, none⟩ = some (.int .u32 0) ∧ W1.cell? ⟨w.heap.size, 1, none⟩ = some (.int .i64 0) := ⟨(row_cell hrow1 0 _ rfl).1, (row_cell hrow1 1 _ rfl).1⟩
  have HW1 : Hid (w.alloc (.cells #[.int .u32 0, .int .i64 0] 62) = W1) := hW1
  have HR : Hid (∀ (a : Act) (v0 v1 : Value) W, W = (W1.setCell ⟨w.heap.size, 0, none⟩ v0).setCell ⟨w.heap.size, 1, none⟩ v1 → a.tmps.getD 4 undef = .pointer (some ⟨w.heap.size, 0, none⟩) → a.defers = [] → .tuple #[.agg #[v0, v1], a.tmps.getD 5 undef] = wordV (wordA ls z) → bodyPost Try.prog Try.f35 P .ret a W) := by
    intro a v0 v1 W e h1 h2 h3
    subst e
    refine wret w.heap.size h1 (row_set (row_set hrow1 0 v0) 1 v1) h2 ?_
    rw [hP]
    refine ⟨by rw [h3], ?_⟩
    exact (hN1.setCell _ _ (.inr (Nat.le_refl _))).setCell _ _ (.inr (Nat.le_refl _))
  clear hP hW1 hN1 hrow1
  by_cases hz : z < 0 ∨ (ls.length : Int) ≤ z
  · have e : wordA ls z = ((0, 0), 1) := by unfold wordA; rw [if_pos hz]
    rw [e] at HR
    generalize ls.length = L at *
    clear h h1 hk
    rcases hz with hz | hz
    · go_enter Try.func35, Try.ntmps35
      go_upto_region 1 with fail
      rw [HW1.out]
      go_wp2_with fail
      (try simp only [Exit.inBlock, Exit.then])
      refine HR.out _ (.int .u32 0) (.int .i64 0) _ ?_ ?_ ?_ ?_ <;> rfl
    · have hz0 : 0 ≤ z := by omega
      go_enter Try.func35, Try.ntmps35
      go_upto_region 1 with fail
      rw [HW1.out]
      go_wp2_with fail
      (try simp only [Exit.inBlock, Exit.then])
      refine HR.out _ (.int .u32 0) (.int .i64 0) _ ?_ ?_ ?_ ?_ <;> rfl
  · obtain ⟨i, rfl⟩ : ∃ i : Nat, z = (i : Int) := ⟨z.toNat, by omega⟩
    have hi : i < ls.length := by omega
    obtain ⟨c0, c1⟩ := h1.word i hi
    by_cases h0 : ls.getD i 0 = 0
    · have e : wordA ls i = ((0, 0), 52) := by unfold wordA; rw [if_neg hz, Int.toNat_natCast, if_pos h0]
      rw [e] at HR
      rw [show (wdP ls i).2 = 0 from (wdP_zero i).2 h0] at c1
      generalize ls.length = L at *
      clear h h1 hk hz
      go_enter Try.func35, Try.ntmps35
      go_upto_region 1 with fail
      rw [HW1.out]
      go_wp2_with fail
      (try simp only [Exit.inBlock, Exit.then])
      refine HR.out _ (.int .u32 0) (.int .i64 0) _ ?_ ?_ ?_ ?_ <;> rfl
    · have e : wordA ls i = (wdP ls i, 0) := by unfold wordA; rw [if_neg hz, Int.toNat_natCast, if_neg h0]
      rw [e] at HR
      have hn : (wdP ls i).2 ≠ 0 := fun h => h0 ((wdP_zero i).1 h)
      generalize ls.length = L at *
      generalize wdP ls i = q at *
      obtain ⟨q1, q2⟩ := q
      have hn' : q2 ≠ 0 := hn
      clear h h1 hk hz hn
      go_enter Try.func35, Try.ntmps35
      go_upto_region 1 with fail
      rw [HW1.out]
      go_wp2_with fail
      (try simp only [Exit.inBlock, Exit.then])
      refine HR.out _ (.int .u32 q1) (.int .i64 q2) _ ?_ ?_ ?_ ?_ <;> rfl
end Go.Proofs.Ytkpkiajehclbhaa

import Derived.Test.YtpjnbhflnbhnoaaGreatDoorWaw
import Derived.Test.YtpjnbhflnbhnoaaGreatDoorWar
namespace Go.Proofs.YtpjnbhflnbhnoaaGreatDoor
open Go.RowKit
set_option linter.unusedVariables false
variable {cb gw gs : Nat} {ls : List Nat} {ws : List (Nat × Nat)} {ss : List Int} {w : World}
theorem CodeI.range (h : CodeI cb gw gs ls ws ss w) : w.rangeAt cb 2 (rowC (fr ls)).toList := fun j v hv => by
  have hr := h.c.row
  refine (row_cell hr (2 + j) v ?_).1
  rw [codeC, Array.getElem?_append_right (by simp)]
  simpa using hv
set_option maxHeartbeats 8000000 in
theorem whole_any (h : CodeI cb gw gs ls ws ss w) (hk : Cod ls) : Calls Tryz.prog 216 #[.pointer (some ⟨cb, 0, none⟩)] w fun e w' => e = .returned (.bool (decide (room ls = 32768))) ∧ Nw w w' := by
  obtain ⟨P, hP⟩ : ∃ P : Ending → World → Prop, P = fun e w' => e = .returned (.bool (decide (room ls = 32768))) ∧ Nw w w' := ⟨_, rfl⟩
  rw [← hP]
  have hfit := hk.fit
  have HC : Hid (Calls Tryz.prog 156 #[.agg (rowC (fr ls)).toList.toArray] w fun e w' => e = .returned (.int .i64 (room ls)) ∧ Hid (P (.returned (.bool (decide (room ls = 32768)))) w')) := by
    rw [show (rowC (fr ls)).toList.toArray = rowC (fr ls) by simp]
    refine (room_any w (fr ls) (by show room ls ≤ _; omega)).mono ?_
    rintro e w' ⟨rfl, hN⟩
    refine ⟨rfl, ?_⟩
    show P _ _
    rw [hP]; exact ⟨rfl, hN⟩
  have hr := h.range
  have hsz : (Tryz.prog.info? 209).map (·.size) = some (rowC (fr ls)).toList.length := by rw [size90]; simp [rowC_size]
  have hd : ((room ls : Int) == 32768) = decide (room ls = 32768) := by
    by_cases e : room ls = 32768
    · simp [e]
    · rw [decide_eq_false e]; simp; omega
  clear hP h hk
  generalize (rowC (fr ls)).toList = AL at *
  generalize decide (room ls = 32768) = B at *
  generalize room ls = R at *
  go_enter Tryz.func216, Tryz.ntmps216
  go_wp2_with (first | (refine wpList_load_mid rfl 209 _ rfl cb 2 (by first | rfl | simp [Act.eval]) AL _ hr Tryz.underlying209 rfl hsz ?_) | (go_at_call 156; (with_reducible refine HC.out.mono ?_); rintro e w4 ⟨rfl, H4⟩))
  exact H4.out
end Go.Proofs.YtpjnbhflnbhnoaaGreatDoor

namespace Go.Proofs.YtpjnbhflnbhnoaaGreatDoor
open Go.RowKit
set_option linter.unusedVariables false
variable {cb gw gs : Nat} {ls : List Nat} {ws : List (Nat × Nat)} {ss : List Int} {w : World}
/-- What Word answers: the word, and the error. -/
def wordA (ls : List Nat) (z : Int) : (Nat × Nat) × Nat := if z < 0 ∨ (ls.length : Int) ≤ z then ((0, 0), 1) else if ls.getD z.toNat 0 = 0 then ((0, 0), 52) else (wdP ls z.toNat, 0)
def wordV (a : (Nat × Nat) × Nat) : Value := .tuple #[.agg #[.int .u32 a.1.1, .int .i64 a.1.2], .int .i64 a.2]
theorem wret {R : Ending → World → Prop} {a : Act} {w : World} {v0 v1 : Value} (sb : Nat) (h1 : a.tmps.getD 4 undef = .pointer (some ⟨sb, 0, none⟩)) (hrow : w.heap[sb]? = some (.cells #[v0, v1] 196)) (hd : a.defers = []) (hR : R (.returned (.tuple #[.agg #[v0, v1], a.tmps.getD 5 undef])) w) : bodyPost Tryz.prog Tryz.f146 R .ret a w := by
  have hi : (Tryz.prog.info? 196).map (·.size) = some (#[v0, v1] : Array Value).size := by kernel_rfl
  have hl := run_loadVar_row (P := Tryz.prog) w sb 196 196 #[v0, v1] (0, 0) _ hrow Tryz.underlying196 rfl hi
  have hp' : a.tmps[4]?.getD undef = .pointer (some ⟨sb, 0, none⟩) := by simpa using h1
  refine bodyPost_ret ?_ hd hR
  simp [results, hp', asAddr, hl]
theorem CodeI.word (h : CodeI cb gw gs ls ws ss w) (i : Nat) (hi : i < ls.length) : w.cell? ⟨gw, i * 2, none⟩ = some (.int .u32 (wdP ls i).1) ∧ w.cell? ⟨gw, i * 2 + 1, none⟩ = some (.int .i64 (wdP ls i).2) := by
  have := h.c.word i _ (h.W i hi)
  exact ⟨this.1, this.2.1⟩
theorem wdP_zero (i : Nat) : ((wdP ls i).2 = 0) ↔ ls.getD i 0 = 0 := by
  unfold wdP
  split
  · rename_i e; rw [e]
  · rfl
set_option maxHeartbeats 8000000 in
theorem word_any (h : CodeI cb gw gs ls ws ss w) (hk : Cod ls) (z : Int) : Calls Tryz.prog 146 #[.pointer (some ⟨cb, 0, none⟩), .int .i64 z] w fun e w' => e = .returned (wordV (wordA ls z)) ∧ Nw w w' := by
  obtain ⟨P, hP⟩ : ∃ P : Ending → World → Prop, P = fun e w' => e = .returned (wordV (wordA ls z)) ∧ Nw w w' := ⟨_, rfl⟩
  rw [← hP]
  obtain ⟨W1, hW1⟩ : ∃ W1, w.alloc (.cells #[.int .u32 0, .int .i64 0] 196) = W1 := ⟨_, rfl⟩
  have hN1 : Nw w W1 := by rw [← hW1]; exact (Fr.refl _ _).alloc _
  have hrow1 : W1.heap[w.heap.size]? = some (.cells #[.int .u32 0, .int .i64 0] 196) := by
    rw [← hW1]
    show (w.heap.push _)[w.heap.size]? = _
    rw [Array.getElem?_push_size]
  have h1 := h.nw hN1
  obtain ⟨x0, x1⟩ := h1.c.heads
  have hlen := hk.len
  obtain ⟨y0, y1⟩ : W1.frozen? ⟨w.heap.size, 0, none⟩ = false ∧ W1.frozen? ⟨w.heap.size, 1, none⟩ = false := ⟨(row_cell hrow1 0 _ rfl).2, (row_cell hrow1 1 _ rfl).2⟩
  obtain ⟨y2, y3⟩ : W1.cell? ⟨w.heap.size, 0, none⟩ = some (.int .u32 0) ∧ W1.cell? ⟨w.heap.size, 1, none⟩ = some (.int .i64 0) := ⟨(row_cell hrow1 0 _ rfl).1, (row_cell hrow1 1 _ rfl).1⟩
  have HW1 : Hid (w.alloc (.cells #[.int .u32 0, .int .i64 0] 196) = W1) := hW1
  have HR : Hid (∀ (a : Act) (v0 v1 : Value) W, W = (W1.setCell ⟨w.heap.size, 0, none⟩ v0).setCell ⟨w.heap.size, 1, none⟩ v1 → a.tmps.getD 4 undef = .pointer (some ⟨w.heap.size, 0, none⟩) → a.defers = [] → .tuple #[.agg #[v0, v1], a.tmps.getD 5 undef] = wordV (wordA ls z) → bodyPost Tryz.prog Tryz.f146 P .ret a W) := by
    intro a v0 v1 W e h1 h2 h3
    subst e
    refine wret w.heap.size h1 (row_set (row_set hrow1 0 v0) 1 v1) h2 ?_
    rw [hP]
    refine ⟨by rw [h3], ?_⟩
    exact (hN1.setCell _ _ (.inr (Nat.le_refl _))).setCell _ _ (.inr (Nat.le_refl _))
  clear hP hW1 hN1 hrow1
  by_cases hz : z < 0 ∨ (ls.length : Int) ≤ z
  · have e : wordA ls z = ((0, 0), 1) := by unfold wordA; rw [if_pos hz]
    rw [e] at HR
    generalize ls.length = L at *
    clear h h1 hk
    rcases hz with hz | hz
    · go_enter Tryz.func146, Tryz.ntmps146
      go_upto_region 1 with fail
      rw [HW1.out]
      go_wp2_with fail
      (try simp only [Exit.inBlock, Exit.then])
      refine HR.out _ (.int .u32 0) (.int .i64 0) _ ?_ ?_ ?_ ?_ <;> rfl
    · have hz0 : 0 ≤ z := by omega
      go_enter Tryz.func146, Tryz.ntmps146
      go_upto_region 1 with fail
      rw [HW1.out]
      go_wp2_with fail
      (try simp only [Exit.inBlock, Exit.then])
      refine HR.out _ (.int .u32 0) (.int .i64 0) _ ?_ ?_ ?_ ?_ <;> rfl
  · obtain ⟨i, rfl⟩ : ∃ i : Nat, z = (i : Int) := ⟨z.toNat, by omega⟩
    have hi : i < ls.length := by omega
    obtain ⟨c0, c1⟩ := h1.word i hi
    by_cases h0 : ls.getD i 0 = 0
    · have e : wordA ls i = ((0, 0), 52) := by unfold wordA; rw [if_neg hz, Int.toNat_natCast, if_pos h0]
      rw [e] at HR
      rw [show (wdP ls i).2 = 0 from (wdP_zero i).2 h0] at c1
      generalize ls.length = L at *
      clear h h1 hk hz
      go_enter Tryz.func146, Tryz.ntmps146
      go_upto_region 1 with fail
      rw [HW1.out]
      go_wp2_with fail
      (try simp only [Exit.inBlock, Exit.then])
      refine HR.out _ (.int .u32 0) (.int .i64 0) _ ?_ ?_ ?_ ?_ <;> rfl
    · have e : wordA ls i = (wdP ls i, 0) := by unfold wordA; rw [if_neg hz, Int.toNat_natCast, if_neg h0]
      rw [e] at HR
      have hn : (wdP ls i).2 ≠ 0 := fun h => h0 ((wdP_zero i).1 h)
      generalize ls.length = L at *
      generalize wdP ls i = q at *
      obtain ⟨q1, q2⟩ := q
      have hn' : q2 ≠ 0 := hn
      clear h h1 hk hz hn
      go_enter Tryz.func146, Tryz.ntmps146
      go_upto_region 1 with fail
      rw [HW1.out]
      go_wp2_with fail
      (try simp only [Exit.inBlock, Exit.then])
      refine HR.out _ (.int .u32 q1) (.int .i64 q2) _ ?_ ?_ ?_ ?_ <;> rfl
end Go.Proofs.YtpjnbhflnbhnoaaGreatDoor

namespace Go.Proofs.YtpjnbhflnbhnoaaGreatDoor
open Go.RowKit
set_option linter.unusedVariables false
variable {cb gw gs : Nat} {ls : List Nat} {ws : List (Nat × Nat)} {ss : List Int} {w : World} {K : Nat → Prop} {rb : Nat} {v : Value} {b : List By} {p : Nat}
/-- What Read does. -/
def ReadA (cb gw gs : Nat) (ls : List Nat) (K : Nat → Prop) (rb : Nat) (v : Value) (b : List By) (p : Nat) (w : World) (e : Ending) (w' : World) : Prop :=
  (∃ i, Hits ls (rev 15 (le b / 2 ^ p)) i ∧ ls.getD i 0 ≤ 8 * b.length - p ∧ e = .returned (.tuple #[.int .i64 i, .int .i64 0]) ∧ Rr 181 K rb v b (p + ls.getD i 0) w' ∧ Fr (fun k => k = rb) w w') ∨
  (∃ i, Hits ls (rev 15 (le b / 2 ^ p)) i ∧ 8 * b.length - p < ls.getD i 0 ∧ e = .returned (.tuple #[.int .i64 0, .int .i64 50]) ∧ Nw w w') ∨
  (Past ls (rev 15 (le b / 2 ^ p)) 16 ∧ e = .returned (.tuple #[.int .i64 0, .int .i64 52]) ∧ Nw w w')
theorem CodeI.rows (h : CodeI cb gw gs ls ws ss w) (n : Nat) (hn : n < 16) : w.cell? ⟨cb, 2 + n * 3, none⟩ = some (.int .i64 (ct ls n)) ∧ w.cell? ⟨cb, 2 + n * 3 + 1, none⟩ = some (.int .i64 (nm ls n)) ∧ w.cell? ⟨cb, 2 + n * 3 + 2, none⟩ = some (.int .i64 (pc ls n)) :=
  ⟨h.c.rows n 0 hn (by decide), h.c.rows n 1 hn (by decide), h.c.rows n 2 hn (by decide)⟩
set_option maxHeartbeats 16000000 in
set_option maxRecDepth 100000 in
theorem read_any (h : CodeI cb gw gs ls ws ss w) (hk : Cod ls) (hr : Rr 181 K rb v b p w) (hp : p ≤ 8 * b.length) (h1 : rb ≠ cb) (h2 : rb ≠ gw) (h3 : rb ≠ gs) : Calls Tryz.prog 207 #[.pointer (some ⟨cb, 0, none⟩), .pointer (some ⟨rb, 0, none⟩)] w (ReadA cb gw gs ls K rb v b p w) := by
  obtain ⟨P, hP⟩ : ∃ P : Ending → World → Prop, P = ReadA cb gw gs ls K rb v b p w := ⟨_, rfl⟩
  rw [← hP]
  have hX : rev 15 (le b / 2 ^ p % 2 ^ 15) = rev 15 (le b / 2 ^ p) := rev_mod 15 15 _ (Nat.le_refl _)
  have hXl := rev_lt 15 (le b / 2 ^ p)
  have hbl := hr.bl
  have HP : Hid (P = ReadA cb gw gs ls K rb v b p w) := hP
  have HA : Hid (∀ V, Nw w V → Calls Tryz.prog 129 #[.pointer (some ⟨rb, 0, none⟩), .int .i64 15] V fun e w' => e = .returned (.int .u32 (le b / 2 ^ p % 2 ^ 15 : Nat)) ∧ Hid (Nw w w')) := fun V hV => by
    refine (bahead_any (hr.nw hV) hp 15 (by decide)).mono ?_
    rintro e w1 ⟨rfl, k⟩
    exact ⟨rfl, hV.trans k⟩
  have HT : Hid (∀ V, Calls Tryz.prog 181 #[.int .u32 (le b / 2 ^ p % 2 ^ 15 : Nat), .int .i64 15] V fun e w' => e = .returned (.int .u32 (rev 15 (le b / 2 ^ p))) ∧ w' = V) := fun V => by
    have := turned_any (le b / 2 ^ p % 2 ^ 15) 15 (by have := Nat.mod_lt (le b / 2 ^ p) (show 0 < 2 ^ 15 by decide); omega) (by decide) V
    rw [hX] at this
    exact this
  have HLf : Hid (∀ V, Nw w V → Calls Tryz.prog 128 #[.pointer (some ⟨rb, 0, none⟩)] V fun e w' => e = .returned (.int .i64 (8 * b.length - p : Nat)) ∧ Hid (Nw w w') ∧ w'.cell? ⟨rb, 1, none⟩ = some (.int .i64 p) ∧ w'.frozen? ⟨rb, 1, none⟩ = false) := fun V hV => by
    refine (left_any (hr.nw hV) hp).mono ?_
    rintro e w1 ⟨rfl, k⟩
    have := (hr.nw (hV.trans k)).cells
    exact ⟨rfl, hV.trans k, this.2.1, this.2.2⟩
  have HC : Hid (∀ V n, Nw w V → n < 16 → V.cell? ⟨cb, 2 + n * 3, none⟩ = some (.int .i64 (ct ls n)) ∧ V.cell? ⟨cb, 2 + n * 3 + 1, none⟩ = some (.int .i64 (nm ls n))) := fun V n hV hn => by
    have := (h.nw hV).rows n hn
    exact ⟨this.1, this.2.1⟩
  have HG : Hid (∀ V n i, Fr (fun k => k = rb) w V → n < 16 → i < ls.length → ls.getD i 0 ≠ 0 → V.cell? ⟨cb, 1, none⟩ = some (.slice (some ⟨gs, 0, none⟩) (nwd ls) (nwd ls)) ∧ V.cell? ⟨cb, 2 + n * 3 + 2, none⟩ = some (.int .i64 (pc ls n)) ∧ V.cell? ⟨gs, ps ls i, none⟩ = some (.int .i64 (i : Nat)) ∧ ps ls i < nwd ls) := fun V n i hV hn hi h0 => by
    have hc := h.kept hV (fun e => h1 e.symm) (fun e => h2 e.symm) (fun e => h3 e.symm)
    exact ⟨hc.c.heads.2, (hc.rows n hn).2.2, (hc.c.sym _ _ (hc.S i hi h0)).1, hk.ps_lt i hi h0⟩
  have HN0 : Hid (Nw w w) := Fr.refl _ _
  have HR : Hid (∀ V n (z : Int), Nw w V → z = ((p + n : Nat) : Int) → Rr 181 K rb v b (p + n) (V.setCell ⟨rb, 1, none⟩ (.int .i64 z)) ∧ Fr (fun k => k = rb) w (V.setCell ⟨rb, 1, none⟩ (.int .i64 z))) := fun V n z hV hz => by
    have := (hr.nw hV).go (p + n) z hz
    exact ⟨this.1, hV.any.trans this.2⟩
  have hnw : nwd ls ≤ 5120 := by
    have h1 := pc_bound ls hk.len 16
    exact h1
  have HK : Hid (Cod ls) := hk
  have HB1 : Hid (∀ n, n ≤ 15 → nm ls n + ct ls n ≤ 2 ^ n ∧ pc ls n ≤ 5120) := fun n hn => ⟨nm_le ls n hn hk.fit, by have := pc_bound ls hk.len n; omega⟩
  clear hP h hr hk h1 h2 h3 hX
  obtain ⟨X, hXX⟩ : ∃ X, X = rev 15 (le b / 2 ^ p) := ⟨_, rfl⟩
  unfold ReadA at HP
  rw [← hXX] at hXl HT HP
  clear hXX
  have hXl' : X < 32768 := hXl
  obtain ⟨Lf, hLf⟩ : ∃ Lf, Lf = 8 * b.length - p := ⟨_, rfl⟩
  have hLf2 : Lf ≤ 1600000000000000 := by omega
  have hp2 : p ≤ 1600000000000000 := by omega
  rw [← hLf] at HP HLf
  clear hLf hXl hp hbl
  generalize le b / 2 ^ p % 2 ^ 15 = Y at *
  generalize hM : nwd ls = M at *
  go_enter Tryz.func207, Tryz.ntmps207
  go_wp2_with (first | (go_at_call 129; (with_reducible refine (HA.out _ HN0.out).mono ?_); rintro e w1 ⟨rfl, H1⟩) | (go_at_call 181; (with_reducible refine (HT.out _).mono ?_); rintro e w2 ⟨rfl, rfl⟩))
  clear HA HT
  go_loopg [7] 16 (fun kx i wr => ∃ (N : Nat), 1 ≤ N ∧ N ≤ 16 ∧ 16 - N ≤ kx ∧ i = .int .i64 N ∧ Hid (Past ls X N) ∧ Hid (Nw w wr))
  case atStart => exact ⟨1, by omega, by omega, by omega, rfl, Past.start ls X, H1⟩
  case round =>
    obtain ⟨N, hN1, hN2, hkx, rfl, HI, HW⟩ := hrel
    by_cases hlt : N ≤ 15
    · obtain ⟨c0, c1⟩ := HC.out wr N HW.out (by omega)
      have hge := HI.out.ge hN1 hlt
      obtain ⟨hb1, hb2⟩ := HB1.out N hlt
      have hpw : (2 : Nat) ^ N ≤ 2 ^ 15 := Nat.pow_le_pow_right (by decide) hlt
      obtain ⟨k, hk⟩ : ∃ k, k = 15 - N := ⟨_, rfl⟩
      have hki : (15 : Int) - (N : Int) = (k : Int) := by omega
      obtain ⟨q, hq⟩ : ∃ q, q = X / 2 ^ k := ⟨_, rfl⟩
      have hqi : (X : Int) / 2 ^ k = (q : Int) := by rw [hq]; push_cast; rfl
      have hql : q < 32768 := by rw [hq]; exact Nat.lt_of_le_of_lt (Nat.div_le_self _ _) hXl'
      rw [← hk, ← hq] at hge
      obtain ⟨d, hd⟩ : ∃ d, d = q - nm ls N := ⟨_, rfl⟩
      have hdi : (q : Int) - (nm ls N : Int) = (d : Int) := by omega
      have hdl : d < 32768 := by omega
      have hNl : (N : Int) ≤ 15 := by omega
      have hk15 : k ≤ 15 := by omega
      have hcl : ct ls N ≤ 32768 := by omega
      by_cases hc : ct ls N ≤ d
      · have HN : Hid (Past ls X (N + 1)) := HI.out.next (by rw [← hk, ← hq]; omega)
        have hci : (ct ls N : Int) ≤ (d : Int) := by omega
        clear HI HG HR HLf HP HK HC HB1 hq hk
        generalize ct ls N = C at *
        generalize nm ls N = A at *
        go_wp2_with fail
        go_quiet (fail)
        go_wp2_with fail
        go_roundg (16 - (N + 1))
        case measure => omega
        case rel => exact ⟨N + 1, by omega, by omega, by omega, by first | rfl | (congr 1), HN, HW.out.drewN _⟩
      · obtain ⟨i, hhi, hin, hpi⟩ := HI.out.found hN1 hlt (by rw [← hk, ← hq]; omega)
        rw [← hk, ← hq, ← hd] at hpi
        have hci : ¬ (ct ls N : Int) ≤ (d : Int) := by omega
        have hgi : ls.getD i 0 ≠ 0 := by omega
        by_cases hf : Lf < N
        · have HF : Hid (∀ V, Nw w V → P (.returned (.tuple #[.int .i64 0, .int .i64 50])) V) := fun V hV => by
            rw [HP.out]
            exact .inr (.inl ⟨i, hhi, by omega, rfl, hV⟩)
          have hfi : (Lf : Int) < (N : Int) := by omega
          have HDR : Hid (∀ n, Nw w (wr.drewN n)) := fun n => HW.out.drewN n
          clear HI HG HR HP HK HC HB1 hq hk hhi hpi hin hgi hM HN0 H1
          generalize ct ls N = C at *
          generalize nm ls N = A at *
          go_wp2_with fail
          go_quiet (fail)
          go_wp2_with (first | (go_at_call 128; (with_reducible refine (HLf.out _ (HDR.out _)).mono ?_); rintro e w3 ⟨rfl, H3, x1, x2⟩))
          exact HF.out _ H3.out
        · have hfi : ¬ (Lf : Int) < (N : Int) := by omega
          have HF : Hid (∀ V, Rr 181 K rb v b (p + N) V → Fr (fun k => k = rb) w V → P (.returned (.tuple #[.int .i64 i, .int .i64 0])) V) := fun V h1 h2 => by
            rw [HP.out]
            exact .inl ⟨i, hhi, by omega, rfl, by rw [hin]; exact h1, h2⟩
          have HDR : Hid (∀ n, Nw w (wr.drewN n)) := fun n => HW.out.drewN n
          have HG2 : Hid (∀ V, Fr (fun k => k = rb) w V → V.cell? ⟨cb, 1, none⟩ = some (.slice (some ⟨gs, 0, none⟩) M M) ∧ V.cell? ⟨cb, 2 + N * 3 + 2, none⟩ = some (.int .i64 (pc ls N)) ∧ V.cell? ⟨gs, pc ls N + d, none⟩ = some (.int .i64 (i : Nat)) ∧ pc ls N + d < M) := fun V hV => by
            have := HG.out V N i hV (by omega) hhi.1 hgi
            rw [hpi] at this
            exact this
          obtain ⟨pn, hpn⟩ : ∃ pn, pn = p + N := ⟨_, rfl⟩
          have hadd : (p : Int) + (N : Int) = (pn : Int) := by omega
          have hpl : pn ≤ 1600000000000015 := by omega
          have HR2 : Hid (∀ V, Nw w V → Rr 181 K rb v b (p + N) (V.setCell ⟨rb, 1, none⟩ (.int .i64 pn)) ∧ Fr (fun k => k = rb) w (V.setCell ⟨rb, 1, none⟩ (.int .i64 pn))) := fun V hV => HR.out V N _ hV (by omega)
          clear HI HG HP HK HC HB1 HR hq hk hhi hpi hin hgi hM HN0 H1 hd hpn
          generalize ct ls N = C at *
          generalize nm ls N = A at *
          generalize pc ls N = B at *
          go_wp2_with fail
          go_quiet (fail)
          go_upto_region 10 with (first | (go_at_call 128; (with_reducible refine (HLf.out _ (HDR.out _)).mono ?_); rintro e w3 ⟨rfl, H3, x1, x2⟩))
          obtain ⟨r1, r2⟩ := HR2.out w3 H3.out
          obtain ⟨g1, g2, g3, g4⟩ := HG2.out _ r2
          have r1' : Hid (Rr 181 K rb v b (p + N) (w3.setCell ⟨rb, 1, none⟩ (.int .i64 pn))) := r1
          have r2' : Hid (Fr (fun k => k = rb) w (w3.setCell ⟨rb, 1, none⟩ (.int .i64 pn))) := r2
          clear r1 r2
          generalize w3.setCell ⟨rb, 1, none⟩ (.int .i64 pn) = w4 at *
          go_wp2_with fail
          go_quiet (fail)
          go_wp2_with fail
          exact HF.out _ (r1'.out.nw ((Fr.refl _ _).drewN _)) (r2'.out.drewN _)
    · have HF : Hid (∀ V, Nw w V → P (.returned (.tuple #[.int .i64 0, .int .i64 52])) V) := fun V hV => by
        rw [HP.out]
        obtain rfl : N = 16 := by omega
        exact .inr (.inr ⟨HI.out, rfl, hV⟩)
      have hNl : ¬ (N : Int) ≤ 15 := by omega
      clear HI HG HR HP HK HC HB1 hM HN0 H1
      go_wp2_with fail
      exact HF.out _ HW.out
end Go.Proofs.YtpjnbhflnbhnoaaGreatDoor

namespace Go.Proofs.YtpjnbhflnbhnoaaGreatDoor
open Go.RowKit
set_option linter.unusedVariables false
/-! ### The document as Lean functions: bits that are read -/
/-- Bits from here on: how many, and their number. -/
structure Bt where
  n : Nat
  x : Nat
/-- More bits behind. -/
def Bt.app (t y : Bt) : Bt := ⟨t.n + y.n, t.x + 2 ^ t.n * y.x⟩
/-- No bits beyond the end. -/
def Bt.Ok (t : Bt) : Prop := t.x < 2 ^ t.n
/-- Whole bytes. -/
def Bt.Y (t : Bt) : Prop := t.n % 8 = 0 ∧ t.Ok
inductive Rz (α : Type) where
  | ok : α → Rz α
  | bad : Nat → Rz α
abbrev Rdr (α : Type) := Bt → Rz (α × Bt)
def retR {α : Type} (a : α) : Rdr α := fun t => .ok (a, t)
def failR {α : Type} (e : Nat) : Rdr α := fun _ => .bad e
def bindR {α β : Type} (f : Rdr α) (g : α → Rdr β) : Rdr β := fun t => match f t with
  | .ok (a, t') => g a t'
  | .bad e => .bad e
def takeR (k : Nat) : Rdr Nat := fun t => if t.n < k then .bad 4 else .ok (t.x % 2 ^ k, ⟨t.n - k, t.x / 2 ^ k⟩)
def alignR : Rdr Unit := fun t => .ok ((), ⟨t.n - t.n % 8, t.x / 2 ^ (t.n % 8)⟩)

open Classical in
/-- A word of a code. -/
noncomputable def symR (ls : List Nat) : Rdr Nat := fun t => if h : Cod ls ∧ ∃ i, Hits ls (rev 15 t.x) i then
    (if t.n < ls.getD (Classical.choose h.2) 0 then .bad 4 else .ok (Classical.choose h.2, ⟨t.n - ls.getD (Classical.choose h.2) 0, t.x / 2 ^ ls.getD (Classical.choose h.2) 0⟩)) else .bad 63
theorem symR_hit {ls : List Nat} {t : Bt} (hk : Cod ls) {i : Nat} (h : Hits ls (rev 15 t.x) i) : symR ls t = if t.n < ls.getD i 0 then .bad 4 else .ok (i, ⟨t.n - ls.getD i 0, t.x / 2 ^ ls.getD i 0⟩) := by
  have hx : Cod ls ∧ ∃ i, Hits ls (rev 15 t.x) i := ⟨hk, i, h⟩
  unfold symR
  rw [dif_pos hx, hk.hits_uniq (Classical.choose_spec hx.2) h]
theorem symR_none {ls : List Nat} {t : Bt} (h : ∀ i, Cod ls → ¬ Hits ls (rev 15 t.x) i) : symR ls t = .bad 63 := by
  unfold symR
  rw [dif_neg]
  rintro ⟨hk, i, hi⟩
  exact h i hk hi
/-- What holds of all that reads: it hangs on the bits that it reads alone. -/
structure Loc {α : Type} (f : Rdr α) : Prop where
  ok : ∀ t a t', t.Ok → f t = .ok (a, t') → t'.n ≤ t.n ∧ t'.Ok ∧ ∀ y, y.Y → f (t.app y) = .ok (a, t'.app y)
  bad : ∀ t e, t.Ok → f t = .bad e → e ≠ 4 → ∀ y, y.Y → f (t.app y) = .bad e
  short : ∀ t, t.Ok → f t = .bad 4 → ∀ y a t', y.Y → f (t.app y) = .ok (a, t') → t'.n < y.n
theorem Loc.ret {α : Type} (a : α) : Loc (retR a) := by
  refine ⟨fun t b t' ht h => ?_, fun t e ht h => ?_, fun t ht h => ?_⟩
  · simp only [retR, Rz.ok.injEq, Prod.mk.injEq] at h
    obtain ⟨rfl, rfl⟩ := h
    exact ⟨Nat.le_refl _, ht, fun _ _ => rfl⟩
  · simp [retR] at h
  · simp [retR] at h
theorem Loc.fail {α : Type} (e : Nat) (he : e ≠ 4) : Loc (failR e : Rdr α) := by
  refine ⟨fun t b t' ht h => ?_, fun t e ht h => ?_, fun t ht h => ?_⟩
  · simp [failR] at h
  · intro _ y _; exact h
  · simp [failR, he] at h
theorem Bt.app_ok {t y : Bt} (h : t.Ok) (k : y.Ok) : (t.app y).Ok := by
  unfold Bt.Ok Bt.app at *
  simp only
  rw [Nat.pow_add]
  have : 2 ^ t.n * y.x + 2 ^ t.n ≤ 2 ^ t.n * 2 ^ y.n := by
    rw [← Nat.mul_succ]; exact Nat.mul_le_mul_left _ k
  omega
theorem Loc.bind {α β : Type} {f : Rdr α} {g : α → Rdr β} (hf : Loc f) (hg : ∀ a, Loc (g a)) : Loc (bindR f g) := by
  refine ⟨fun t b t' ht h => ?_, fun t e ht h he y hy => ?_, fun t ht h y b t' hy h2 => ?_⟩
  · unfold bindR at h
    cases hq : f t with
    | bad e => rw [hq] at h; simp at h
    | ok r =>
      obtain ⟨a, t1⟩ := r
      rw [hq] at h
      obtain ⟨k1, k2, k3⟩ := hf.ok t a t1 ht hq
      obtain ⟨l1, l2, l3⟩ := (hg a).ok t1 b t' k2 h
      refine ⟨by omega, l2, fun y hy => ?_⟩
      unfold bindR
      rw [k3 y hy]
      exact l3 y hy
  · unfold bindR at h ⊢
    cases hq : f t with
    | bad e' =>
      rw [hq] at h
      injection h with h
      subst h
      rw [hf.bad t e' ht hq he y hy]
    | ok r =>
      obtain ⟨a, t1⟩ := r
      rw [hq] at h
      obtain ⟨k1, k2, k3⟩ := hf.ok t a t1 ht hq
      rw [k3 y hy]
      exact (hg a).bad t1 e k2 h he y hy
  · unfold bindR at h h2
    cases hq : f t with
    | bad e' =>
      rw [hq] at h
      injection h with h
      subst h
      cases hq2 : f (t.app y) with
      | bad e => rw [hq2] at h2; simp at h2
      | ok r =>
        obtain ⟨a, t1⟩ := r
        rw [hq2] at h2
        have k := hf.short t ht hq y a t1 hy hq2
        have k2 := (hf.ok _ a t1 (Bt.app_ok ht hy.2) hq2).2.1
        have hle := ((hg a).ok t1 b t' k2 h2).1
        omega
    | ok r =>
      obtain ⟨a, t1⟩ := r
      rw [hq] at h
      obtain ⟨k1, k2, k3⟩ := hf.ok t a t1 ht hq
      rw [k3 y hy] at h2
      exact (hg a).short t1 k2 h y b t' hy h2
theorem Loc.ite {α : Type} {c : Prop} [Decidable c] {f g : Rdr α} (hf : c → Loc f) (hg : ¬ c → Loc g) : Loc (if c then f else g) := by
  by_cases h : c
  · rw [if_pos h]; exact hf h
  · rw [if_neg h]; exact hg h
theorem app_low {t y : Bt} {k : Nat} (h : k ≤ t.n) : (t.app y).x % 2 ^ k = t.x % 2 ^ k ∧ (t.app y).x / 2 ^ k = t.x / 2 ^ k + 2 ^ (t.n - k) * y.x := by
  have e : 2 ^ t.n = 2 ^ k * 2 ^ (t.n - k) := by rw [← Nat.pow_add]; congr 1; omega
  unfold Bt.app
  simp only
  rw [e, Nat.mul_assoc]
  exact ⟨Nat.add_mul_mod_self_left _ _ _, Nat.add_mul_div_left _ _ (Nat.pow_pos (by decide))⟩
theorem Bt.Ok.rest {t : Bt} (h : t.Ok) (k : Nat) (hk : k ≤ t.n) : (⟨t.n - k, t.x / 2 ^ k⟩ : Bt).Ok := by
  unfold Bt.Ok at *
  simp only
  rw [Nat.div_lt_iff_lt_mul (Nat.pow_pos (by decide)), ← Nat.pow_add]
  rw [show t.n - k + k = t.n by omega]; exact h
theorem rest_app {t y : Bt} {k : Nat} (h : k ≤ t.n) : (⟨(t.app y).n - k, (t.app y).x / 2 ^ k⟩ : Bt) = (⟨t.n - k, t.x / 2 ^ k⟩ : Bt).app y := by
  rw [(app_low h).2]
  unfold Bt.app
  simp only [Bt.mk.injEq, and_true]
  omega
theorem Loc.take (k : Nat) : Loc (takeR k) := by
  refine ⟨fun t b t' ht h => ?_, fun t e ht h he => ?_, fun t ht h y b t' hy h2 => ?_⟩
  · unfold takeR at h
    by_cases hn : t.n < k
    · rw [if_pos hn] at h; simp at h
    · rw [if_neg hn] at h
      simp only [Rz.ok.injEq, Prod.mk.injEq] at h
      obtain ⟨rfl, rfl⟩ := h
      refine ⟨by simp, ht.rest k (by omega), fun y hy => ?_⟩
      unfold takeR
      rw [if_neg (by simp only [Bt.app]; omega), rest_app (by omega), (app_low (by omega)).1]
  · unfold takeR at h
    by_cases hn : t.n < k
    · rw [if_pos hn] at h
      injection h with h
      exact absurd h.symm he
    · rw [if_neg hn] at h; simp at h
  · unfold takeR at h h2
    by_cases hn : t.n < k
    · by_cases hn2 : (t.app y).n < k
      · rw [if_pos hn2] at h2; simp at h2
      · rw [if_neg hn2] at h2
        simp only [Rz.ok.injEq, Prod.mk.injEq] at h2
        obtain ⟨rfl, rfl⟩ := h2
        simp only [Bt.app] at hn2 ⊢
        omega
    · rw [if_neg hn] at h; simp at h
theorem Loc.align : Loc alignR := by
  refine ⟨fun t b t' ht h => ?_, fun t e ht h he => ?_, fun t ht h y b t' hy h2 => ?_⟩
  · unfold alignR at h
    simp only [Rz.ok.injEq, Prod.mk.injEq] at h
    obtain ⟨_, rfl⟩ := h
    have hle : t.n % 8 ≤ t.n := Nat.mod_le _ _
    refine ⟨by simp, ht.rest _ hle, fun y hy => ?_⟩
    unfold alignR
    have e : (t.app y).n % 8 = t.n % 8 := by
      have := hy.1
      simp only [Bt.app]; omega
    rw [e, rest_app hle]
  · simp [alignR] at h
  · simp [alignR] at h
theorem past_all {ls : List Nat} {X : Nat} (h : ∀ i, ¬ Hits ls X i) (n : Nat) (hn : 1 ≤ n) (hn2 : n ≤ 16) : Past ls X n := by
  induction n with
  | zero => omega
  | succ n ih =>
    by_cases h0 : n = 0
    · subst h0; exact Past.start _ _
    · have hp := ih (by omega) (by omega)
      have hg := hp.ge (by omega) (by omega)
      apply hp.next
      by_cases hc : X / 2 ^ (15 - n) - nm ls n < ct ls n
      · obtain ⟨i, hi, _⟩ := hp.found (by omega) (by omega) hc
        exact absurd hi (h i)
      · omega
theorem hits_app {ls : List Nat} (hk : Cod ls) {t y : Bt} {i : Nat} (hi : i < ls.length) (h0 : ls.getD i 0 ≠ 0) (hn : ls.getD i 0 ≤ t.n) : Hits ls (rev 15 (t.app y).x) i ↔ Hits ls (rev 15 t.x) i := by
  rw [hits_iff hk _ i hi h0, hits_iff hk _ i hi h0, (app_low hn).1]
theorem Loc.sym (ls : List Nat) : Loc (symR ls) := by
  refine ⟨fun t b t' ht h => ?_, fun t e ht h he y hy => ?_, fun t ht h y b t' hy h2 => ?_⟩
  · by_cases hx : Cod ls ∧ ∃ i, Hits ls (rev 15 t.x) i
    · obtain ⟨hk, i, hi⟩ := hx
      rw [symR_hit hk hi] at h
      by_cases hn : t.n < ls.getD i 0
      · rw [if_pos hn] at h; simp at h
      · rw [if_neg hn] at h
        simp only [Rz.ok.injEq, Prod.mk.injEq] at h
        obtain ⟨rfl, rfl⟩ := h
        refine ⟨by simp, ht.rest _ (by omega), fun y hy => ?_⟩
        rw [symR_hit hk ((hits_app hk hi.1 hi.2.1 (by omega)).2 hi), if_neg (by simp only [Bt.app]; omega), rest_app (by omega)]
    · rw [symR_none (fun i hk hi => hx ⟨hk, i, hi⟩)] at h; simp at h
  · by_cases hx : Cod ls ∧ ∃ i, Hits ls (rev 15 t.x) i
    · obtain ⟨hk, i, hi⟩ := hx
      rw [symR_hit hk hi] at h
      by_cases hn : t.n < ls.getD i 0
      · rw [if_pos hn] at h
        injection h with h
        exact absurd h.symm he
      · rw [if_neg hn] at h; simp at h
    · rw [symR_none (fun i hk hi => hx ⟨hk, i, hi⟩)] at h
      rw [← h]
      apply symR_none
      intro i hk hi
      have hno : ∀ i, ¬ Hits ls (rev 15 t.x) i := fun i hi => hx ⟨hk, i, hi⟩
      by_cases hn : ls.getD i 0 ≤ t.n
      · exact hno i ((hits_app hk hi.1 hi.2.1 hn).1 hi)
      · have hp := past_all hno 16 (by decide) (by decide)
        refine hp.no_short hk ht i hi.1 hi.2.1 (by omega) ?_
        have h1 := (hits_iff hk _ i hi.1 hi.2.1).1 hi
        rw [← h1]
        have h2 : (t.app y).x % 2 ^ ls.getD i 0 % 2 ^ t.n = (t.app y).x % 2 ^ t.n := Nat.mod_mod_of_dvd _ (Nat.pow_dvd_pow _ (by omega))
        rw [h2, (app_low (Nat.le_refl _)).1, Nat.mod_eq_of_lt ht]
  · by_cases hx : Cod ls ∧ ∃ i, Hits ls (rev 15 t.x) i
    · obtain ⟨hk, i, hi⟩ := hx
      rw [symR_hit hk hi] at h
      by_cases hn : t.n < ls.getD i 0
      · by_cases hx2 : ∃ j, Hits ls (rev 15 (t.app y).x) j
        · obtain ⟨j, hj⟩ := hx2
          rw [symR_hit hk hj] at h2
          by_cases hn2 : (t.app y).n < ls.getD j 0
          · rw [if_pos hn2] at h2; simp at h2
          · rw [if_neg hn2] at h2
            simp only [Rz.ok.injEq, Prod.mk.injEq] at h2
            obtain ⟨rfl, rfl⟩ := h2
            have hlt : t.n < ls.getD j 0 := by
              by_cases hc : ls.getD j 0 ≤ t.n
              · have := hk.hits_uniq ((hits_app hk hj.1 hj.2.1 hc).1 hj) hi
                subst this; omega
              · omega
            simp only [Bt.app] at hn2 ⊢
            omega
        · rw [symR_none (fun i _ hi => hx2 ⟨i, hi⟩)] at h2; simp at h2
      · rw [if_neg hn] at h; simp at h
    · rw [symR_none (fun i hk hi => hx ⟨hk, i, hi⟩)] at h; simp at h
end Go.Proofs.YtpjnbhflnbhnoaaGreatDoor

namespace Go.Proofs.YtpjnbhflnbhnoaaGreatDoor
open Go.RowKit
set_option linter.unusedVariables false
/-! ### The document as Lean functions: a stream -/
structure Sx where
  md : Nat
  lst : Bool
  sto : Nat
  la : List Nat
  lb : List Nat
  out : List By
/-- The block's end. -/
def endB (s : Sx) : Rdr Sx := if s.lst = true then bindR alignR (fun _ => retR { s with md := 3 }) else retR { s with md := 0 }
def storedR (most : Nat) (s : Sx) : Rdr Sx := bindR alignR fun _ => bindR (takeR 16) fun n => bindR (takeR 16) fun m =>
  if n + m ≠ 65535 then failR 61 else if most - s.out.length < n then failR 32 else if n = 0 then endB { s with md := 1, sto := 0 } else retR { s with md := 1, sto := n }
def byteR (s : Sx) : Rdr Sx := bindR (takeR 8) fun v =>
  if s.sto ≤ 1 then endB { s with sto := 0, out := s.out ++ [BitVec.ofNat 8 v] } else retR { s with sto := s.sto - 1, out := s.out ++ [BitVec.ofNat 8 v] }
/-- Further bits. -/
def furR (y g : Nat) : Rdr Nat := if y < g then retR y else bindR (takeR (y / g - 1)) fun v => retR ((g + y % g) * 2 ^ (y / g - 1) + v)
def lenR (y : Nat) : Rdr Nat := if y = 285 then retR 258 else bindR (furR (y - 257) 4) fun v => retR (3 + v)
noncomputable def distR (lb : List Nat) : Rdr Nat := bindR (symR lb) fun d => if 29 < d then failR 63 else bindR (furR d 2) fun v => retR (1 + v)
def copyN (d : Nat) : Nat → List By → List By
  | 0, out => out
  | n + 1, out => copyN d n (out ++ [out.getD (out.length - d) 0#8])
noncomputable def symbolR (most : Nat) (s : Sx) : Rdr Sx := bindR (symR s.la) fun y =>
  if y < 256 then (if most - s.out.length < 1 then failR 32 else retR { s with out := s.out ++ [BitVec.ofNat 8 y] })
  else if y = 256 then endB s
  else if y ≤ 285 then bindR (lenR y) fun n => bindR (distR s.lb) fun d => if s.out.length < d then failR 64 else if most - s.out.length < n then failR 32 else retR { s with out := copyN d n s.out }
  else failR 63
def ordL : List Nat := [16, 17, 18, 0, 8, 7, 9, 6, 10, 5, 11, 4, 12, 3, 13, 2, 14, 1, 15]
/-- k lengths of three bits, from the place i of the order on. -/
def smallR : Nat → Nat → List Nat → Rdr (List Nat)
  | _, 0, l => retR l
  | i, k + 1, l => bindR (takeR 3) fun v => smallR (i + 1) k (l.set (ordL.getD i 0) v)
def lastL (l : List Nat) : Nat := l.getD (l.length - 1) 0
noncomputable def lensR (sm : List Nat) (N : Nat) : Nat → List Nat → Rdr (List Nat)
  | 0, l => if N < l.length then failR 62 else retR l
  | k + 1, l => if l.length < N then bindR (symR sm) fun y =>
        if y = 16 then (if l.length = 0 then failR 62 else bindR (takeR 2) fun v => lensR sm N k (l ++ List.replicate (3 + v) (lastL l)))
        else if y = 17 then bindR (takeR 3) fun v => lensR sm N k (l ++ List.replicate (3 + v) 0)
        else if y = 18 then bindR (takeR 7) fun v => lensR sm N k (l ++ List.replicate (11 + v) 0)
        else lensR sm N k (l ++ [y])
      else if N < l.length then failR 62 else retR l
def sumL (l : List Nat) : Nat := l.foldr (· + ·) 0
/-- Lengths that a block may have. -/
def Good (ls : List Nat) : Prop := Cod ls ∧ (room ls = 32768 ∨ sumL ls = 1)
open Classical in
noncomputable def ownR : Rdr (List Nat × List Nat) := bindR (takeR 5) fun a => bindR (takeR 5) fun d => bindR (takeR 4) fun n =>
  if 286 < a + 257 ∨ 30 < d + 1 then failR 62 else
  bindR (smallR 0 (n + 4) (List.replicate 19 0)) fun sm => if ¬ (Cod sm ∧ room sm = 32768) then failR 62 else
  bindR (lensR sm (a + 257 + (d + 1)) (a + 257 + (d + 1)) []) fun l =>
  if l.getD 256 0 ≠ 0 ∧ Good (l.take (a + 257)) ∧ (sumL (l.drop (a + 257)) = 0 ∨ Good (l.drop (a + 257))) then retR (l.take (a + 257), l.drop (a + 257)) else failR 62
def fixA : List Nat := List.replicate 144 8 ++ List.replicate 112 9 ++ List.replicate 24 7 ++ List.replicate 8 8
def fixB : List Nat := List.replicate 32 5
noncomputable def headR (most : Nat) (s : Sx) : Rdr Sx := bindR (takeR 1) fun l => bindR (takeR 2) fun k =>
  if k = 0 then storedR most { s with lst := decide (l = 1) }
  else if k = 1 then retR { s with lst := decide (l = 1), md := 2, la := fixA, lb := fixB }
  else if k = 2 then bindR ownR fun c => retR { s with lst := decide (l = 1), md := 2, la := c.1, lb := c.2 }
  else failR 60
noncomputable def stepR (most : Nat) (s : Sx) : Rdr Sx := if s.md = 0 then headR most s else if s.md = 1 then byteR s else if s.md = 2 then symbolR most s else failR 99
/-! All that reads hangs on its bits alone. -/
theorem Loc.endB (s : Sx) : Loc (endB s) := .ite (fun _ => .bind .align fun _ => .ret _) (fun _ => .ret _)
theorem Loc.stored (most : Nat) (s : Sx) : Loc (storedR most s) := .bind .align fun _ => .bind (.take _) fun _ => .bind (.take _) fun _ => .ite (fun _ => .fail _ (by decide)) fun _ => .ite (fun _ => .fail _ (by decide)) fun _ => .ite (fun _ => .endB _) fun _ => .ret _
theorem Loc.byte (s : Sx) : Loc (byteR s) := .bind (.take _) fun _ => .ite (fun _ => .endB _) fun _ => .ret _
theorem Loc.fur (y g : Nat) : Loc (furR y g) := .ite (fun _ => .ret _) fun _ => .bind (.take _) fun _ => .ret _
theorem Loc.len (y : Nat) : Loc (lenR y) := .ite (fun _ => .ret _) fun _ => .bind (.fur _ _) fun _ => .ret _
theorem Loc.dist (lb : List Nat) : Loc (distR lb) := .bind (.sym _) fun _ => .ite (fun _ => .fail _ (by decide)) fun _ => .bind (.fur _ _) fun _ => .ret _
theorem Loc.symbol (most : Nat) (s : Sx) : Loc (symbolR most s) := .bind (.sym _) fun _ => .ite (fun _ => .ite (fun _ => .fail _ (by decide)) fun _ => .ret _) fun _ => .ite (fun _ => .endB _) fun _ => .ite (fun _ => .bind (.len _) fun _ => .bind (.dist _) fun _ => .ite (fun _ => .fail _ (by decide)) fun _ => .ite (fun _ => .fail _ (by decide)) fun _ => .ret _) fun _ => .fail _ (by decide)
theorem Loc.small (i k : Nat) (l : List Nat) : Loc (smallR i k l) := by
  induction k generalizing i l with
  | zero => exact .ret _
  | succ k ih => exact .bind (.take _) fun _ => ih _ _
theorem Loc.lens (sm : List Nat) (N k : Nat) (l : List Nat) : Loc (lensR sm N k l) := by
  induction k generalizing l with
  | zero => exact .ite (fun _ => .fail _ (by decide)) fun _ => .ret _
  | succ k ih => exact .ite (fun _ => .bind (.sym _) fun _ => .ite (fun _ => .ite (fun _ => .fail _ (by decide)) fun _ => .bind (.take _) fun _ => ih _) fun _ => .ite (fun _ => .bind (.take _) fun _ => ih _) fun _ => .ite (fun _ => .bind (.take _) fun _ => ih _) fun _ => ih _) fun _ => .ite (fun _ => .fail _ (by decide)) fun _ => .ret _
open Classical in
theorem Loc.own : Loc ownR := .bind (.take _) fun _ => .bind (.take _) fun _ => .bind (.take _) fun _ => .ite (fun _ => .fail _ (by decide)) fun _ => .bind (.small _ _ _) fun _ => .ite (fun _ => .fail _ (by decide)) fun _ => .bind (.lens _ _ _ _) fun _ => .ite (fun _ => .ret _) fun _ => .fail _ (by decide)
theorem Loc.head (most : Nat) (s : Sx) : Loc (headR most s) := .bind (.take _) fun _ => .bind (.take _) fun _ => .ite (fun _ => .stored _ _) fun _ => .ite (fun _ => .ret _) fun _ => .ite (fun _ => .bind .own fun _ => .ret _) fun _ => .fail _ (by decide)
theorem Loc.step (most : Nat) (s : Sx) : Loc (stepR most s) := .ite (fun _ => .head _ _) fun _ => .ite (fun _ => .byte _) fun _ => .ite (fun _ => .symbol _ _) fun _ => .fail _ (by decide)
/-! What is read becomes less. -/
/-- At least m bits are read. -/
def Dec {α : Type} (m : Nat) (f : Rdr α) : Prop := ∀ t a t', f t = .ok (a, t') → t'.n + m ≤ t.n
theorem bindR_ok {α β : Type} {f : Rdr α} {g : α → Rdr β} {t t' : Bt} {b : β} (h : bindR f g t = .ok (b, t')) : ∃ a t1, f t = .ok (a, t1) ∧ g a t1 = .ok (b, t') := by
  unfold bindR at h
  cases hq : f t with
  | bad e => rw [hq] at h; simp at h
  | ok r => rw [hq] at h; exact ⟨r.1, r.2, rfl, h⟩
theorem bindR_eq {α β : Type} {f : Rdr α} {g : α → Rdr β} {t t1 : Bt} {a : α} (h : f t = .ok (a, t1)) : bindR f g t = g a t1 := by unfold bindR; rw [h]
theorem bindR_bad {α β : Type} {f : Rdr α} {g : α → Rdr β} {t : Bt} {e : Nat} (h : f t = .bad e) : bindR f g t = .bad e := by unfold bindR; rw [h]
theorem Dec.bind {α β : Type} {f : Rdr α} {g : α → Rdr β} {m k : Nat} (hf : Dec m f) (hg : ∀ a, Dec k (g a)) : Dec (m + k) (bindR f g) := fun t b t' h => by
  obtain ⟨a, t1, h1, h2⟩ := bindR_ok h
  have := hf _ _ _ h1
  have := hg _ _ _ _ h2
  omega
theorem Dec.ite {α : Type} {c : Prop} [Decidable c] {f g : Rdr α} {m : Nat} (hf : c → Dec m f) (hg : ¬ c → Dec m g) : Dec m (if c then f else g) := by
  by_cases h : c
  · rw [if_pos h]; exact hf h
  · rw [if_neg h]; exact hg h
theorem Dec.ret {α : Type} (a : α) : Dec 0 (retR a) := fun t b t' h => by
  simp only [retR, Rz.ok.injEq, Prod.mk.injEq] at h
  rw [h.2]; omega
theorem Dec.fail {α : Type} (e m : Nat) : Dec m (failR e : Rdr α) := fun t b t' h => by simp [failR] at h
theorem Dec.take (k : Nat) : Dec k (takeR k) := fun t b t' h => by
  unfold takeR at h
  by_cases hn : t.n < k
  · rw [if_pos hn] at h; simp at h
  · rw [if_neg hn] at h
    simp only [Rz.ok.injEq, Prod.mk.injEq] at h
    rw [← h.2]; simp only; omega
theorem Dec.sym (ls : List Nat) : Dec 1 (symR ls) := fun t b t' h => by
  by_cases hx : Cod ls ∧ ∃ i, Hits ls (rev 15 t.x) i
  · obtain ⟨hk, i, hi⟩ := hx
    rw [symR_hit hk hi] at h
    by_cases hn : t.n < ls.getD i 0
    · rw [if_pos hn] at h; simp at h
    · rw [if_neg hn] at h
      simp only [Rz.ok.injEq, Prod.mk.injEq] at h
      have := hi.2.1
      rw [← h.2]; simp only; omega
  · rw [symR_none (fun i hk hi => hx ⟨hk, i, hi⟩)] at h; simp at h
theorem Dec.mono {α : Type} {f : Rdr α} {m k : Nat} (h : Dec m f) (hk : k ≤ m) : Dec k f := fun t a t' e => by have := h t a t' e; omega
theorem Dec.align : Dec 0 alignR := fun t b t' h => by
  simp only [alignR, Rz.ok.injEq, Prod.mk.injEq] at h
  rw [← h.2]; simp
theorem Dec.endB (s : Sx) : Dec 0 (endB s) := .ite (fun _ => .bind .align fun _ => .ret _) (fun _ => .ret _)
theorem Dec.stored (most : Nat) (s : Sx) : Dec 0 (storedR most s) := (Dec.bind (k := 32) .align fun _ => Dec.bind (m := 16) (k := 16) (.take _) fun _ => Dec.bind (m := 16) (k := 0) (.take _) fun _ => .ite (fun _ => .fail _ _) fun _ => .ite (fun _ => .fail _ _) fun _ => .ite (fun _ => .endB _) fun _ => .ret _).mono (by omega)
theorem Dec.byte (s : Sx) : Dec 8 (byteR s) := .bind (k := 0) (.take _) fun _ => .ite (fun _ => .endB _) fun _ => .ret _
theorem Dec.fur (y g : Nat) : Dec 0 (furR y g) := .ite (fun _ => .ret _) fun _ => (Dec.bind (k := 0) (.take _) fun _ => .ret _).mono (by omega)
theorem Dec.len (y : Nat) : Dec 0 (lenR y) := .ite (fun _ => .ret _) fun _ => .bind (.fur _ _) fun _ => .ret _
theorem Dec.dist (lb : List Nat) : Dec 1 (distR lb) := .bind (k := 0) (.sym _) fun _ => .ite (fun _ => .fail _ _) fun _ => .bind (.fur _ _) fun _ => .ret _
theorem Dec.small (i k : Nat) (l : List Nat) : Dec 0 (smallR i k l) := by
  induction k generalizing i l with
  | zero => exact .ret _
  | succ k ih => exact (Dec.bind (k := 0) (.take _) fun _ => ih _ _).mono (by omega)
theorem Dec.lens (sm : List Nat) (N k : Nat) (l : List Nat) : Dec 0 (lensR sm N k l) := by
  induction k generalizing l with
  | zero => exact .ite (fun _ => .fail _ _) fun _ => .ret _
  | succ k ih => exact .ite (fun _ => (Dec.bind (k := 0) (.sym _) fun _ => .ite (fun _ => .ite (fun _ => .fail _ _) fun _ => (Dec.bind (k := 0) (.take _) fun _ => ih _).mono (by omega)) fun _ => .ite (fun _ => (Dec.bind (k := 0) (.take _) fun _ => ih _).mono (by omega)) fun _ => .ite (fun _ => (Dec.bind (k := 0) (.take _) fun _ => ih _).mono (by omega)) fun _ => ih _).mono (by omega)) fun _ => .ite (fun _ => .fail _ _) fun _ => .ret _
open Classical in
theorem Dec.own : Dec 0 ownR := (Dec.bind (k := 0) (.take _) fun _ => (Dec.bind (k := 0) (.take _) fun _ => (Dec.bind (k := 0) (.take _) fun _ => .ite (fun _ => .fail _ _) fun _ => .bind (.small _ _ _) fun _ => .ite (fun _ => .fail _ _) fun _ => .bind (.lens _ _ _ _) fun _ => .ite (fun _ => .ret _) fun _ => .fail _ _).mono (by omega)).mono (by omega)).mono (by omega)
theorem Dec.head (most : Nat) (s : Sx) : Dec 3 (headR most s) := .bind (m := 1) (k := 2) (.take _) fun _ => .bind (m := 2) (k := 0) (.take _) fun _ => .ite (fun _ => .stored _ _) fun _ => .ite (fun _ => .ret _) fun _ => .ite (fun _ => .bind .own fun _ => .ret _) fun _ => .fail _ _
theorem Dec.symbol (most : Nat) (s : Sx) : Dec 1 (symbolR most s) := .bind (k := 0) (.sym _) fun _ => .ite (fun _ => .ite (fun _ => .fail _ _) fun _ => .ret _) fun _ => .ite (fun _ => .endB _) fun _ => .ite (fun _ => Dec.bind (m := 0) (k := 0) (.len _) fun _ => (Dec.bind (m := 1) (k := 0) (.dist _) fun _ => .ite (fun _ => .fail _ _) fun _ => .ite (fun _ => .fail _ _) fun _ => .ret _).mono (by omega)) fun _ => .fail _ _
theorem Dec.step (most : Nat) (s : Sx) : Dec 1 (stepR most s) := .ite (fun _ => (Dec.head _ _).mono (by omega)) fun _ => .ite (fun _ => (Dec.byte _).mono (by omega)) fun _ => .ite (fun _ => .symbol _ _) fun _ => .fail _ _
/-- All steps up to the end or the first error. -/
noncomputable def run (most : Nat) (s : Sx) (t : Bt) : Sx × Bt × Nat :=
  if s.md = 3 then (s, t, 0) else match h : stepR most s t with
    | .bad e => (s, t, e)
    | .ok r => run most r.1 r.2
termination_by t.n
decreasing_by have := Dec.step most s t r.1 r.2 h; omega
theorem run_eq (most : Nat) (s : Sx) (t : Bt) : run most s t = if s.md = 3 then (s, t, 0) else match stepR most s t with
    | .bad e => (s, t, e)
    | .ok r => run most r.1 r.2 := by
  rw [run]
  split
  · rfl
  · split <;> simp_all
theorem run_end {most : Nat} {s : Sx} {t : Bt} (h : s.md = 3) : run most s t = (s, t, 0) := by rw [run_eq, if_pos h]
theorem run_bad {most : Nat} {s : Sx} {t : Bt} {e : Nat} (h : s.md ≠ 3) (hs : stepR most s t = .bad e) : run most s t = (s, t, e) := by rw [run_eq, if_neg h, hs]
theorem run_ok {most : Nat} {s s' : Sx} {t t' : Bt} (h : s.md ≠ 3) (hs : stepR most s t = .ok (s', t')) : run most s t = run most s' t' := by rw [run_eq, if_neg h, hs]
/-- What a run does: by steps. -/
theorem run_ind {most : Nat} {P : Sx → Bt → Sx × Bt × Nat → Prop} (h1 : ∀ s t, s.md = 3 → P s t (s, t, 0)) (h2 : ∀ s t e, s.md ≠ 3 → stepR most s t = .bad e → P s t (s, t, e)) (h3 : ∀ s t s' t', s.md ≠ 3 → stepR most s t = .ok (s', t') → P s' t' (run most s' t') → P s t (run most s t)) (s : Sx) (t : Bt) : P s t (run most s t) := by
  obtain ⟨n, hn⟩ : ∃ n, n = t.n := ⟨_, rfl⟩
  induction n using Nat.strongRecOn generalizing s t with
  | ind n ih =>
    by_cases hm : s.md = 3
    · rw [run_end hm]; exact h1 s t hm
    · cases hq : stepR most s t with
      | bad e => rw [run_bad hm hq]; exact h2 s t e hm hq
      | ok r =>
        obtain ⟨s', t'⟩ := r
        have := Dec.step most s t s' t' hq
        exact h3 s t s' t' hm hq (ih t'.n (by omega) s' t' rfl)
end Go.Proofs.YtpjnbhflnbhnoaaGreatDoor

namespace Go.Proofs.YtpjnbhflnbhnoaaGreatDoor
open Go.RowKit
set_option linter.unusedVariables false
theorem cod_1 : Cod [1] := ⟨fun i => by rcases i with _ | i <;> simp, by decide, by decide, by decide⟩
theorem cod_11 : Cod [1, 1] := ⟨fun i => by rcases i with _ | _ | i <;> simp, by decide, by decide, by decide⟩
/-- A copy of a list of numbers. -/
theorem ints_copy (w : World) (v : Value) (zs : List Int) (h : SlR RI (fun _ => False) v zs w) (hl : zs.length ≤ 17592186043904) :
    ∃ g c W, Hid (∀ ty, (Builtin.append_ #[124, 124] ty #[.slice (some ⟨w.heap.size, 0, none⟩) 0 0, v]).run Tryz.prog (w.alloc (.cells #[] 3)) = .ok (.slice (some ⟨g, 0, none⟩) zs.length c) W) ∧ OwR RI g (.slice (some ⟨g, 0, none⟩) zs.length c) zs W ∧ Nw w W ∧ w.heap.size ≤ g := by
  have hN : Nw w (w.alloc (.cells #[] 3)) := (Fr.refl _ _).alloc _
  obtain ⟨v', g', W, k1, k2, k3, k4⟩ := owR_app riOk _ _ _ _ (OwR.empty (R := RI) w) v zs (h.nw hN) (by simp [RI]; omega) (by simp; omega)
  rw [List.nil_append] at k2
  obtain ⟨c', e, _, _⟩ := k2.form
  subst e
  refine ⟨g', c', W, k1, k2, Fr.then hN k3 (fun i hi => .inr (by omega)), ?_⟩
  rcases k4 with e | e
  · omega
  · have e2 : (w.alloc (.cells #[] RI.T)).heap.size = w.heap.size + 1 := by simp
    omega
theorem OwR.low {g : Nat} {v : Value} {l : List Int} {w : World} (h : OwR RI g v l w) : SlR RI (fun k => w.heap.size ≤ k) v l w := (h.slr riOk).mono (fun k hk => by have := h.lt; omega)
/-- A code of lengths that stand in the text. -/
theorem newCode_lit (w : World) (ls : List Nat) (hk : Cod ls) (cs : Array Value) (hc : cs = (flatR RI (toI ls)).toArray) (n : Nat) (hn : n = ls.length) : Calls Tryz.prog 118 #[.slice (some ⟨w.heap.size, 0, none⟩) n n] (w.alloc (.cells cs 3)) fun e w' => ∃ cb gw gs ws ss, e = .returned (.tuple #[.pointer (some ⟨cb, 0, none⟩), .int .i64 0]) ∧ CodeI cb gw gs ls ws ss w' ∧ Nw w w' := by
  have hb := OwR.built riOk w (toI ls) cs hc (by rw [toI_length]; have := hk.len; omega)
  rw [toI_length] at hb
  subst hn
  refine (newCode_yes _ _ ls hb.low hk).mono ?_
  rintro e w' ⟨cb, gw, gs, ws, ss, rfl, h1, h2, _⟩
  exact ⟨cb, gw, gs, ws, ss, rfl, h1, ((Fr.refl _ _).alloc _ : Nw w _).trans h2⟩
end Go.Proofs.YtpjnbhflnbhnoaaGreatDoor

namespace Go.Proofs.YtpjnbhflnbhnoaaGreatDoor
open Go.RowKit
set_option linter.unusedVariables false
/-- The bits of b from p on. -/
def bt (b : List By) (p : Nat) : Bt := ⟨8 * b.length - p, le b / 2 ^ p⟩
theorem bt_ok (b : List By) (p : Nat) : (bt b p).Ok := by
  have h := le_lt b
  rw [pow256] at h
  unfold Bt.Ok bt
  simp only
  by_cases hp : p ≤ 8 * b.length
  · rw [Nat.div_lt_iff_lt_mul (Nat.pow_pos (by decide)), ← Nat.pow_add, show 8 * b.length - p + p = 8 * b.length by omega]; exact h
  · rw [Nat.div_eq_of_lt (Nat.lt_of_lt_of_le h (Nat.pow_le_pow_right (by decide) (by omega)))]
    exact Nat.pow_pos (by decide)
theorem bt_x (b : List By) (p : Nat) : (bt b p).x = le b / 2 ^ p := rfl
theorem bt_n (b : List By) (p : Nat) : (bt b p).n = 8 * b.length - p := rfl
theorem bt_rest (b : List By) (p k : Nat) : (⟨(bt b p).n - k, (bt b p).x / 2 ^ k⟩ : Bt) = bt b (p + k) := by
  unfold bt
  simp only [Bt.mk.injEq]
  exact ⟨by omega, by rw [Nat.div_div_eq_div_mul, Nat.pow_add]⟩
/-- What a step gives up with. -/
abbrev gv (y : Nat) : Ending := .panicked [{ v := .iface 27 (.int .i64 y), recovered := false }]
theorem giveUp_any (y : Nat) (w : World) : Calls Tryz.prog 186 #[.int .i64 y] w fun e w' => e = gv y ∧ w' = w := by
  unfold gv
  go_enter Tryz.func186, Tryz.ntmps186
  go_wp2
  exact ⟨rfl, rfl, rfl⟩
/-- A stream that reads: its reader, b from p on. -/
structure Lt (sb rb : Nat) (X : Nat → Prop) (v : Value) (b : List By) (p : Nat) (w : World) : Prop where
  c0 : w.cell? ⟨sb, 0, none⟩ = some (.pointer (some ⟨rb, 0, none⟩))
  ne : sb ≠ rb
  rr : Rr 181 X rb v b p w
  pl : p ≤ 8 * b.length
variable {sb rb : Nat} {X : Nat → Prop} {v : Value} {b : List By} {p : Nat} {w : World}
theorem Lt.nw {w' : World} (h : Lt sb rb X v b p w) (f : Nw w w') : Lt sb rb X v b p w' := ⟨f.cell h.c0, h.ne, h.rr.nw f, h.pl⟩
/-- Only the reader has turned. -/
theorem Lt.go {p' : Nat} {w' : World} (h : Lt sb rb X v b p w) (hr : Rr 181 X rb v b p' w') (f : Fr (fun k => k = rb) w w') (hp : p' ≤ 8 * b.length) : Lt sb rb X v b p' w' := ⟨f.cellv h.c0 h.ne, h.ne, hr, hp⟩
/-- What a reading of a number answers. -/
def Ri (sb rb : Nat) (X : Nat → Prop) (v : Value) (b : List By) (w : World) (r : Rz (Nat × Bt)) (e : Ending) (w' : World) : Prop :=
  (∃ y, r = .bad y ∧ e = gv y ∧ Fr (fun k => k = rb) w w') ∨ (∃ x p', r = .ok (x, bt b p') ∧ e = .returned (.int .i64 (x : Nat)) ∧ Lt sb rb X v b p' w' ∧ Fr (fun k => k = rb) w w')
theorem Ri.isBad {r : Rz (Nat × Bt)} {e : Ending} {w' : World} {y : Nat} (h : Ri sb rb X v b w r e w') (hr : r = .bad y) : e = gv y ∧ Fr (fun k => k = rb) w w' := by
  rcases h with ⟨y', h1, h2⟩ | ⟨x, p', h1, h2⟩
  · rw [hr] at h1; injection h1 with h1; subst h1; exact h2
  · rw [hr] at h1; cases h1
theorem Ri.isOk {r : Rz (Nat × Bt)} {e : Ending} {w' : World} {x : Nat} {t : Bt} (h : Ri sb rb X v b w r e w') (hr : r = .ok (x, t)) : ∃ p', t = bt b p' ∧ e = .returned (.int .i64 (x : Nat)) ∧ Lt sb rb X v b p' w' ∧ Fr (fun k => k = rb) w w' := by
  rcases h with ⟨y', h1, h2⟩ | ⟨x', p', h1, h2⟩
  · rw [hr] at h1; cases h1
  · rw [hr] at h1
    injection h1 with h1
    injection h1 with h1 h3
    subst h1
    exact ⟨p', h3, h2⟩
theorem Ri.later {V : World} {r : Rz (Nat × Bt)} {e : Ending} {w' : World} (h : Ri sb rb X v b V r e w') (k : Fr (fun k => k = rb) w V) : Ri sb rb X v b w r e w' := by
  rcases h with ⟨y', h1, h2, h3⟩ | ⟨x', p', h1, h2, h3, h4⟩
  · exact .inl ⟨y', h1, h2, k.trans h3⟩
  · exact .inr ⟨x', p', h1, h2, h3, k.trans h4⟩
set_option maxHeartbeats 8000000 in
theorem jnumber_any (h : Lt sb rb X v b p w) (n : Nat) (hn : n ≤ 32) (z : Int) (hz : z = n) : Calls Tryz.prog 182 #[.pointer (some ⟨sb, 0, none⟩), .int .i64 z] w (Ri sb rb X v b w (takeR n (bt b p))) := by
  subst hz
  obtain ⟨P, hP⟩ : ∃ P : Ending → World → Prop, P = Ri sb rb X v b w (takeR n (bt b p)) := ⟨_, rfl⟩
  rw [← hP]
  have hT := btake_any h.rr h.pl n
  have hc := h.c0
  by_cases hs : 8 * b.length - p < n
  · have hq : takeR n (bt b p) = .bad 4 := by unfold takeR bt; rw [if_pos hs]
    have hF : takeF (8 * b.length) (le b) p n = (0, 50, p) := by rw [takeF, if_neg (by omega), if_pos (by omega)]
    rw [hF] at hT
    have HT : Hid (Calls Tryz.prog 87 #[.pointer (some ⟨rb, 0, none⟩), .int .i64 n] w fun e w' => e = .returned (.tuple #[.int .u32 0, .int .i64 50]) ∧ Hid (P (gv 4) w')) := hT.mono (fun e w' ⟨h1, h2, h3⟩ => ⟨h1, by
      show P _ _
      rw [hP, hq]; exact .inl ⟨4, rfl, rfl, h3⟩⟩)
    have HG : Hid (∀ V, Calls Tryz.prog 186 #[.int .i64 4] V fun e w' => e = gv 4 ∧ w' = V) := fun V => giveUp_any 4 V
    clear hP hT h hF hq
    go_enter Tryz.func182, Tryz.ntmps182
    go_wp2_with (first | (go_at_call 87; (with_reducible refine HT.out.mono ?_); rintro e w1 ⟨rfl, HF⟩) | (go_at_call 186; (with_reducible refine (HG.out _).mono ?_); rintro e w2 ⟨rfl, rfl⟩))
    exact ⟨rfl, HF.out⟩
  · obtain ⟨x, hx⟩ : ∃ x, x = le b / 2 ^ p % 2 ^ n := ⟨_, rfl⟩
    have hq : takeR n (bt b p) = .ok (x, bt b (p + n)) := by
      rw [← bt_rest, hx]; unfold takeR; rw [if_neg (by unfold bt; exact hs)]; rfl
    have hF : takeF (8 * b.length) (le b) p n = (x, 0, p + n) := by rw [takeF, if_neg (by omega), if_neg (by omega), Int.toNat_natCast, hx]
    rw [hF] at hT
    have HT : Hid (Calls Tryz.prog 87 #[.pointer (some ⟨rb, 0, none⟩), .int .i64 n] w fun e w' => e = .returned (.tuple #[.int .u32 x, .int .i64 0]) ∧ Hid (P (.returned (.int .i64 x)) w')) := hT.mono (fun e w' ⟨h1, h2, h3⟩ => ⟨h1, by
      show P _ _
      rw [hP, hq]; exact .inr ⟨x, p + n, rfl, rfl, h.go h2 h3 (by have := h.pl; omega), h3⟩⟩)
    have hxl : x < 4294967296 := by
      rw [hx]
      exact Nat.lt_of_lt_of_le (Nat.mod_lt _ (Nat.pow_pos (by decide))) (Nat.pow_le_pow_right (n := 2) (by decide) hn)
    clear hP hT h hF hq hx
    go_enter Tryz.func182, Tryz.ntmps182
    go_wp2_with (first | (go_at_call 87; (with_reducible refine HT.out.mono ?_); rintro e w1 ⟨rfl, HF⟩))
    exact HF.out
/-- A code that a block has: none, where no symbol has a word. -/
def CodV (C : Nat → Prop) (u : Value) (ls : List Nat) (w : World) : Prop := (u = .pointer none ∧ sumL ls = 0) ∨ ∃ cb gw gs ws ss, u = .pointer (some ⟨cb, 0, none⟩) ∧ CodeI cb gw gs ls ws ss w ∧ Cod ls ∧ C cb ∧ C gw ∧ C gs
theorem CodV.kept {C Y : Nat → Prop} {u : Value} {ls : List Nat} {w w' : World} (h : CodV C u ls w) (f : Fr Y w w') (hy : ∀ k, C k → ¬ Y k) : CodV C u ls w' := by
  rcases h with h | ⟨cb, gw, gs, ws, ss, h1, h2, h3, h4, h5, h6⟩
  · exact .inl h
  · exact .inr ⟨cb, gw, gs, ws, ss, h1, h2.kept f (hy _ h4) (hy _ h5) (hy _ h6), h3, h4, h5, h6⟩
theorem CodV.mono {C D : Nat → Prop} {u : Value} {ls : List Nat} {w : World} (h : CodV C u ls w) (hy : ∀ k, C k → D k) : CodV D u ls w := by
  rcases h with h | ⟨cb, gw, gs, ws, ss, h1, h2, h3, h4, h5, h6⟩
  · exact .inl h
  · exact .inr ⟨cb, gw, gs, ws, ss, h1, h2, h3, hy _ h4, hy _ h5, hy _ h6⟩
theorem sumL_at (ls : List Nat) (i : Nat) : ls.getD i 0 ≤ sumL ls := by
  induction ls generalizing i with
  | nil => simp
  | cons x r ih =>
    have e : sumL (x :: r) = x + sumL r := rfl
    rw [e]
    cases i with
    | zero => simp
    | succ i => have := ih i; simp only [List.getD_cons_succ]; omega
set_option maxHeartbeats 8000000 in
theorem jword_any {C : Nat → Prop} {u : Value} {ls : List Nat} (h : Lt sb rb X v b p w) (hc : CodV C u ls w) (hr : ¬ C rb) : Calls Tryz.prog 190 #[.pointer (some ⟨sb, 0, none⟩), u] w (Ri sb rb X v b w (symR ls (bt b p))) := by
  obtain ⟨P, hP⟩ : ∃ P : Ending → World → Prop, P = Ri sb rb X v b w (symR ls (bt b p)) := ⟨_, rfl⟩
  rw [← hP]
  have HG : Hid (∀ V y, Calls Tryz.prog 186 #[.int .i64 (y : Nat)] V fun e w' => e = gv y ∧ w' = V) := fun V y => giveUp_any y V
  have HG63 : Hid (∀ V, Calls Tryz.prog 186 #[.int .i64 63] V fun e w' => e = gv 63 ∧ w' = V) := fun V => giveUp_any 63 V
  have HG4 : Hid (∀ V, Calls Tryz.prog 186 #[.int .i64 4] V fun e w' => e = gv 4 ∧ w' = V) := fun V => giveUp_any 4 V
  rcases hc with ⟨rfl, hs⟩ | ⟨cb, gw, gs, ws, ss, rfl, hC, hk, h1, h2, h3⟩
  · have hq : symR ls (bt b p) = .bad 63 := symR_none (fun i hk hi => by have := sumL_at ls i; have := hi.2.1; omega)
    have HF : Hid (P (gv 63) w) := by
      show P _ _
      rw [hP, hq]; exact .inl ⟨63, rfl, rfl, Fr.refl _ _⟩
    have hnil : ∀ w, (binOp BinOp.eql 89 (.pointer none) (.pointer none)).run Tryz.prog w = .ok (.bool true) w := fun _ => by kernel_rfl
    clear hP h hq HG
    go_enter Tryz.func190, Tryz.ntmps190
    go_wp2_with (first | (go_at_call 186; (with_reducible refine (HG63.out _).mono ?_); rintro e w2 ⟨rfl, rfl⟩))
    exact ⟨rfl, HF.out⟩
  · have hR := read_any hC hk h.rr h.pl (fun e => hr (by rw [e]; exact h1)) (fun e => hr (by rw [e]; exact h2)) (fun e => hr (by rw [e]; exact h3))
    have hc0 := h.c0
    have hnil : ∀ w, (binOp BinOp.eql 89 (.pointer (some ⟨cb, 0, none⟩)) (.pointer none)).run Tryz.prog w = .ok (.bool false) w := fun _ => by kernel_rfl
    have HC : Hid (Calls Tryz.prog 207 #[.pointer (some ⟨cb, 0, none⟩), .pointer (some ⟨rb, 0, none⟩)] w fun e w' => (∃ i : Nat, e = .returned (.tuple #[.int .i64 i, .int .i64 0]) ∧ Hid (P (.returned (.int .i64 i)) w')) ∨ (e = .returned (.tuple #[.int .i64 0, .int .i64 50]) ∧ Hid (P (gv 4) w')) ∨ (e = .returned (.tuple #[.int .i64 0, .int .i64 52]) ∧ Hid (P (gv 63) w'))) := hR.mono (fun e w' hh => by
      rcases hh with ⟨i, a1, a2, a3, a4, a5⟩ | ⟨i, a1, a2, a3, a4⟩ | ⟨a1, a2, a3⟩
      · refine .inl ⟨i, a3, ?_⟩
        show P _ _
        rw [hP]
        refine .inr ⟨i, p + ls.getD i 0, ?_, rfl, h.go a4 a5 (by have := h.pl; omega), a5⟩
        rw [← bt_x] at a1
        rw [symR_hit hk a1, if_neg (by rw [bt_n]; omega), bt_rest]
      · refine .inr (.inl ⟨a3, ?_⟩)
        show P _ _
        rw [hP]
        refine .inl ⟨4, ?_, rfl, a4.any⟩
        rw [← bt_x] at a1
        rw [symR_hit hk a1, if_pos (by rw [bt_n]; exact a2)]
      · refine .inr (.inr ⟨a2, ?_⟩)
        show P _ _
        rw [hP]
        rw [← bt_x] at a1
        exact .inl ⟨63, symR_none (fun i _ hi => a1.none hk i hi), rfl, a3.any⟩)
    clear hP h hR hC hk HG
    go_enter Tryz.func190, Tryz.ntmps190
    go_wp2_with fail
    go_at_call 207
    with_reducible refine HC.out.mono ?_
    rintro e w1 (⟨i, rfl, HF⟩ | ⟨rfl, HF⟩ | ⟨rfl, HF⟩)
    · go_wp2_with fail
      exact HF.out
    · go_wp2_with (first | (go_at_call 186; (with_reducible refine (HG4.out _).mono ?_); rintro e w2 ⟨rfl, rfl⟩))
      exact ⟨rfl, HF.out⟩
    · go_wp2_with (first | (go_at_call 186; (with_reducible refine (HG63.out _).mono ?_); rintro e w2 ⟨rfl, rfl⟩))
      exact ⟨rfl, HF.out⟩
end Go.Proofs.YtpjnbhflnbhnoaaGreatDoor

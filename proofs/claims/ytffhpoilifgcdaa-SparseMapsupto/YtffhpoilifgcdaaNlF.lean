import Derived.Test.YtffhpoilifgcdaaNlE
import Derived.Laws.EntriesVeiled
namespace Go.Proofs.Ytffhpoilifgcdaa
open Go.RowKit
set_option linter.unusedVariables false
/-- A list of ranges that a call made. -/
def NewG (w : World) (v : Value) (l : List Rg) (V : World) : Prop := ∃ og, OgR RG og v l V ∧ ∀ g, og = some g → w.heap.size ≤ g
theorem NewG.nw {w : World} {v : Value} {l : List Rg} {V V' : World} (h : NewG w v l V) (f : Nw V V') : NewG w v l V' := by
  obtain ⟨og, h1, h2⟩ := h
  exact ⟨og, h1.nw f, h2⟩
theorem NewG.slr {w : World} {v : Value} {l : List Rg} {V : World} (h : NewG w v l V) : SlR RG (fun _ => False) v l V := by
  obtain ⟨og, h1, h2⟩ := h
  exact (h1.slr rgOk).anyG
/-- What Find answers. -/
def FdA (w : World) (b : List By) (n : Nat) (e : Ending) (V : World) : Prop := ∃ a m c l, e = .returned (.slice a m c) ∧ Hid (Nw w V ∧ Fnd b n l ∧ l.length = m ∧ NewG w (.slice a m c) (rgL l) V)
theorem FM.start (w : World) (z : Int) : FM w w.heap.size (w.heap.size + 1) (w.heap.size + 2) (w.heap.size + 3) z [] 0 ((((w.alloc (.cells #[.int .i64 z] 3)).alloc (.cells #[.slice none 0 0] 23)).alloc (.cells #[.int .i64 0] 3)).alloc (.cells #[.func (.func 20) #[] #[.pointer (some ⟨w.heap.size + 2, 0, none⟩), .pointer (some ⟨w.heap.size + 1, 0, none⟩)]] 43)) := by
  refine ⟨(((Fr.refl _ _).alloc _).alloc _).alloc _ |>.alloc _, Nat.le_refl _, by omega, by omega, by omega, ?_, ?_, ?_, none, .slice none 0 0, ?_, ⟨rfl, rfl⟩, fun g h => by cases h⟩
  · have h0 := nHeap w (.cells #[.int .i64 z] 3)
    have f : Nw (w.alloc (.cells #[.int .i64 z] 3)) ((((w.alloc (.cells #[.int .i64 z] 3)).alloc (.cells #[.slice none 0 0] 23)).alloc (.cells #[.int .i64 0] 3)).alloc (.cells #[.func (.func 20) #[] #[.pointer (some ⟨w.heap.size + 2, 0, none⟩), .pointer (some ⟨w.heap.size + 1, 0, none⟩)]] 43)) := ((Fr.refl _ _).alloc _).alloc _ |>.alloc _
    exact f.heap h0
  · have h0 := nHeap ((w.alloc (.cells #[.int .i64 z] 3)).alloc (.cells #[.slice none 0 0] 23)) (.cells #[.int .i64 0] 3)
    have e : ((w.alloc (.cells #[.int .i64 z] 3)).alloc (.cells #[.slice none 0 0] 23)).heap.size = w.heap.size + 2 := by simp
    rw [e] at h0
    have f : Nw (((w.alloc (.cells #[.int .i64 z] 3)).alloc (.cells #[.slice none 0 0] 23)).alloc (.cells #[.int .i64 0] 3)) ((((w.alloc (.cells #[.int .i64 z] 3)).alloc (.cells #[.slice none 0 0] 23)).alloc (.cells #[.int .i64 0] 3)).alloc (.cells #[.func (.func 20) #[] #[.pointer (some ⟨w.heap.size + 2, 0, none⟩), .pointer (some ⟨w.heap.size + 1, 0, none⟩)]] 43)) := (Fr.refl _ _).alloc _
    exact f.heap h0
  · have h0 := nHeap (((w.alloc (.cells #[.int .i64 z] 3)).alloc (.cells #[.slice none 0 0] 23)).alloc (.cells #[.int .i64 0] 3)) (.cells #[.func (.func 20) #[] #[.pointer (some ⟨w.heap.size + 2, 0, none⟩), .pointer (some ⟨w.heap.size + 1, 0, none⟩)]] 43)
    have e : (((w.alloc (.cells #[.int .i64 z] 3)).alloc (.cells #[.slice none 0 0] 23)).alloc (.cells #[.int .i64 0] 3)).heap.size = w.heap.size + 3 := by simp
    rw [e] at h0
    exact h0
  · have h0 := nHeap (w.alloc (.cells #[.int .i64 z] 3)) (.cells #[.slice none 0 0] 23)
    have e : (w.alloc (.cells #[.int .i64 z] 3)).heap.size = w.heap.size + 1 := by simp
    rw [e] at h0
    have f : Nw ((w.alloc (.cells #[.int .i64 z] 3)).alloc (.cells #[.slice none 0 0] 23)) ((((w.alloc (.cells #[.int .i64 z] 3)).alloc (.cells #[.slice none 0 0] 23)).alloc (.cells #[.int .i64 0] 3)).alloc (.cells #[.func (.func 20) #[] #[.pointer (some ⟨w.heap.size + 2, 0, none⟩), .pointer (some ⟨w.heap.size + 1, 0, none⟩)]] 43)) := ((Fr.refl _ _).alloc _).alloc _
    exact f.heap h0
set_option maxHeartbeats 4000000 in
set_option maxRecDepth 100000 in
theorem find_any {X : Nat → Prop} (w : World) (z : Int) (hz : -9223372036854775808 ≤ z ∧ z ≤ 9223372036854775807) (a : Option Addr) (n c : Nat) (b : List By) (hb : Sl X (.slice a n c) b w) (hn : n ≤ 1000000000) :
    Calls Try.prog 7 #[.slice a n c, .int .i64 z] w (FdA w b (max z 1).toNat) := by
  obtain ⟨P, hP⟩ : ∃ P : Ending → World → Prop, P = FdA w b (max z 1).toNat := ⟨_, rfl⟩
  rw [← hP]
  obtain ⟨hbn, k1, k2⟩ := slx_len hb
  have H0 := FM.start w z
  obtain ⟨B1, hB1⟩ : ∃ B1, w.heap.size + 1 = B1 := ⟨_, rfl⟩
  obtain ⟨B2, hB2⟩ : ∃ B2, B1 + 1 = B2 := ⟨_, rfl⟩
  obtain ⟨B3, hB3⟩ : ∃ B3, B2 + 1 = B3 := ⟨_, rfl⟩
  rw [show w.heap.size + 3 = B3 by omega, show w.heap.size + 2 = B2 by omega, hB1] at H0
  obtain ⟨W4, hW4⟩ : ∃ W4, (((w.alloc (.cells #[.int .i64 z] 3)).alloc (.cells #[.slice none 0 0] 23)).alloc (.cells #[.int .i64 0] 3)).alloc (.cells #[.func (.func 20) #[] #[.pointer (some ⟨B2, 0, none⟩), .pointer (some ⟨B1, 0, none⟩)]] 43) = W4 := ⟨_, rfl⟩
  rw [hW4] at H0
  have hB0 : w.heap.size ≤ B3 := by omega
  obtain ⟨B0, hB0'⟩ : ∃ B0, w.heap.size = B0 := ⟨_, rfl⟩
  have HC := tHid (runs_any w _ _ _ _ z hz a n c b hb hn W4 H0)
  have HCC : Hid (∀ l d V, FM w w.heap.size B1 B2 B3 z l d V → l.length ≤ 1000000000 → Calls Try.prog 20 #[.int .i64 n, .int .i64 n, .pointer (some ⟨B2, 0, none⟩), .pointer (some ⟨B1, 0, none⟩)] V fun e V' => (∃ r, e = .returned r) ∧ FM w w.heap.size B1 B2 B3 z (cutS l d n n) n V') := fun l d V h1 h2 => cut_any w _ _ _ _ z l d V h1 h2 n n
  have HF : Hid (∀ l d V, TI b (max z 1).toNat n l d → FM w w.heap.size B1 B2 B3 z (cutS l d n n) n V → ∃ a m c, V.cell? ⟨B1, 0, none⟩ = some (.slice a m c) ∧ P (.returned (.slice a m c)) V) := fun l d V h1 h2 => by
    obtain ⟨og, v', q1, q2, q3⟩ := h2.c1
    obtain ⟨a', c', rfl, _, _⟩ := q2.form
    refine ⟨_, _, _, (one_cell q1).1, ?_⟩
    rw [hP]
    rw [← hbn] at h1
    have hf := h1.fin
    rw [hbn] at hf
    exact ⟨a', _, c', _, rfl, h2.nw, hf, (rgL_len _).symm, og, q2, fun g hg => by have := q3 g hg; omega⟩
  have HL : Hid (∀ l d, TI b (max z 1).toNat n l d → l.length ≤ 1000000000) := fun l d h => by have := h.len; omega
  rw [hbn] at HC
  clear hP hb hbn hz H0 hB0
  generalize (max z 1).toNat = N at *
  have HB1 := tHid hB1
  have HB2 := tHid hB2
  have HB3 := tHid hB3
  have HW4 := tHid hW4
  rw [hB0'] at HC HCC HF
  have HB0 := tHid hB0'
  clear hB1 hB2 hB3 hW4 hB0'
  go_enter Try.func7, Try.ntmps7
  go_upto_region 4 with fail
  rw [HB1.out, HB2.out, HB3.out, HW4.out, HB0.out]
  go_upto_region 5 with (first
    | (go_at_call 21; with_reducible refine HC.out.mono ?_; rintro e w1 ⟨⟨r, rfl⟩, l, d, h1, h2⟩))
  have HL1 := tHid (HCC.out l d w1 h2 (HL.out l d h1))
  obtain ⟨y0, _⟩ := one_cell h2.c3
  have HF2 := tHid (fun V => HF.out l d V h1)
  clear HC HCC HF HL h1 h2
  go_wp2_with fail
  refine HL1.out.mono ?_
  rintro e w2 ⟨⟨r2, rfl⟩, h3⟩
  obtain ⟨a', m', c', q0, hQ⟩ := HF2.out w2 h3
  have HQ := tHid hQ
  clear HF2 h3 hQ HL1 y0
  go_wp2_with fail
  first | exact HQ.out | (go_ret; exact HQ.out)
end Go.Proofs.Ytffhpoilifgcdaa

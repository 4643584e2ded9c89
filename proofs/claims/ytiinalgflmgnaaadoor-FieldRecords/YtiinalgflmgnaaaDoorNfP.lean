import Derived.Test.YtiinalgflmgnaaaDoorNfJ
import Derived.Test.YtiinalgflmgnaaaDoorNfO
namespace Go.Proofs.YtiinalgflmgnaaaDoor
open Go.RowKit
set_option linter.unusedVariables false
/-- A row of bytes that was just laid. -/
theorem litS (w : World) (l : List By) (fr : Nat × Nat) (C : Array Value) (hC : C = (l.map bv).toArray) (n : Nat) (hn : n = l.length) (hl : n < 9223372036854775808) : Sl (fun _ => False) (.slice (some ⟨w.heap.size, 0, none⟩) n n) l (w.alloc (.cells C 5 fr)) := by
  subst hC hn
  refine .inr ⟨w.heap.size, fun h => h, 0, l.length, rfl, Nat.le_refl _, hl, fun j hj => ?_⟩
  have : (w.alloc (.cells (l.map bv).toArray 5 fr)).heap[w.heap.size]? = some (.cells (l.map bv).toArray 5 fr) := newHeap _ _
  unfold World.cell?
  rw [this]
  simp [hj]
theorem oct1 : octV [48#8, 48#8, 48#8, 48#8, 54#8, 52#8, 52#8, 0#8] = .tuple #[.int .i64 420, .int .i64 0] := by
  have h1 : (rst [48#8, 48#8, 48#8, 48#8, 54#8, 52#8, 52#8, 0#8]).all isBz = true := by decide
  have h2 : v8 0 (dgs [48#8, 48#8, 48#8, 48#8, 54#8, 52#8, 52#8, 0#8]) = 420 := by decide
  refine octV_of _ 420 0 ?_ ?_
  · unfold octN; rw [h1, h2, mx_eq]; rfl
  · unfold octE; rw [h1, h2, mx_eq]; rfl
theorem oct2 : octV [56#8] = .tuple #[.int .i64 0, .int .i64 120] := by
  have h1 : (rst [56#8]).all isBz = false := by decide
  refine octV_of _ 0 120 ?_ ?_
  · unfold octN; rw [h1]; rfl
  · unfold octE; rw [h1]; rfl
theorem bin1 : binA [192#8, 0#8] = .tuple #[.int .i64 (-16384), .int .i64 0] := by
  have h1 : isB [192#8, 0#8] = true := by decide
  have h2 : binV [192#8, 0#8] = -16384 := by decide
  rw [binA_ok _ h1 (by rw [h2]; decide), h2]
theorem pb1 : pbE (-1) 3 = 0 ∧ pbL (-1) 3 = [255#8, 255#8, 255#8] := by
  constructor
  · unfold pbE
    rw [if_pos (by decide), if_pos (by decide)]
  · decide
def zrec : List By := List.replicate 512 0#8
theorem zrec_length : zrec.length = 512 := List.length_replicate
def zRe : Array Value := rc zrec
theorem zeroRe (w : World) : (zeroValue 28).run Tryd.prog w = .ok (.agg zRe) w := (zero_of_info (P := Tryd.prog) (t := 28) (v := .agg zRe) (n := 512) (by kernel_rfl)).1 w
theorem zrec_rc : Tryd.zeroCells28 = rc zrec := by kernel_rfl
theorem zsum1 : su (blk zrec) = 256 := by decide +kernel
theorem zsum2 : ss (blk zrec) = 256 := by decide +kernel
theorem str3 : str [255#8, 255#8, 255#8] = ⟨#[255, 255, 255]⟩ := by decide
set_option maxHeartbeats 8000000 in
set_option maxRecDepth 100000 in
theorem lives_any (w : World) : Calls Tryd.prog 24 #[] w fun e w' => e = .returned (.bool true) ∧ Nw w w' := by
  obtain ⟨P, hP⟩ : ∃ P : Ending → World → Prop, P = fun e w' => e = .returned (.bool true) ∧ Nw w w' := ⟨_, rfl⟩
  rw [← hP]
  have HF : Hid (∀ W, Nw w W → P (.returned (.bool true)) W) := fun W hW => by rw [hP]; exact ⟨rfl, hW⟩
  have H1 : Hid (∀ V, Calls Tryd.prog 8 #[.slice (some ⟨V.heap.size, 0, none⟩) 8 8] (V.alloc (.cells #[.int .u8 48, .int .u8 48, .int .u8 48, .int .u8 48, .int .u8 54, .int .u8 52, .int .u8 52, .int .u8 0] 5 (8, 9))) fun e w' => e = .returned (.tuple #[.int .i64 420, .int .i64 0]) ∧ Hid (Nw V w')) := fun V => by
    refine (octal_any (X := fun _ => False) _ _ 8 8 _ (litS V [48#8, 48#8, 48#8, 48#8, 54#8, 52#8, 52#8, 0#8] (8, 9) _ rfl 8 rfl (by decide))).mono ?_
    rintro e w' ⟨rfl, h⟩
    rw [oct1]
    exact ⟨rfl, ((Fr.refl _ _).alloc _).trans h⟩
  have H3 : Hid (∀ V, Calls Tryd.prog 8 #[.slice (some ⟨V.heap.size, 0, none⟩) 1 1] (V.alloc (.cells #[.int .u8 56] 5 (1, 2))) fun e w' => e = .returned (.tuple #[.int .i64 0, .int .i64 120]) ∧ Hid (Nw V w')) := fun V => by
    refine (octal_any (X := fun _ => False) _ _ 1 1 _ (litS V [56#8] (1, 2) _ rfl 1 rfl (by decide))).mono ?_
    rintro e w' ⟨rfl, h⟩
    rw [oct2]
    exact ⟨rfl, ((Fr.refl _ _).alloc _).trans h⟩
  have H2 : Hid (∀ V, Calls Tryd.prog 10 #[.slice (some ⟨V.heap.size, 0, none⟩) 2 2] (V.alloc (.cells #[.int .u8 192, .int .u8 0] 5)) fun e w' => e = .returned (.tuple #[.int .i64 (-16384), .int .i64 0]) ∧ Hid (Nw V w')) := fun V => by
    refine (binary_any (X := fun _ => False) _ _ 2 2 _ (litS V [192#8, 0#8] (0, 0) _ rfl 2 rfl (by decide))).mono ?_
    rintro e w' ⟨rfl, h⟩
    rw [bin1]
    exact ⟨rfl, by rw [← h]; exact (Fr.refl _ _).alloc _⟩
  have H4 : Hid (∀ V, Calls Tryd.prog 27 #[.int .i64 (-1), .int .i64 3] V fun e w' => ∃ a n c, e = .returned (.tuple #[.slice a n c, .int .i64 0]) ∧ Hid (Nw V w' ∧ ∀ U, Nw w' U → (convert 22 9 (.slice a n c)).run Tryd.prog U = .ok (.string ⟨#[255, 255, 255]⟩) U)) := fun V => by
    refine (putBinary_any (-1) 3 V (by decide) (by decide)).mono ?_
    rintro e w' ⟨a, n, c, rfl, h1, h2⟩
    rw [pb1.1, pb1.2] at h2
    rw [pb1.1]
    rcases h2 with ⟨h2, _⟩ | ⟨_, g, _, hO⟩
    · exact absurd rfl h2
    · exact ⟨a, n, c, rfl, h1, fun U hU => by rw [← str3]; exact conv_any (hO.nw hU).old⟩
  have H5 : Hid (∀ V, Calls Tryd.prog 16 #[.agg Tryd.zeroCells28] V fun e w' => e = .returned (.tuple #[.int .i64 256, .int .i64 256]) ∧ Hid (Nw V w')) := fun V => by
    rw [zrec_rc]
    refine (sums_any zrec zrec_length V).mono ?_
    rintro e w' ⟨rfl, h⟩
    rw [zsum1, zsum2]
    exact ⟨rfl, h⟩
  clear hP
  have c1 : ∀ (w : World), (convert 22 22 (.slice (some ⟨w.heap.size, 0, none⟩) 8 8)).run Tryd.prog (w.alloc (.cells #[.int .u8 48, .int .u8 48, .int .u8 48, .int .u8 48, .int .u8 54, .int .u8 52, .int .u8 52, .int .u8 0] 5)) = .ok (.slice (some ⟨w.heap.size, 0, none⟩) 8 8) (w.alloc (.cells #[.int .u8 48, .int .u8 48, .int .u8 48, .int .u8 48, .int .u8 54, .int .u8 52, .int .u8 52, .int .u8 0] 5 (8, 9))) := fun w => Lib.run_convert_bytes_const w 22 5 _ 8 8 Tryd.underlying22 Tryd.underlying5
  have c3 : ∀ (w : World), (convert 22 22 (.slice (some ⟨w.heap.size, 0, none⟩) 1 1)).run Tryd.prog (w.alloc (.cells #[.int .u8 56] 5)) = .ok (.slice (some ⟨w.heap.size, 0, none⟩) 1 1) (w.alloc (.cells #[.int .u8 56] 5 (1, 2))) := fun w => Lib.run_convert_bytes_const w 22 5 _ 1 1 Tryd.underlying22 Tryd.underlying5
  skip
  go_enter Tryd.func24, Tryd.ntmps24
  go_upto_region 5 with (first
    | (go_at_call 8; with_reducible refine (H1.out _).mono ?_; rintro e w1 ⟨rfl, K1⟩)
    | (go_at_call 10; with_reducible refine (H2.out _).mono ?_; rintro e w2 ⟨rfl, K2⟩)
    | (go_at_call 8; with_reducible refine (H3.out _).mono ?_; rintro e w3 ⟨rfl, K3⟩)
    | (go_at_call 27; with_reducible refine (H4.out _).mono ?_; rintro e w4 ⟨a4, n4, d4, rfl, K4⟩))
  go_wp2_with (first
    | (go_at_call 16; with_reducible refine (H5.out _).mono ?_; rintro e w5 ⟨rfl, K5⟩; have cv := K4.out.2 _ K5.out))
  exact HF.out _ ((((K1.out.trans K2.out).trans K3.out).trans K4.out.1).trans K5.out)
end Go.Proofs.YtiinalgflmgnaaaDoor

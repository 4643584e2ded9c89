import Derived.Test.YtoegbaenheeogaaNfJ
import Derived.Test.YtoegbaenheeogaaNfO
namespace Go.Proofs.Ytoegbaenheeogaa
open Go.RowKit
set_option linter.unusedVariables false
set_option maxRecDepth 100000 in
/-- A row of bytes that was just laid. -/
theorem litS (w : World) (l : List By) (fr : Nat × Nat) (C : Array Value) (hC : C = (l.map bv).toArray) (n : Nat) (hn : n = l.length) (hl : n < 9223372036854775808) : Sl (fun _ => False) (.slice (some ⟨w.heap.size, 0, none⟩) n n) l (w.alloc (.cells C 5 fr)) := by
  subst hC hn
  refine .inr ⟨w.heap.size, fun h => h, 0, l.length, rfl, Nat.le_refl _, hl, fun j hj => ?_⟩
  have : (w.alloc (.cells (l.map bv).toArray 5 fr)).heap[w.heap.size]? = some (.cells (l.map bv).toArray 5 fr) := newHeap _ _
  unfold World.cell?
  rw [this]
  simp [hj]
theorem oct1 : octV [48#8, 48#8, 48#8, 48#8, 54#8, 52#8, 52#8, 0#8] = .tuple #[.int .i64 420, .int .i64 0] := by
  have h1 : (rst [48#8, 48#8, 48#8, 48#8, 54#8, 52#8, 52#8, 0#8]).all isBz = true := by decide
  have h2 : v8 0 (dgs [48#8, 48#8, 48#8, 48#8, 54#8, 52#8, 52#8, 0#8]) = 420 := by decide
  refine octV_of _ 420 0 ?_ ?_
  · unfold octN; rw [h1, h2, mx_eq]; rfl
  · unfold octE; rw [h1, h2, mx_eq]; rfl
theorem oct2 : octV [56#8] = .tuple #[.int .i64 0, .int .i64 120] := by
  have h1 : (rst [56#8]).all isBz = false := by decide
  refine octV_of _ 0 120 ?_ ?_
  · unfold octN; rw [h1]; rfl
  · unfold octE; rw [h1]; rfl
theorem bin1 : binA [192#8, 0#8] = .tuple #[.int .i64 (-16384), .int .i64 0] := by
  have h1 : isB [192#8, 0#8] = true := by decide
  have h2 : binV [192#8, 0#8] = -16384 := by decide
  rw [binA_ok _ h1 (by rw [h2]; decide), h2]
theorem pb1 : pbE (-1) 3 = 0 ∧ pbL (-1) 3 = [255#8, 255#8, 255#8] := by
  constructor
  · unfold pbE
    rw [if_pos (by decide), if_pos (by decide)]
  · decide
def zrec : List By := List.replicate 512 0#8
theorem zrec_length : zrec.length = 512 := List.length_replicate
def zRe : Array Value := rc zrec
theorem zeroRe (w : World) : (zeroValue 24).run Try.prog w = .ok (.agg zRe) w := (zero_of_info (P := Try.prog) (t := 24) (v := .agg zRe) (n := 512) (by kernel_rfl)).1 w
theorem zrec_rc : Try.zeroCells24 = rc zrec := by kernel_rfl
theorem zsum1 : su (blk zrec) = 256 := by decide +kernel
theorem zsum2 : ss (blk zrec) = 256 := by decide +kernel
theorem str3 : str [255#8, 255#8, 255#8] = ⟨#[255, 255, 255]⟩ := by decide
end Go.Proofs.Ytoegbaenheeogaa

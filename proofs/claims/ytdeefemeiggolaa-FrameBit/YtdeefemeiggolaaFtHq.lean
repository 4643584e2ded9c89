import Derived.Test.YtdeefemeiggolaaFtGq
import Derived.Test.YtdeefemeiggolaaFeQq
namespace Go.Proofs.Ytdeefemeiggolaa
open Go.RowKit
set_option linter.unusedVariables false
/-! ### FrameBit's walk: Encode refuses, or no bit is told -/
set_option maxHeartbeats 8000000 in
set_option maxRecDepth 100000 in
theorem bt_no (w : World) (a : Option Addr) (L c : Nat) (plain : List By) (hL : plain.length = L) (hp : Old w (.slice a L c) plain) (hpl : L ≤ 140737488351232) (k bit : Int) (b1 b2 b3 b4 : Bool) (hk : k < 4 ∨ 7 < k ∨ 4194304 < L) :
    Calls Try.prog 7 #[.slice a L c, .agg #[.int .i64 k, .bool b1, .bool b2, .bool b3, .bool b4], .int .i64 bit] w fun e w' => e = .returned (.bool true) ∧ Nw w w' := by
  obtain ⟨P, hP⟩ : ∃ P : Ending → World → Prop, P = fun e w' => e = .returned (.bool true) ∧ Nw w w' := ⟨_, rfl⟩
  rw [← hP]
  obtain ⟨W0, hW0⟩ : ∃ W0, w.alloc (.cells #[.int .i64 k, .bool b1, .bool b2, .bool b3, .bool b4] 24) = W0 := ⟨_, rfl⟩
  have hrow : W0.heap[w.heap.size]? = some (.cells #[.int .i64 k, .bool b1, .bool b2, .bool b3, .bool b4] 24) := by
    rw [← hW0]
    show (w.heap.push _)[w.heap.size]? = _
    rw [Array.getElem?_push_size]
  have hN0 : Nw w W0 := by rw [← hW0]; exact (Fr.refl _ _).alloc _
  have KEY : ∀ V, Nw W0 V → ShC w.heap.size k b1 b2 b3 b4 V := fun V hV => ⟨hV.cell (row_cell hrow 0 _ rfl).1, hV.cell (row_cell hrow 1 _ rfl).1, hV.cell (row_cell hrow 2 _ rfl).1, hV.cell (row_cell hrow 3 _ rfl).1, hV.cell (row_cell hrow 4 _ rfl).1⟩
  have HL : Hid (Calls Try.prog 21 #[] W0 fun e w1 => e = .returned (.bool true) ∧ ∃ g1 c9 W1, Hid (∀ ty, (Builtin.append_ #[22, 22] ty #[.slice (some ⟨w1.heap.size, 0, none⟩) 0 0, .slice a L c]).run Try.prog (w1.drew.alloc (.cells #[] 5)) = .ok (.slice (some ⟨g1, 0, none⟩) L c9) W1) ∧ ShC w.heap.size k b1 b2 b3 b4 w1 ∧ ShC w.heap.size k b1 b2 b3 b4 w1.drew ∧ ShC w.heap.size k b1 b2 b3 b4 (w1.drew.alloc (.cells #[] 5)) ∧ ShC w.heap.size k b1 b2 b3 b4 W1 ∧ Hid (Calls Try.prog 10 #[.slice (some ⟨g1, 0, none⟩) L c9, .agg #[.int .i64 k, .bool b1, .bool b2, .bool b3, .bool b4]] W1 fun e w2 => ∃ y : Nat, e = .returned (.tuple #[.slice none 0 0, .int .i64 y]) ∧ ¬ (y : Int) = 0 ∧ ShC w.heap.size k b1 b2 b3 b4 w2 ∧ Hid (P (.returned (.bool true)) w2))) := by
    show Calls _ _ _ _ _
    refine (lives_any W0).mono ?_
    rintro e w1 ⟨rfl, hN1⟩
    refine ⟨rfl, ?_⟩
    obtain ⟨g1, c9, W1, hap, hO1, _, hNa⟩ := copyB w1.drew (.slice a L c) plain (Sl.later hp ((hN0.trans hN1).drew)) (by omega)
    rw [hL] at hap hO1
    have hNW : Nw W0 W1 := hN1.drew.trans hNa
    refine ⟨g1, c9, W1, hap, KEY _ hN1, KEY _ hN1.drew, KEY _ (hN1.drew.alloc _), KEY _ hNW, ?_⟩
    show Calls _ _ _ _ _
    by_cases hk' : k < 4 ∨ 7 < k
    · refine (fEncode_arg W1 _ k b1 b2 b3 b4 hk').mono ?_
      rintro e w2 ⟨rfl, h2⟩
      refine ⟨1, rfl, by decide, KEY _ (hNW.trans h2), ?_⟩
      show P _ _
      rw [hP]; exact ⟨rfl, hN0.trans (hNW.trans h2)⟩
    · refine (fEncode_long W1 _ L c9 k b1 b2 b3 b4 (by omega) (by omega) (by omega)).mono ?_
      rintro e w2 ⟨rfl, h2⟩
      refine ⟨2, rfl, by decide, KEY _ (hNW.trans h2), ?_⟩
      show P _ _
      rw [hP]; exact ⟨rfl, hN0.trans (hNW.trans h2)⟩
  have HW0 : Hid (w.alloc (.cells #[.int .i64 k, .bool b1, .bool b2, .bool b3, .bool b4] 24) = W0) := hW0
  clear hP hrow hN0 hW0 KEY hp hk hL
  go_enter Try.func7, Try.ntmps7
  go_upto_region 1 with fail
  rw [HW0.out]
  go_upto_region 3 with (first | (go_at_call 21; (with_reducible refine HL.out.mono ?_); rintro e w1 ⟨rfl, g1, c9, W1, HAP, k0, k1, k2, k3, HE⟩))
  unfold ShC at k0 k1 k2 k3
  go_region_held3 (fun w' => w'.cell? ⟨w.heap.size, 0, none⟩ = some (.int .i64 k) ∧ w'.cell? ⟨w.heap.size, 1, none⟩ = some (.bool b1) ∧ w'.cell? ⟨w.heap.size, 2, none⟩ = some (.bool b2) ∧ w'.cell? ⟨w.heap.size, 3, none⟩ = some (.bool b3) ∧ w'.cell? ⟨w.heap.size, 4, none⟩ = some (.bool b4))
    (first | assumption)
    (first
      | (refine step_append_run rfl _ _ rfl (.slice (some ⟨w1.heap.size, 0, none⟩) 0 0) (.slice a L c) ?_ ?_ _ _ (HAP.out) ?_; (solve | simp [Act.eval]); (solve | simp [Act.eval]))
      | (go_at_call 10; (with_reducible refine (HE.out).mono ?_); rintro e w2 ⟨y, rfl, hy, k4, HF⟩; unfold ShC at k4))
  clear k0 k1 k2 k3
  go_wp2_with fail
  exact HF.out
end Go.Proofs.Ytdeefemeiggolaa

import Derived.Test.YtegabbfdnpjkkaaRbQ
import Derived.Below
namespace Go.Proofs.Ytegabbfdnpjkkaa
open Go.RowKit Go.ChangeShapes
set_option linter.unusedVariables false
set_option linter.unusedSimpArgs false

set_option maxHeartbeats 4000000 in
set_option maxRecDepth 100000 in
theorem ran_empty (a0 : Option Addr) (cap : Nat) (w : World) :
    Calls Try.prog 6 #[.slice a0 0 cap] w fun e w' => e = .returned (.bool true) ∧ Nw w w' := by
  have HST0 : Hid (St w w.heap.size [] (.slice (some ⟨w.heap.size + 1, 0, none⟩) 0 0) ((w.alloc (.cells #[.slice none 0 0] 47)).alloc (.cells #[] 49))) := st_start w
  go_enter Try.func6, Try.ntmps6
  go_wp2
  obtain ⟨br, hbr⟩ : ∃ br, br = w.heap.size := ⟨_, rfl⟩
  go_loopg [4, 5] 0 (fun kx d i wr => ∃ (a : Option Addr) (c : Nat), i = .int .i64 0 ∧ d = .slice a 0 c ∧ Hid (St w w.heap.size [] (.slice a 0 c) wr))
  case atStart => exact ⟨some ⟨w.heap.size + 1, 0, none⟩, 0, rfl, rfl, HST0⟩
  case round =>
    obtain ⟨da, dc, rfl, rfl, HST⟩ := hrel
    have hNwr : Nw w wr := HST.out.choose_spec.2.2.2.2.2.1
    have HW4 : Hid (∀ W, Nw wr W → Calls Try.prog 32 #[.pointer (some ⟨w.heap.size, 0, none⟩), rv ((4 : Int), (4 : Int))] W fun e w' => e = .returned (.bool true) ∧ Nw W w') := fun W hW => has_empty w.heap.size (4, 4) W rfl rfl
    have HW3 : Hid (∀ W, Nw wr W → Calls Try.prog 32 #[.pointer (some ⟨w.heap.size, 0, none⟩), rv ((4 : Int), (3 : Int))] W fun e w' => e = .returned (.bool false) ∧ Nw W w') := fun W hW => has_bad w.heap.size (4, 3) W rfl
    clear HST HST0
    go_wp2_with fail
    refine (HW4.out _ (Fr.refl _ _)).mono ?_
    rintro e u1 ⟨rfl, hq1⟩
    go_wp2_with fail
    refine (HW3.out _ hq1).mono ?_
    rintro e u2 ⟨rfl, hq2⟩
    go_wp2
    go_ret
    exact ⟨rfl, (hNwr.trans hq1).trans hq2⟩

/-- What is told of the calls that came in. -/
def IsActs (w : World) (a : Option Addr) (len : Nat) (Ck : Nat → Bool) (Xs Ys : Nat → Rg) : Prop :=
  len = 0 ∨ ∃ lb lo, a = some ⟨lb, lo, none⟩ ∧ lb < w.heap.size ∧ len ≤ maxLen ∧
    (∀ i, i < len → w.cell? ⟨lb, lo + i * 5, none⟩ = some (.bool (Ck i))) ∧ (∀ i, i < len → w.cell? ⟨lb, lo + i * 5 + 1, none⟩ = some (.int .i64 (Xs i).1)) ∧ (∀ i, i < len → w.cell? ⟨lb, lo + i * 5 + 2, none⟩ = some (.int .i64 (Xs i).2)) ∧
    (∀ i, i < len → w.cell? ⟨lb, lo + i * 5 + 3, none⟩ = some (.int .i64 (Ys i).1)) ∧ (∀ i, i < len → w.cell? ⟨lb, lo + i * 5 + 4, none⟩ = some (.int .i64 (Ys i).2)) ∧
    (∀ i, i < len → (Xs i).2 ≤ 9223372036854775807) ∧ (∀ i, i < len → (Ys i).2 ≤ 9223372036854775807)

theorem ran_all (a0 : Option Addr) (len cap : Nat) (Ck : Nat → Bool) (Xs Ys : Nat → Rg) (w : World) (h : IsActs w a0 len Ck Xs Ys) :
    Calls Try.prog 6 #[.slice a0 len cap] w fun e w' => e = .returned (.bool true) ∧ Below w.heap.size w w' := by
  have key : Calls Try.prog 6 #[.slice a0 len cap] w fun e w' => e = .returned (.bool true) ∧ Nw w w' := by
    rcases h with rfl | ⟨lb, lo, rfl, hlb, hl, h0, h1, h2, h3, h4, hx, hy⟩
    · exact ran_empty a0 cap w
    · exact ran_walk lb lo len cap Ck Xs Ys w hl hlb h0 h1 h2 h3 h4 hx hy
  exact key.mono fun e w' ⟨he, hN⟩ => ⟨he, Fr.below (Below.refl _ _) hN (Nat.le_refl _) (fun _ h => h.elim)⟩
end Go.Proofs.Ytegabbfdnpjkkaa

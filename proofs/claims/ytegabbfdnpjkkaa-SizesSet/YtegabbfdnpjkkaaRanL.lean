import Derived.Test.YtegabbfdnpjkkaaRanK
import Derived.Deep.LoopGhost
import Derived.Conc.MuLone
import Derived.Shelf.Abstract
import Derived.Lib.MinMax
namespace Go.Proofs.Ytegabbfdnpjkkaa
open Go.RowKit
set_option linter.unusedVariables false

/-- Nothing that was there has turned. -/
abbrev Nw (w w' : World) : Prop := Fr (fun _ => False) w w'
theorem Nw.trans {a b c : World} (h : Nw a b) (k : Nw b c) : Nw a c := Fr.trans h k
theorem Nw.any {X : Nat → Prop} {a b : World} (h : Nw a b) : Fr X a b := h.mono (fun _ h => h.elim)
theorem Nw.cell {w w' : World} (h : Nw w w') {p : Addr} {v : Value} (hv : w.cell? p = some v) : w'.cell? p = some v := by
  have hp := World.block_lt_of_cell? _ _ hv
  exact (Fr.cell h hp (fun h => h)).trans hv
theorem Nw.row {w w' : World} (h : Nw w w') {g : Nat} {xs : List Rg} (hr : RowB g xs w) : RowB g xs w' := hr.kept h (fun h => h)
theorem Nw.sval {w w' : World} (h : Nw w w') {v : Value} {og : Option Nat} {L : List Rg} (hs : SVal v og L w) : SVal v og L w' := by
  rcases hs with h0 | ⟨g, xs, h1, h2, h3, h4, h5, h6⟩
  · exact .inl h0
  · exact .inr ⟨g, xs, h1, h2, h3, h4, h5, h.row h6⟩

def cb (x : Rg) : Bool := decide (0 ≤ x.1) && decide (x.1 ≤ x.2)
abbrev rv (x : Rg) : Value := .agg #[.int .i64 x.1, .int .i64 x.2]
theorem canBe_any (x : Rg) (w : World) : Calls Try.prog 37 #[rv x] w fun e w' => e = .returned (.bool (cb x)) ∧ Nw w w' := by
  by_cases h1 : 0 ≤ x.1
  · have hd1 : decide (0 ≤ x.1) = true := by simp; omega
    have e : cb x = decide (x.1 ≤ x.2) := by unfold cb; rw [hd1]; rfl
    rw [e]
    go_enter Try.func37, Try.ntmps37
    go_wp2
    go_ret
    exact ⟨rfl, (Fr.refl _ _).alloc _⟩
  · have hd1 : decide (0 ≤ x.1) = false := by simp; omega
    have e : cb x = false := by unfold cb; rw [hd1]; rfl
    rw [e]
    go_enter Try.func37, Try.ntmps37
    go_wp2
    go_ret
    exact ⟨rfl, (Fr.refl _ _).alloc _⟩
theorem canBe2_any (x : Rg) (w : World) : Calls Try.prog 33 #[rv x] w fun e w' => e = .returned (.bool (cb x)) ∧ Nw w w' := by
  by_cases h1 : 0 ≤ x.1
  · have hd1 : decide (0 ≤ x.1) = true := by simp; omega
    have e : cb x = decide (x.1 ≤ x.2) := by unfold cb; rw [hd1]; rfl
    rw [e]
    go_enter Try.func33, Try.ntmps33
    go_wp2
    go_ret
    exact ⟨rfl, (Fr.refl _ _).alloc _⟩
  · have hd1 : decide (0 ≤ x.1) = false := by simp; omega
    have e : cb x = false := by unfold cb; rw [hd1]; rfl
    rw [e]
    go_enter Try.func33, Try.ntmps33
    go_wp2
    go_ret
    exact ⟨rfl, (Fr.refl _ _).alloc _⟩

/-! ### The closures -/
def Clos (c : Nat) (cap : Array Value) (p : Rg → Bool) (w : World) : Prop := ∀ (W : World) (y : Rg), Nw w W → Calls Try.prog c (#[rv y] ++ cap) W fun e w' => e = .returned (.bool (p y)) ∧ Nw W w'
theorem clos_add1 (b : Nat) (x : Rg) (w : World) (h0 : w.cell? ⟨b, 0, none⟩ = some (.int .i64 x.1)) : Clos 43 #[.pointer (some ⟨b, 0, none⟩)] (fun y => decide (x.1 ≤ y.2)) w := by
  intro W y hW
  have h0 := hW.cell h0
  have hb := World.block_lt_of_cell? _ _ h0
  have hne : ¬ b = W.heap.size := by have : b < W.heap.size := hb; omega
  go_enter Try.func43, Try.ntmps43
  go_wp2
  go_ret
  exact ⟨rfl, (Fr.refl _ _).alloc _⟩
theorem clos_add2 (b : Nat) (x : Rg) (w : World) (h0 : w.cell? ⟨b, 1, none⟩ = some (.int .i64 x.2)) : Clos 44 #[.pointer (some ⟨b, 0, none⟩)] (fun y => decide (x.2 < y.1)) w := by
  intro W y hW
  have h0 := hW.cell h0
  have hb := World.block_lt_of_cell? _ _ h0
  have hne : ¬ b = W.heap.size := by have : b < W.heap.size := hb; omega
  go_enter Try.func44, Try.ntmps44
  go_wp2
  go_ret
  exact ⟨rfl, (Fr.refl _ _).alloc _⟩
theorem clos_cut1 (b : Nat) (x : Rg) (w : World) (h0 : w.cell? ⟨b, 1, none⟩ = some (.int .i64 x.2)) : Clos 40 #[.pointer (some ⟨b, 0, none⟩)] (fun y => decide (x.2 ≤ y.1)) w := by
  intro W y hW
  have h0 := hW.cell h0
  have hb := World.block_lt_of_cell? _ _ h0
  have hne : ¬ b = W.heap.size := by have : b < W.heap.size := hb; omega
  go_enter Try.func40, Try.ntmps40
  go_wp2
  go_ret
  exact ⟨rfl, (Fr.refl _ _).alloc _⟩
theorem clos_ends (b : Nat) (x : Int) (w : World) (h0 : w.cell? ⟨b, 0, none⟩ = some (.int .i64 x)) : Clos 48 #[.pointer (some ⟨b, 0, none⟩)] (fun y => decide (x < y.2)) w := by
  intro W y hW
  have h0 := hW.cell h0
  have hb := World.block_lt_of_cell? _ _ h0
  have hne : ¬ b = W.heap.size := by have : b < W.heap.size := hb; omega
  go_enter Try.func48, Try.ntmps48
  go_wp2
  go_ret
  exact ⟨rfl, (Fr.refl _ _).alloc _⟩
end Go.Proofs.Ytegabbfdnpjkkaa

import Derived.Test.YtegabbfdnpjkkaaBudD
namespace Go.Proofs.Ytegabbfdnpjkkaa
open Go.RowKit Go.MuLone
set_option linter.unusedVariables false

set_option maxHeartbeats 1000000 in
theorem bud_neg (T : Int) (a0 : Option Addr) (len cap : Nat) (w : World) (hT0 : T < 0) :
    Calls Try.prog 4 #[.int .i64 T, .slice a0 len cap] w fun e w' => e = .returned (.bool true) ∧ Below w.heap.size w w' := by
  go_enter Try.func4, Try.ntmps4
  go_wp2_with (go_at_call 15; refine (new_no T _ hT0).mono ?_; rintro e w' ⟨rfl, rfl⟩)
  go_ret
  exact ⟨rfl, Below.refl _ _⟩

set_option maxHeartbeats 1000000 in
theorem bud_empty (T : Int) (a0 : Option Addr) (cap : Nat) (w : World) (hT0 : 0 ≤ T) :
    Calls Try.prog 4 #[.int .i64 T, .slice a0 0 cap] w fun e w' => e = .returned (.bool true) ∧ Below w.heap.size w w' := by
  have hd : decide (T < 0) = false := by simp; omega
  go_enter Try.func4, Try.ntmps4
  go_wp2_with (go_at_call 15; refine (new_yes T _ hT0).mono ?_; rintro e w' ⟨rfl, rfl⟩)
  go_loopw [8] (fun i wr => i = .int .i64 0 ∧ Below w.heap.size w wr) (fun _ _ => 0)
  case atStart => exact ⟨rfl, ((Below.refl _ _).alloc (Nat.le_refl _) _).alloc (by simp) _⟩
  case round =>
    obtain ⟨rfl, hbel⟩ := hrel
    go_wp2
    go_ret
    exact ⟨rfl, hbel⟩

/-- What is told of a slice of pairs (a bool or a small number, and an int64) that came in. -/
def IsPairs (w : World) (a : Option Addr) (len : Nat) (V0 : Nat → Value) (N : Nat → Int) : Prop :=
  len = 0 ∨ ∃ lb lo, a = some ⟨lb, lo, none⟩ ∧ lb < w.heap.size ∧ len ≤ maxLen ∧
    (∀ i, i < len → w.cell? ⟨lb, lo + i * 2, none⟩ = some (V0 i)) ∧ (∀ i, i < len → w.cell? ⟨lb, lo + i * 2 + 1, none⟩ = some (.int .i64 (N i))) ∧ ∀ i, i < len → (Lit.int .i64 (N i)).wf = true

theorem bud_all (T : Int) (a0 : Option Addr) (len cap : Nat) (Bk : Nat → Bool) (Nn : Nat → Int) (w : World) (hT : T ≤ 9223372036854775807) (h : IsPairs w a0 len (fun i => .bool (Bk i)) Nn) :
    Calls Try.prog 4 #[.int .i64 T, .slice a0 len cap] w fun e w' => e = .returned (.bool true) ∧ Below w.heap.size w w' := by
  by_cases hT0 : T < 0
  · exact bud_neg T a0 len cap w hT0
  rcases h with rfl | ⟨lb, lo, rfl, hlb, hl, h0, h1, hw⟩
  · exact bud_empty T a0 cap w (by omega)
  · exact bud_walk T lb lo len cap Bk Nn w (by omega) hT hl h0 h1 (fun i hi => (by
      have := hw i hi
      simp [Lit.wf, IntKind.min, IntKind.max, IntKind.signed, IntKind.bits] at this
      omega)) hlb
end Go.Proofs.Ytegabbfdnpjkkaa

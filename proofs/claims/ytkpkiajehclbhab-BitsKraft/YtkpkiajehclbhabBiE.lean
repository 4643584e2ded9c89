import Derived.Test.YtkpkiajehclbhabBiD
namespace Go.Proofs.Ytkpkiajehclbhab
open Go.RowKit
set_option linter.unusedVariables false
variable {T : Nat} {K : Nat → Prop} {rb : Nat} {v : Value} {b : List By} {p : Nat} {w : World}
/-- What Take answers of N bits of V from p on: the number, the error, the place. -/
def takeF (N V p : Nat) (n : Int) : Nat × Nat × Nat := if n < 0 ∨ 32 < n then (0, 1, p) else if ((N - p : Nat) : Int) < n then (0, 50, p) else (V / 2 ^ p % 2 ^ n.toNat, 0, p + n.toNat)
/-- What Bytes answers. -/
def bytesF (N V p : Nat) (n : Int) : List By × Nat × Nat := if n < 0 then ([], 1, up8 p) else if (((N - up8 p) / 8 : Nat) : Int) < n then ([], 50, up8 p) else (lows (V / 2 ^ up8 p) n.toNat, 0, up8 p + 8 * n.toNat)
/-- A reader's answer: a value and an error; it stands at p' then. -/
def Tkn (T : Nat) (K : Nat → Prop) (rb : Nat) (v : Value) (b : List By) (w : World) (r : Nat × Nat × Nat) (e : Ending) (w' : World) : Prop :=
  e = .returned (.tuple #[.int .u32 r.1, .int .i64 r.2.1]) ∧ Rr T K rb v b r.2.2 w' ∧ Fr (fun k => k = rb) w w'
set_option maxHeartbeats 8000000 in
theorem newReader_any (w : World) (K : Nat → Prop) (v : Value) (b : List By) (h : Sl K v b w) (hK : K w.heap.size) (hbl : b.length ≤ 35184372088832) : Calls Try.prog 5 #[v] w fun e w' => e = .returned (.pointer (some ⟨w.heap.size, 0, none⟩)) ∧ Rr 54 K w.heap.size v b 0 w' ∧ Nw w w' := by
  obtain ⟨P, hP⟩ : ∃ P : Ending → World → Prop, P = fun e w' => e = .returned (.pointer (some ⟨w.heap.size, 0, none⟩)) ∧ Rr 54 K w.heap.size v b 0 w' ∧ Nw w w' := ⟨_, rfl⟩
  rw [← hP]
  obtain ⟨a, c, rfl, _, _⟩ := h.form
  have HF : Hid (P (.returned (.pointer (some ⟨w.heap.size, 0, none⟩))) (w.alloc (.cells #[.slice a b.length c, .int .i64 0] 54))) := by
    show P _ _
    rw [hP]
    exact ⟨rfl, ⟨new_heap _ _, h.nw ((Fr.refl _ _).alloc _), hK, hbl⟩, (Fr.refl _ _).alloc _⟩
  clear hP h hK
  generalize b.length = L at *
  go_enter Try.func5, Try.ntmps5
  go_wp2
  exact HF.out
end Go.Proofs.Ytkpkiajehclbhab

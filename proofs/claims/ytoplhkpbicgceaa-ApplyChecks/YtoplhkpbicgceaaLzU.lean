import Derived.Test.YtoplhkpbicgceaaLzT
import Derived.Lib.AppendZeros
namespace Go.Proofs.Ytoplhkpbicgceaa
open Go.RowKit
set_option linter.unusedVariables false
theorem one_byte (w : World) (x : By) : Sl (fun _ => False) (.slice (some ⟨w.heap.size, 0, none⟩) 1 1) [x] (w.alloc (.cells #[.int .u8 x.toNat] 5)) := by
  refine .inr ⟨w.heap.size, fun h => h, 0, 1, rfl, by simp, by decide, ?_⟩
  intro j hj
  obtain rfl : j = 0 := by simp at hj; exact hj
  exact new_cell _ _ _ _ _ rfl
/-- One byte more. -/
theorem copied_step (K : Nat → Prop) (l : List By) (back : Nat) (hb : 1 ≤ back) (hbl : back ≤ l.length) (wr : World) (hK : ∀ k, K k → k < wr.heap.size) (v : Value) (h : Mine K v l wr) (hs : l.length ≤ 1000000000) :
    ∃ g c v' W, v = .slice (some ⟨g, 0, none⟩) l.length c ∧ l.length ≤ c ∧ c < 9223372036854775808 ∧ wr.cell? ⟨g, l.length - back, none⟩ = some (.int .u8 (l.getD (l.length - back) 0).toNat) ∧ g < wr.heap.size ∧
      Hid (∀ ty, (Builtin.append_ #[27, 27] ty #[.slice (some ⟨g, 0, none⟩) l.length c, .slice (some ⟨wr.heap.size, 0, none⟩) 1 1]).run Try.prog (wr.alloc (.cells #[.int .u8 (l.getD (l.length - back) 0).toNat] 5)) = .ok v' W) ∧
      Hid (Mine K v' (l ++ [l.getD (l.length - back) 0]) W ∧ Fr (fun k => ¬ K k) wr W) := by
  have h0 := h
  rcases h with ⟨_, rfl⟩ | ⟨g, hg, hO⟩
  · simp at hbl; omega
  have hO' := hO
  obtain ⟨xs, rfl, x2, x3, x4, x5⟩ := hO'
  have hN : Nw wr (wr.alloc (.cells #[.int .u8 (l.getD (l.length - back) 0).toNat] 5)) := (Fr.refl _ _).alloc _
  have hsz : (wr.alloc (.cells #[.int .u8 (l.getD (l.length - back) 0).toNat] 5)).heap.size = wr.heap.size + 1 := by simp
  obtain ⟨v', W, hap, hM, hF⟩ := mine_app K _ (fun k hk => by rw [hsz]; have := hK k hk; omega) _ l (h0.nw hN) _ _ (one_byte wr (l.getD (l.length - back) 0)) (by simp; omega)
  refine ⟨g, xs.length, v', W, rfl, x3, x4, ?_, hO.lt, hap, hM, hN.any.trans hF⟩
  have := hO.at (l.length - back) (by omega)
  rw [this.1, List.getD_eq_getElem?_getD, List.getElem?_eq_getElem (by omega)]
  rfl
/-- The end of the bytes ahead that counts. -/
def win (ahead : List By) : List By := ahead.drop (ahead.length - 65535)
theorem win_length (ahead : List By) : (win ahead).length = min ahead.length 65535 := by simp [win]; omega
end Go.Proofs.Ytoplhkpbicgceaa

import Derived.Test.YtkpkiajehclbhabLzY
namespace Go.Proofs.Ytkpkiajehclbhab
open Go.RowKit
set_option linter.unusedVariables false
/-- One byte more, nil or own. -/
theorem mine_step (K : Nat → Prop) (l : List By) (wr : World) (hK : ∀ k, K k → k < wr.heap.size) (v : Value) (h : Mine K v l wr) (hs : l.length ≤ 150000000000000) (x : By) (z : Int) (hz : z = x.toNat) :
    ∃ a c v' W, v = .slice a l.length c ∧ Hid (∀ ty, (Builtin.append_ #[31, 31] ty #[.slice a l.length c, .slice (some ⟨wr.heap.size, 0, none⟩) 1 1]).run Try.prog (wr.alloc (.cells #[.int .u8 z] 5)) = .ok v' W) ∧ Hid (Mine K v' (l ++ [x]) W ∧ Fr (fun k => ¬ K k) wr W) := by
  have hN : Nw wr (wr.alloc (.cells #[.int .u8 z] 5)) := (Fr.refl _ _).alloc _
  have hsz : (wr.alloc (.cells #[.int .u8 z] 5)).heap.size = wr.heap.size + 1 := by simp
  obtain ⟨v', W, hap, hM, hF⟩ := mine_app K _ (fun k hk => by rw [hsz]; have := hK k hk; omega) v l (h.nw hN) _ _ (one_byte' wr x z hz) (by simp; omega)
  obtain ⟨a, c, rfl, _, _⟩ := h.sl.form
  exact ⟨a, c, v', W, rfl, hap, hM, hN.any.trans hF⟩
end Go.Proofs.Ytkpkiajehclbhab

import Derived.Test.YtkpkiajehclbhaaCoN
namespace Go.Proofs.Ytkpkiajehclbhaa
open Go.RowKit
set_option linter.unusedVariables false
theorem cod_1 : Cod [1] := ⟨fun i => by rcases i with _ | i <;> simp, by decide, by decide, by decide⟩
theorem cod_11 : Cod [1, 1] := ⟨fun i => by rcases i with _ | _ | i <;> simp, by decide, by decide, by decide⟩
/-- A copy of a list of numbers. -/
theorem ints_copy (w : World) (v : Value) (zs : List Int) (h : SlR RI (fun _ => False) v zs w) (hl : zs.length ≤ 17592186043904) :
    ∃ g c W, Hid (∀ ty, (Builtin.append_ #[54, 54] ty #[.slice (some ⟨w.heap.size, 0, none⟩) 0 0, v]).run Try.prog (w.alloc (.cells #[] 3)) = .ok (.slice (some ⟨g, 0, none⟩) zs.length c) W) ∧ OwR RI g (.slice (some ⟨g, 0, none⟩) zs.length c) zs W ∧ Nw w W ∧ w.heap.size ≤ g := by
  have hN : Nw w (w.alloc (.cells #[] 3)) := (Fr.refl _ _).alloc _
  obtain ⟨v', g', W, k1, k2, k3, k4⟩ := owR_app riOk _ _ _ _ (OwR.empty (R := RI) w) v zs (h.nw hN) (by simp [RI]; omega) (by simp; omega)
  rw [List.nil_append] at k2
  obtain ⟨c', e, _, _⟩ := k2.form
  subst e
  refine ⟨g', c', W, k1, k2, Fr.then hN k3 (fun i hi => .inr (by omega)), ?_⟩
  rcases k4 with e | e
  · omega
  · have e2 : (w.alloc (.cells #[] RI.T)).heap.size = w.heap.size + 1 := by simp
    omega
theorem OwR.low {g : Nat} {v : Value} {l : List Int} {w : World} (h : OwR RI g v l w) : SlR RI (fun k => w.heap.size ≤ k) v l w := (h.slr riOk).mono (fun k hk => by have := h.lt; omega)
/-- A code of lengths that stand in the text. -/
theorem newCode_lit (w : World) (ls : List Nat) (hk : Cod ls) (cs : Array Value) (hc : cs = (flatR RI (toI ls)).toArray) (n : Nat) (hn : n = ls.length) : Calls Try.prog 32 #[.slice (some ⟨w.heap.size, 0, none⟩) n n] (w.alloc (.cells cs 3)) fun e w' => ∃ cb gw gs ws ss, e = .returned (.tuple #[.pointer (some ⟨cb, 0, none⟩), .int .i64 0]) ∧ CodeI cb gw gs ls ws ss w' ∧ Nw w w' := by
  have hb := OwR.built riOk w (toI ls) cs hc (by rw [toI_length]; have := hk.len; omega)
  rw [toI_length] at hb
  subst hn
  refine (newCode_yes _ _ ls hb.low hk).mono ?_
  rintro e w' ⟨cb, gw, gs, ws, ss, rfl, h1, h2, _⟩
  exact ⟨cb, gw, gs, ws, ss, rfl, h1, ((Fr.refl _ _).alloc _ : Nw w _).trans h2⟩
end Go.Proofs.Ytkpkiajehclbhaa

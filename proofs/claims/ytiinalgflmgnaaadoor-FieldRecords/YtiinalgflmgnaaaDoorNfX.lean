import Derived.Test.YtiinalgflmgnaaaDoorNfO
import Derived.Test.YtiinalgflmgnaaaDoorLzOp
namespace Go.Proofs.YtiinalgflmgnaaaDoor
open Go.ChangeShapes Go.WideShapes Go.ChangeAt Go.RowKit
set_option linter.unusedVariables false
def byOf : Value → By
  | .int _ z => BitVec.ofInt 8 z
  | _ => 0#8
theorem cellsRec : Tryd.prog.cellsOf 28 = 512 := by kernel_rfl
theorem cellsU8 : Tryd.prog.cellsOf 5 = 1 := by kernel_rfl
/-- A record that came in. -/
theorem openedA {H : Type} {enc : TypeId × Value → H} {W : World} {base b0 : Nat} {sp : Nat → Bool} {held : Bool} {v : Value} {d : DataW H} {p : List MemPlace} (hv : Value.okWide Tryd.prog W .any base 28 v) (h : DataW.Trod enc Tryd.prog W b0 sp held 28 v d p) :
    ∃ b : List By, b.length = 512 ∧ v = .agg (rc b) := by
  obtain ⟨cs, rfl, hsz, _⟩ : ∃ cs, v = .agg cs ∧ cs.size = Tryd.prog.cellsOf 28 ∧ Row.okWide Tryd.prog W .any base 28 cs := by
    simpa [Value.okWide, Tryd.underlying28] using hv
  rw [cellsRec] at hsz
  obtain ⟨fuel, hf⟩ := h
  obtain ⟨xs, m, _, hx, hl, hxl, hall⟩ := DataW.trod_array Tryd.underlying28 hf
  have key : ∀ i, i < 512 → ∃ b : By, cs[i]? = some (.int .u8 b.toNat) := fun i hi => by
    have h1 := hall i hi
    obtain ⟨b, hb⟩ : ∃ b, xs[i]? = some b := ⟨xs[i]'(by omega), List.getElem?_eq_getElem (by omega)⟩
    rw [hb, cellsU8] at h1
    obtain ⟨z, hcz, _, hw⟩ := DataW.trod_int Tryd.underlying5 h1
    have h2 : cs[i]? = some (.int .u8 z) := by
      have := congrArg (·[0]?) hcz
      simpa [List.getElem?_take, List.getElem?_drop, Value.cells] using this
    have hb : 0 ≤ z ∧ z ≤ 255 := by
      simp [Lit.wf, IntKind.min, IntKind.max, IntKind.signed, IntKind.bits] at hw
      omega
    refine ⟨BitVec.ofInt 8 z, ?_⟩
    rw [h2, BitVec.toNat_ofInt]
    congr 2
    omega
  refine ⟨cs.toList.map byOf, by rw [List.length_map]; exact hsz, ?_⟩
  congr 1
  apply Array.ext_getElem?
  intro i
  unfold rc
  by_cases hi : i < 512
  · obtain ⟨b, hb⟩ := key i hi
    rw [hb]
    simp only [List.getElem?_toArray, List.getElem?_map, Array.getElem?_toList, hb, Option.map_some]
    congr 2
    simp only [byOf, BitVec.toNat_ofInt]
    have := b.isLt
    omega
  · rw [Array.getElem?_eq_none (by omega), Array.getElem?_eq_none (by simp; omega)]
end Go.Proofs.YtiinalgflmgnaaaDoor

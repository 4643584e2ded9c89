import Derived.Test.YtkpkiajehclbhaaCqK
namespace Go.Proofs.Ytkpkiajehclbhaa
open Go.RowKit
set_option linter.unusedVariables false
theorem bc_walk (w : World) (v0 : Value) (zs : List Int) (h0 : SlR RI (fun _ => False) v0 zs w) (hz : zs.length ≤ 17592186043904) (vb : Value) (b : List By) (hb : Sl (fun _ => False) vb b w) (hbl : b.length ≤ 1099511627776) (z : Int) : Calls Try.prog 5 #[v0, vb, .int .i64 z] w fun e w' => e = .returned (.bool true) ∧ Nw w w' := by
  by_cases hc : IsCode zs
  · obtain ⟨ls, rfl, hk⟩ := hc
    exact bc_yes w v0 ls h0 hk vb b hb hbl z
  · exact bc_no w v0 zs h0 hz vb _ hc
end Go.Proofs.Ytkpkiajehclbhaa

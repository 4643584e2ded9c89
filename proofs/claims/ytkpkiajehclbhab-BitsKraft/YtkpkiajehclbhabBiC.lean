import Derived.Test.YtkpkiajehclbhabBiB
namespace Go.Proofs.Ytkpkiajehclbhab
open Go.RowKit
set_option linter.unusedVariables false
/-- Bits as a byte's. -/
theorem byte_next (v J K : Nat) (hK : K < 8) : v / 256 ^ J % 2 ^ (K + 1) = v / 256 ^ J % 2 ^ K + 2 ^ K * (v / 2 ^ (8 * J + K) % 2) := by
  rw [Nat.pow_add 2 (8 * J), ← Nat.div_div_eq_div_mul, ← pow256, Nat.pow_succ, Nat.mod_mul]
end Go.Proofs.Ytkpkiajehclbhab

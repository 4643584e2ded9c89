import Derived.Test.YtpnacppmdlnjlabLzF
namespace Go.Proofs.Ytpnacppmdlnjlab
open Go.RowKit
set_option linter.unusedVariables false
theorem two_bytes (x y : Nat) (hx : x < 256) (hy : y < 256) : bits .or .i64 (x : Int) ((y : Int) * 256) = ((x + 256 * y : Nat) : Int) := by
  have h2 : y <<< 8 = y * 256 := by rw [Nat.shiftLeft_eq]
  have e : ((y : Int) * (256 : Int)) = ((y <<< 8 : Nat) : Int) := by rw [h2]; omega
  show IntKind.i64.wrap (((BitVec.ofInt 64 (x : Int) ||| BitVec.ofInt 64 ((y : Int) * (256 : Int)) : BitVec 64).toNat : Nat) : Int) = _
  rw [e, BitVec.toNat_or, BitVec.ofInt_natCast, BitVec.ofInt_natCast, BitVec.toNat_ofNat, BitVec.toNat_ofNat]
  rw [Nat.mod_eq_of_lt (show x < 2 ^ 64 by omega), Nat.mod_eq_of_lt (show y <<< 8 < 2 ^ 64 by omega), Nat.or_comm, ← Nat.shiftLeft_add_eq_or_of_lt (show x < 2 ^ 8 by omega), h2, IntKind.wrap_i64]
  omega
end Go.Proofs.Ytpnacppmdlnjlab

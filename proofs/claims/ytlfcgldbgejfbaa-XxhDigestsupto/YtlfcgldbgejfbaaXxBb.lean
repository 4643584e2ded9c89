import Derived.Test.YtlfcgldbgejfbaaXxC
namespace Go.Proofs.Ytlfcgldbgejfbaa
open Go.RowKit
set_option linter.unusedVariables false
/-- The lanes, of which the first i are new. -/
def La.upto {n : Nat} (x y : La n) (i : Nat) : La n := ⟨if 0 < i then y.a else x.a, if 1 < i then y.b else x.b, if 2 < i then y.c else x.c, if 3 < i then y.d else x.d⟩
theorem La.upto0 {n : Nat} (x y : La n) : La.upto x y 0 = x := rfl
theorem La.upto4 {n : Nat} (x y : La n) : La.upto x y 4 = y := rfl
theorem upto_at0 {n : Nat} (x y : La n) : (La.upto x y 0).a = x.a := by simp [La.upto]
theorem upto_at1 {n : Nat} (x y : La n) : (La.upto x y 1).b = x.b := by simp [La.upto]
theorem upto_at2 {n : Nat} (x y : La n) : (La.upto x y 2).c = x.c := by simp [La.upto]
theorem upto_at3 {n : Nat} (x y : La n) : (La.upto x y 3).d = x.d := by simp [La.upto]
theorem mod_split (n size : Nat) : n / size * size + n % size = n := by have := Nat.div_add_mod n size; rw [Nat.mul_comm] at this; exact this
def joN (x : La 64) (J : BitVec 64) : Nat → BitVec 64
  | 0 => J
  | 1 => jo64 J x.a
  | 2 => jo64 (jo64 J x.a) x.b
  | 3 => jo64 (jo64 (jo64 J x.a) x.b) x.c
  | _ => jo64 (jo64 (jo64 (jo64 J x.a) x.b) x.c) x.d
theorem i_xa32 (h : BitVec 32) : bits .xor .u32 (h.toNat : Int) ((h.toNat : Int) / 32768) * 2246822519 % 4294967296 = ((xa32 h).toNat : Int) := by
  rw [xa32, i_mul32, ← i_xor32, i_shr]; rfl
theorem i_xb32 (h : BitVec 32) : bits .xor .u32 (h.toNat : Int) ((h.toNat : Int) / 8192) * 3266489917 % 4294967296 = ((xb32 h).toNat : Int) := by
  rw [xb32, i_mul32, ← i_xor32, i_shr]; rfl
theorem i_xc32 (h : BitVec 32) : bits .xor .u32 (h.toNat : Int) ((h.toNat : Int) / 65536) = ((xc32 h).toNat : Int) := by
  rw [xc32, ← i_xor32, i_shr]; rfl
theorem i_xa64 (h : BitVec 64) : bits .xor .u64 (h.toNat : Int) ((h.toNat : Int) / 8589934592) * 14029467366897019727 % 18446744073709551616 = ((xa64 h).toNat : Int) := by
  rw [xa64, i_mul64, ← i_xor64, i_shr]; rfl
theorem i_xb64 (h : BitVec 64) : bits .xor .u64 (h.toNat : Int) ((h.toNat : Int) / 536870912) * 1609587929392839161 % 18446744073709551616 = ((xb64 h).toNat : Int) := by
  rw [xb64, i_mul64, ← i_xor64, i_shr]; rfl
theorem i_xc64 (h : BitVec 64) : bits .xor .u64 (h.toNat : Int) ((h.toNat : Int) / 4294967296) = ((xc64 h).toNat : Int) := by
  rw [xc64, ← i_xor64, i_shr]; rfl
theorem mod1 (n : Nat) : n / 1 = n := Nat.div_one n
end Go.Proofs.Ytlfcgldbgejfbaa

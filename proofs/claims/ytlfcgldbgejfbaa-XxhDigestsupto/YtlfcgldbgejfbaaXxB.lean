import Derived.Test.YtlfcgldbgejfbaaXxA
namespace Go.Proofs.Ytlfcgldbgejfbaa
open Go.RowKit
set_option linter.unusedVariables false

/-! ### The sums, as the document has them -/
def num : List By → Nat
  | [] => 0
  | b :: r => b.toNat + 256 * num r
def lo32 (l : List By) : BitVec 32 := BitVec.ofNat 32 (num (l.take 4))
def lo64 (l : List By) : BitVec 64 := BitVec.ofNat 64 (num (l.take 8))
def by32 (l : List By) : BitVec 32 := BitVec.ofNat 32 (num (l.take 1))
def by64 (l : List By) : BitVec 64 := BitVec.ofNat 64 (num (l.take 1))
def hf64 (l : List By) : BitVec 64 := BitVec.ofNat 64 (num (l.take 4))
/-- k pieces of a size, in turn. -/
def foldc {α : Type} (size : Nat) (f : α → List By → α) : Nat → α → List By → α
  | 0, a, _ => a
  | k + 1, a, l => foldc size f k (f a (l.take size)) (l.drop size)
structure La (n : Nat) where
  a : BitVec n
  b : BitVec n
  c : BitVec n
  d : BitVec n

def rd32 (v w : BitVec 32) : BitVec 32 := (v + w * 2246822519#32).rotateLeft 13 * 2654435761#32
def ini32 (s : BitVec 32) : La 32 := ⟨s + 2654435761#32 + 2246822519#32, s + 2246822519#32, s, s - 2654435761#32⟩
def mix32 (x : La 32) (p : List By) : La 32 := ⟨rd32 x.a (lo32 p), rd32 x.b (lo32 (p.drop 4)), rd32 x.c (lo32 (p.drop 8)), rd32 x.d (lo32 (p.drop 12))⟩
def join32 (x : La 32) : BitVec 32 := x.a.rotateLeft 1 + x.b.rotateLeft 7 + x.c.rotateLeft 12 + x.d.rotateLeft 18
def wd32 (h : BitVec 32) (p : List By) : BitVec 32 := (h + lo32 p * 3266489917#32).rotateLeft 17 * 668265263#32
def bt32 (h : BitVec 32) (p : List By) : BitVec 32 := (h + by32 p * 374761393#32).rotateLeft 11 * 2654435761#32
def xa32 (h : BitVec 32) : BitVec 32 := (h ^^^ (h >>> 15)) * 2246822519#32
def xb32 (h : BitVec 32) : BitVec 32 := (h ^^^ (h >>> 13)) * 3266489917#32
def xc32 (h : BitVec 32) : BitVec 32 := h ^^^ (h >>> 16)
def ava32 (h : BitVec 32) : BitVec 32 := xc32 (xb32 (xa32 h))
def str32 (s : BitVec 32) (l : List By) : La 32 := foldc 16 mix32 (l.length / 16) (ini32 s) l
def beg32 (s : BitVec 32) (l : List By) : BitVec 32 := if l.length < 16 then s + 374761393#32 else join32 (str32 s l)
def fin32 (h : BitVec 32) (t : List By) : BitVec 32 :=
  ava32 (foldc 1 bt32 (t.length % 4) (foldc 4 wd32 (t.length / 4) h t) (t.drop (t.length / 4 * 4)))
def s32 (s : BitVec 32) (l : List By) : BitVec 32 := fin32 (beg32 s l + BitVec.ofNat 32 l.length) (l.drop (l.length / 16 * 16))

def rd64 (v w : BitVec 64) : BitVec 64 := (v + w * 14029467366897019727#64).rotateLeft 31 * 11400714785074694791#64
def ini64 (s : BitVec 64) : La 64 := ⟨s + 11400714785074694791#64 + 14029467366897019727#64, s + 14029467366897019727#64, s, s - 11400714785074694791#64⟩
def mix64 (x : La 64) (p : List By) : La 64 := ⟨rd64 x.a (lo64 p), rd64 x.b (lo64 (p.drop 8)), rd64 x.c (lo64 (p.drop 16)), rd64 x.d (lo64 (p.drop 24))⟩
def jo64 (h v : BitVec 64) : BitVec 64 := (h ^^^ rd64 0#64 v) * 11400714785074694791#64 + 9650029242287828579#64
def joi64 (x : La 64) : BitVec 64 := x.a.rotateLeft 1 + x.b.rotateLeft 7 + x.c.rotateLeft 12 + x.d.rotateLeft 18
def join64 (x : La 64) : BitVec 64 := jo64 (jo64 (jo64 (jo64 (joi64 x) x.a) x.b) x.c) x.d
def wd64 (h : BitVec 64) (p : List By) : BitVec 64 := (h ^^^ rd64 0#64 (lo64 p)).rotateLeft 27 * 11400714785074694791#64 + 9650029242287828579#64
def hw64 (h : BitVec 64) (p : List By) : BitVec 64 := (h ^^^ (hf64 p * 11400714785074694791#64)).rotateLeft 23 * 14029467366897019727#64 + 1609587929392839161#64
def bt64 (h : BitVec 64) (p : List By) : BitVec 64 := (h ^^^ (by64 p * 2870177450012600261#64)).rotateLeft 11 * 11400714785074694791#64
def xa64 (h : BitVec 64) : BitVec 64 := (h ^^^ (h >>> 33)) * 14029467366897019727#64
def xb64 (h : BitVec 64) : BitVec 64 := (h ^^^ (h >>> 29)) * 1609587929392839161#64
def xc64 (h : BitVec 64) : BitVec 64 := h ^^^ (h >>> 32)
def ava64 (h : BitVec 64) : BitVec 64 := xc64 (xb64 (xa64 h))
def str64 (s : BitVec 64) (l : List By) : La 64 := foldc 32 mix64 (l.length / 32) (ini64 s) l
def beg64 (s : BitVec 64) (l : List By) : BitVec 64 := if l.length < 32 then s + 2870177450012600261#64 else join64 (str64 s l)
def fin64 (h : BitVec 64) (t : List By) : BitVec 64 :=
  let t1 := t.drop (t.length / 8 * 8)
  let t2 := t1.drop (t1.length / 4 * 4)
  ava64 (foldc 1 bt64 t2.length (foldc 4 hw64 (t1.length / 4) (foldc 8 wd64 (t.length / 8) h t) t1) t2)
def s64 (s : BitVec 64) (l : List By) : BitVec 64 := fin64 (beg64 s l + BitVec.ofNat 64 l.length) (l.drop (l.length / 32 * 32))

/-! ### Pieces -/
theorem foldc_snoc {α : Type} (size : Nat) (f : α → List By → α) (k : Nat) (a : α) (l : List By) : foldc size f (k + 1) a l = f (foldc size f k a l) ((l.drop (k * size)).take size) := by
  induction k generalizing a l with
  | zero => simp [foldc]
  | succ k ih =>
    show foldc size f (k + 1) (f a (l.take size)) (l.drop size) = _
    rw [ih]
    show f (foldc size f k (f a (l.take size)) (l.drop size)) _ = f (foldc size f k (f a (l.take size)) (l.drop size)) _
    rw [List.drop_drop, show size + k * size = (k + 1) * size by rw [Nat.add_mul]; omega]
theorem foldc_app {α : Type} (size : Nat) (f : α → List By → α) (j k : Nat) (a : α) (x y : List By) (hx : x.length = j * size) : foldc size f (j + k) a (x ++ y) = foldc size f k (foldc size f j a x) y := by
  induction j generalizing a x with
  | zero =>
    have : x = [] := List.length_eq_zero_iff.1 (by simpa using hx)
    subst this; simp [foldc]
  | succ j ih =>
    have hx' : size ≤ x.length := by rw [hx, Nat.add_mul]; omega
    rw [show j + 1 + k = (j + k) + 1 by omega]
    show foldc size f (j + k) (f a ((x ++ y).take size)) ((x ++ y).drop size) = _
    rw [List.take_append_of_le_length hx', List.drop_append_of_le_length hx', ih]
    · rfl
    · simp [hx, Nat.add_mul]
theorem foldc_pre {α : Type} (size : Nat) (f : α → List By → α) (k : Nat) (a : α) (x y : List By) (hx : k * size ≤ x.length) : foldc size f k a (x ++ y) = foldc size f k a x := by
  induction k generalizing a x with
  | zero => rfl
  | succ k ih =>
    have hx' : size ≤ x.length := by rw [Nat.add_mul] at hx; omega
    show foldc size f k (f a ((x ++ y).take size)) ((x ++ y).drop size) = foldc size f k (f a (x.take size)) (x.drop size)
    rw [List.take_append_of_le_length hx', List.drop_append_of_le_length hx', ih]
    rw [Nat.add_mul] at hx
    simp; omega

/-! ### Words -/
theorem num_lt (l : List By) : num l < 256 ^ l.length := by
  induction l with
  | nil => simp [num]
  | cons b r ih =>
    have := b.isLt
    simp only [num, List.length_cons, Nat.pow_succ]
    omega
theorem take4 (l : List By) (h : 4 ≤ l.length) : ∃ a b c d, l.take 4 = [a, b, c, d] ∧ l[0]? = some a ∧ l[1]? = some b ∧ l[2]? = some c ∧ l[3]? = some d := by
  match l, h with
  | a :: b :: c :: d :: r, _ => exact ⟨a, b, c, d, rfl, rfl, rfl, rfl, rfl⟩
theorem lo32_nat (l : List By) (a b c d : By) (h : l.take 4 = [a, b, c, d]) : (lo32 l).toNat = a.toNat + b.toNat * 256 + c.toNat * 65536 + d.toNat * 16777216 := by
  have ha := a.isLt; have hb := b.isLt; have hc := c.isLt; have hd := d.isLt
  simp only [lo32, h, num, BitVec.toNat_ofNat]
  omega
theorem num_app (x y : List By) : num (x ++ y) = num x + 256 ^ x.length * num y := by
  induction x with
  | nil => simp [num]
  | cons b r ih => simp only [List.cons_append, num, ih, List.length_cons, Nat.pow_succ, Nat.mul_add]; rw [Nat.mul_comm (256 ^ r.length) 256, Nat.mul_assoc]; omega
theorem lo64_nat (l : List By) (h : 8 ≤ l.length) : (lo64 l).toNat = (lo32 l).toNat + (lo32 (l.drop 4)).toNat * 4294967296 := by
  have h1 : l.take 8 = l.take 4 ++ (l.drop 4).take 4 := by rw [show (8 : Nat) = 4 + 4 from rfl, List.take_add]
  have e1 : (l.take 4).length = 4 := by simp; omega
  have e2 : ((l.drop 4).take 4).length = 4 := by simp; omega
  have b1 := num_lt (l.take 4)
  have b2 := num_lt ((l.drop 4).take 4)
  rw [e1] at b1; rw [e2] at b2
  simp only [lo64, lo32, BitVec.toNat_ofNat, h1, num_app, e1]
  omega
theorem hf64_nat (l : List By) (h : 4 ≤ l.length) : (hf64 l).toNat = (lo32 l).toNat := by
  have e1 : (l.take 4).length = 4 := by simp; omega
  have b1 := num_lt (l.take 4)
  rw [e1] at b1
  simp only [hf64, lo32, BitVec.toNat_ofNat]
  omega
theorem by32_nat (l : List By) (a : By) (h : l[0]? = some a) : (by32 l).toNat = a.toNat := by
  match l, h with
  | x :: r, h =>
    simp at h; subst h
    have := x.isLt
    simp only [by32, List.take_succ_cons, List.take_zero, num, BitVec.toNat_ofNat]
    omega
theorem by64_nat (l : List By) (a : By) (h : l[0]? = some a) : (by64 l).toNat = a.toNat := by
  match l, h with
  | x :: r, h =>
    simp at h; subst h
    have := x.isLt
    simp only [by64, List.take_succ_cons, List.take_zero, num, BitVec.toNat_ofNat]
    omega

/-! ### Numbers of 32 and 64 bits, as the machine reckons -/
theorem i_add32 (x y : BitVec 32) : ((x + y).toNat : Int) = ((x.toNat : Int) + y.toNat) % 4294967296 := by rw [BitVec.toNat_add]; omega
theorem i_mul32 (x y : BitVec 32) : ((x * y).toNat : Int) = ((x.toNat : Int) * y.toNat) % 4294967296 := by rw [BitVec.toNat_mul]; simp
theorem i_add64 (x y : BitVec 64) : ((x + y).toNat : Int) = ((x.toNat : Int) + y.toNat) % 18446744073709551616 := by rw [BitVec.toNat_add]; omega
theorem i_mul64 (x y : BitVec 64) : ((x * y).toNat : Int) = ((x.toNat : Int) * y.toNat) % 18446744073709551616 := by rw [BitVec.toNat_mul]; simp
theorem i_sub32 (x y : BitVec 32) : ((x - y).toNat : Int) = ((x.toNat : Int) - y.toNat) % 4294967296 := by
  have hx := x.isLt; have hy := y.isLt
  rw [BitVec.toNat_sub]; omega
theorem i_sub64 (x y : BitVec 64) : ((x - y).toNat : Int) = ((x.toNat : Int) - y.toNat) % 18446744073709551616 := by
  have hx := x.isLt; have hy := y.isLt
  rw [BitVec.toNat_sub]; omega
theorem i_xor32 (x y : BitVec 32) : bits .xor .u32 (x.toNat : Int) (y.toNat : Int) = ((x ^^^ y).toNat : Int) := by
  rw [u32_xor_nat _ _ x.isLt y.isLt, BitVec.toNat_xor]
theorem i_xor64 (x y : BitVec 64) : bits .xor .u64 (x.toNat : Int) (y.toNat : Int) = ((x ^^^ y).toNat : Int) := by
  rw [u64_xor_nat _ _ x.isLt y.isLt, BitVec.toNat_xor]
theorem i_shr {n : Nat} (x : BitVec n) (k : Nat) : ((x >>> k).toNat : Int) = (x.toNat : Int) / (2 ^ k : Nat) := by
  rw [BitVec.toNat_ushiftRight, Nat.shiftRight_eq_div_pow]; rfl
theorem rotl {n : Nat} (x : BitVec n) (k : Nat) (h1 : k < n) : (x.rotateLeft k).toNat = (x.toNat * 2 ^ k % 2 ^ n) ||| (x.toNat / 2 ^ (n - k)) := by
  rw [BitVec.rotateLeft_def, Nat.mod_eq_of_lt h1, BitVec.toNat_or, BitVec.toNat_shiftLeft, BitVec.toNat_ushiftRight, Nat.shiftLeft_eq, Nat.shiftRight_eq_div_pow]
theorem rotl_add {n : Nat} (x : BitVec n) (k : Nat) (h1 : k < n) : (x.rotateLeft k).toNat = (x.toNat * 2 ^ k % 2 ^ n) + (x.toNat / 2 ^ (n - k)) := by
  rw [rotl x k h1]
  apply nat_join k
  · rw [show 2 ^ n = 2 ^ k * 2 ^ (n - k) by rw [← Nat.pow_add]; congr 1; omega, Nat.mul_comm (x.toNat), Nat.mul_mod_mul_left, Nat.mul_mod_right]
  · have hx := x.isLt
    have e : 2 ^ n = 2 ^ k * 2 ^ (n - k) := by rw [← Nat.pow_add]; congr 1; omega
    rw [e] at hx
    exact (Nat.div_lt_iff_lt_mul (Nat.two_pow_pos _)).2 hx
end Go.Proofs.Ytlfcgldbgejfbaa

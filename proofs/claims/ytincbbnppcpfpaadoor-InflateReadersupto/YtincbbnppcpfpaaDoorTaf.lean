import Derived.Test.YtincbbnppcpfpaaDoorTae
import Derived.Laws.MakeOwn
namespace Go.Proofs.YtincbbnppcpfpaaDoor
open Go.RowKit
set_option linter.unusedVariables false
/-- Two lists of bytes, byte by byte. -/
theorem eq_upto (l m : List By) (k : Nat) (h : l.length = m.length) (hk : k ≤ l.length) (he : ∀ j, j < k → l[j]? = m[j]?) (hd : k = l.length) : l = m := by
  apply List.ext_getElem?
  intro i
  by_cases hi : i < k
  · exact he i hi
  · rw [List.getElem?_eq_none (by omega), List.getElem?_eq_none (by omega)]
theorem Sl.in' {X : Nat → Prop} {v : Value} {b : List By} {w : World} (h : Sl X v b w) (hs : b.length ≤ 200000000000000) : ∃ a c, v = .slice a b.length c ∧ In a c b w := by
  rcases h with ⟨a, rfl, rfl⟩ | ⟨g, _, o, c, rfl, h1, h2, h3⟩
  · exact ⟨a, 0, rfl, by simp, by simp, by simp, fun h => absurd rfl h⟩
  · exact ⟨_, c, rfl, h1, h2, hs, fun _ => ⟨g, o, rfl, h3⟩⟩
end Go.Proofs.YtincbbnppcpfpaaDoor

namespace Go.Proofs.YtincbbnppcpfpaaDoor
open Go.RowKit
set_option linter.unusedVariables false
theorem madeB (n : Nat) : (madeCells (Value.int .u8 0).cells n) = ((List.replicate n 0#8).map bv).toArray := by
  apply Array.ext'
  apply List.ext_getElem?
  intro k
  by_cases hk : k < n
  · simp [madeCells, Value.cells, hk, Nat.mod_one]
  · rw [List.getElem?_eq_none (by simp [madeCells, Value.cells]; omega), List.getElem?_eq_none (by simp; omega)]
/-- Room for bytes. -/
theorem make_any (w : World) (n : Nat) (hn : n ≤ 200000000000000) : ∃ W, (Instr.makeSlice 22 (.int .i64 0) (.int .i64 n)).run Tryd.prog w = .ok (.slice (some ⟨w.heap.size, 0, none⟩) 0 n) W ∧ Ow w.heap.size (.slice (some ⟨w.heap.size, 0, none⟩) 0 n) [] W ∧ Nw w W ∧ W.heap.size = w.heap.size + 1 := by
  obtain ⟨i, hi, hz, hs, hby⟩ := infoB
  have h := run_make (P := Tryd.prog) w 22 5 i _ Tryd.underlying22 hi hz .i64 .i64 0 n (Int.le_refl _) (by omega) (by rw [hby]; omega) (by omega)
  simp only [Int.toNat_zero, Int.toNat_natCast, hs, Nat.mul_one, madeB] at h
  refine ⟨_, h, ⟨List.replicate n 0#8, by simp, by simp, by simp, by simp; omega, ?_⟩, (Fr.refl _ _).alloc _, by simp⟩
  exact new_heap _ _
def marks : Nat → List By
  | 0 => []
  | k + 1 => marks k ++ [BitVec.ofNat 8 (171 + k)]
theorem marks_length (k : Nat) : (marks k).length = k := by
  induction k with
  | zero => rfl
  | succ k ih => simp [marks, ih]
theorem marks_at (k j : Nat) (h : j < k) : (marks k)[j]? = some (BitVec.ofNat 8 (171 + j)) := by
  induction k with
  | zero => omega
  | succ k ih =>
    have := marks_length k
    by_cases hj : j < k
    · simp only [marks]
      rw [List.getElem?_append_left (by omega)]; exact ih hj
    · obtain rfl : j = k := by omega
      simp only [marks]
      rw [List.getElem?_append_right (by omega), this]; simp
theorem one_byte' (w : World) (x : By) (z : Int) (hz : z = x.toNat) : Sl (fun _ => False) (.slice (some ⟨w.heap.size, 0, none⟩) 1 1) [x] (w.alloc (.cells #[.int .u8 z] 5)) := by
  subst hz; exact one_byte w x
/-- One byte more, in a block of one's own. -/
theorem own_step (g : Nat) (l : List By) (wr : World) (c : Nat) (h : Ow g (.slice (some ⟨g, 0, none⟩) l.length c) l wr) (hs : l.length ≤ 150000000000000) (x : By) (z : Int) (hz : z = x.toNat) :
    ∃ g' c' W, Hid (∀ ty, (Builtin.append_ #[22, 22] ty #[.slice (some ⟨g, 0, none⟩) l.length c, .slice (some ⟨wr.heap.size, 0, none⟩) 1 1]).run Tryd.prog (wr.alloc (.cells #[.int .u8 z] 5)) = .ok (.slice (some ⟨g', 0, none⟩) (l.length + 1) c') W) ∧ Hid (Ow g' (.slice (some ⟨g', 0, none⟩) (l.length + 1) c') (l ++ [x]) W ∧ Fr (fun k => k = g) wr W ∧ (g' = g ∨ wr.heap.size ≤ g')) := by
  have hN : Nw wr (wr.alloc (.cells #[.int .u8 z] 5)) := (Fr.refl _ _).alloc _
  obtain ⟨v', g', W, hap, hO, hF, hg⟩ := app_any _ g _ l (h.nw hN) _ _ (one_byte' wr x z hz) (by simp; omega)
  have hO' := hO
  obtain ⟨xs, rfl, _⟩ := hO'
  rw [List.length_append] at hO hap
  refine ⟨g', xs.length, W, hap, hO, hN.any.trans hF, ?_⟩
  rcases hg with h | h
  · exact .inl h
  · exact .inr (by simp at h; omega)
/-- What lent answers. -/
def Lentd (b : List By) (w : World) (e : Ending) (w' : World) : Prop :=
  ∃ g c, e = .returned (.tuple #[.slice (some ⟨g, 0, none⟩) b.length c, .slice (some ⟨g, 0, none⟩) (b.length + 32) c]) ∧ w.heap.size ≤ g ∧ Ow g (.slice (some ⟨g, 0, none⟩) (b.length + 32) c) (b ++ marks 32) w' ∧ Nw w w'
end Go.Proofs.YtincbbnppcpfpaaDoor

namespace Go.Proofs.YtincbbnppcpfpaaDoor
open Go.RowKit
set_option linter.unusedVariables false
/-- One byte more, nil or own. -/
theorem mine_step (K : Nat → Prop) (l : List By) (wr : World) (hK : ∀ k, K k → k < wr.heap.size) (v : Value) (h : Mine K v l wr) (hs : l.length ≤ 150000000000000) (x : By) (z : Int) (hz : z = x.toNat) :
    ∃ a c v' W, v = .slice a l.length c ∧ Hid (∀ ty, (Builtin.append_ #[22, 22] ty #[.slice a l.length c, .slice (some ⟨wr.heap.size, 0, none⟩) 1 1]).run Tryd.prog (wr.alloc (.cells #[.int .u8 z] 5)) = .ok v' W) ∧ Hid (Mine K v' (l ++ [x]) W ∧ Fr (fun k => ¬ K k) wr W) := by
  have hN : Nw wr (wr.alloc (.cells #[.int .u8 z] 5)) := (Fr.refl _ _).alloc _
  have hsz : (wr.alloc (.cells #[.int .u8 z] 5)).heap.size = wr.heap.size + 1 := by simp
  obtain ⟨v', W, hap, hM, hF⟩ := mine_app K _ (fun k hk => by rw [hsz]; have := hK k hk; omega) v l (h.nw hN) _ _ (one_byte' wr x z hz) (by simp; omega)
  obtain ⟨a, c, rfl, _, _⟩ := h.sl.form
  exact ⟨a, c, v', W, rfl, hap, hM, hN.any.trans hF⟩
end Go.Proofs.YtincbbnppcpfpaaDoor

namespace Go.Proofs.YtincbbnppcpfpaaDoor
open Go.RowKit
set_option linter.unusedVariables false
/-! ### Bytes and bits as numbers -/
/-- A number, lowest byte first. -/
def le : List By → Nat
  | [] => 0
  | b :: r => b.toNat + 256 * le r
/-- The lowest bytes of a number. -/
def lows (n : Nat) : Nat → List By
  | 0 => []
  | k + 1 => BitVec.ofNat 8 n :: lows (n / 256) k
theorem lows_length (n k : Nat) : (lows n k).length = k := by
  induction k generalizing n with
  | zero => rfl
  | succ k ih => simp [lows, ih]
theorem le_lt (l : List By) : le l < 256 ^ l.length := by
  induction l with
  | nil => simp [le]
  | cons b r ih =>
    have := b.isLt
    simp only [le, List.length_cons, Nat.pow_succ]
    omega
theorem le_lows (n k : Nat) : le (lows n k) = n % 256 ^ k := by
  induction k generalizing n with
  | zero => simp [lows, le, Nat.mod_one]
  | succ k ih =>
    simp only [lows, le, BitVec.toNat_ofNat, ih]
    rw [show 256 ^ (k + 1) = 256 * 256 ^ k by rw [Nat.pow_succ, Nat.mul_comm], Nat.mod_mul]
theorem le_inj : ∀ (a b : List By), a.length = b.length → le a = le b → a = b
  | [], [], _, _ => rfl
  | x :: r, y :: s, h, e => by
    have := x.isLt
    have := y.isLt
    simp only [le] at e
    have h1 : x = y := BitVec.eq_of_toNat_eq (by omega)
    have h2 := le_inj r s (by simpa using h) (by omega)
    rw [h1, h2]
theorem lows_le (l : List By) : lows (le l) l.length = l :=
  le_inj _ _ (lows_length _ _) (by rw [le_lows, Nat.mod_eq_of_lt (le_lt l)])
theorem le_append (a b : List By) : le (a ++ b) = le a + 256 ^ a.length * le b := by
  induction a with
  | nil => simp [le]
  | cons x r ih => simp only [List.cons_append, le, ih, List.length_cons, Nat.pow_succ, Nat.mul_add]; rw [Nat.mul_comm (256 ^ _) 256, Nat.mul_assoc]; omega
theorem le_take (l : List By) (k : Nat) : le (l.take k) = le l % 256 ^ k := by
  by_cases h : k ≤ l.length
  · have h1 := le_append (l.take k) (l.drop k)
    rw [List.take_append_drop] at h1
    have h2 := le_lt (l.take k)
    rw [List.length_take, Nat.min_eq_left h] at h1 h2
    rw [h1, Nat.add_mul_mod_self_left, Nat.mod_eq_of_lt h2]
  · rw [List.take_of_length_le (by omega), Nat.mod_eq_of_lt (Nat.lt_of_lt_of_le (le_lt l) (Nat.pow_le_pow_right (by decide) (by omega)))]
theorem le_drop (l : List By) (k : Nat) : le (l.drop k) = le l / 256 ^ k := by
  by_cases h : k ≤ l.length
  · have h1 := le_append (l.take k) (l.drop k)
    rw [List.take_append_drop] at h1
    have h2 := le_lt (l.take k)
    rw [List.length_take, Nat.min_eq_left h] at h1 h2
    rw [h1, Nat.add_mul_div_left _ _ (Nat.pow_pos (by decide)), Nat.div_eq_of_lt h2, Nat.zero_add]
  · rw [List.drop_eq_nil_of_le (by omega), Nat.div_eq_of_lt (Nat.lt_of_lt_of_le (le_lt l) (Nat.pow_le_pow_right (by decide) (by omega)))]; rfl
theorem le_at (l : List By) (i : Nat) (h : i < l.length) : l[i].toNat = le l / 256 ^ i % 256 := by
  rw [← le_drop, List.drop_eq_getElem_cons h, le]
  have := (l[i]).isLt
  omega
theorem lows_succ (v n : Nat) : lows v (n + 1) = lows v n ++ [BitVec.ofNat 8 (v / 256 ^ n)] := by
  induction n generalizing v with
  | zero => simp [lows]
  | succ n ih =>
    rw [lows, ih, lows, List.cons_append, Nat.div_div_eq_div_mul, Nat.pow_succ, Nat.mul_comm 256]
theorem pow256 (k : Nat) : 256 ^ k = 2 ^ (8 * k) := by rw [Nat.pow_mul]
/-- The lowest bits of a number, a byte each. -/
def bl (v : Nat) : Nat → List By
  | 0 => []
  | k + 1 => BitVec.ofNat 8 (v % 2) :: bl (v / 2) k
theorem bl_length (v n : Nat) : (bl v n).length = n := by
  induction n generalizing v with
  | zero => rfl
  | succ n ih => simp [bl, ih]
theorem bl_succ (v n : Nat) : bl v (n + 1) = bl v n ++ [BitVec.ofNat 8 (v / 2 ^ n % 2)] := by
  induction n generalizing v with
  | zero => simp [bl]
  | succ n ih =>
    rw [bl, ih, bl, List.cons_append, Nat.div_div_eq_div_mul, Nat.pow_succ, Nat.mul_comm 2]
theorem bl_drop (v n k : Nat) : (bl v n).drop k = bl (v / 2 ^ k) (n - k) := by
  induction k generalizing v n with
  | zero => simp
  | succ k ih =>
    cases n with
    | zero => simp [bl]
    | succ n => rw [bl, List.drop_succ_cons, ih, Nat.div_div_eq_div_mul, Nat.pow_succ, Nat.mul_comm 2]; congr 1; omega
theorem bl_take (v n k : Nat) (h : k ≤ n) : (bl v n).take k = bl v k := by
  induction k generalizing v n with
  | zero => simp [bl]
  | succ k ih =>
    cases n with
    | zero => omega
    | succ n => rw [bl, List.take_succ_cons, ih _ _ (by omega), bl]
theorem bl_at (v n i : Nat) (h : i < n) : (bl v n)[i]? = some (BitVec.ofNat 8 (v / 2 ^ i % 2)) := by
  have h1 : (bl v n).drop i = _ := bl_drop v n i
  obtain ⟨m, hm⟩ : ∃ m, n - i = m + 1 := ⟨n - i - 1, by omega⟩
  rw [hm, bl] at h1
  have : ((bl v n).drop i)[0]? = some (BitVec.ofNat 8 (v / 2 ^ i % 2)) := by rw [h1]; rfl
  rw [List.getElem?_drop] at this
  exact this
theorem bl_mod (v n m : Nat) (h : n ≤ m) : bl (v % 2 ^ m) n = bl v n := by
  apply List.ext_getElem?
  intro i
  by_cases hi : i < n
  · rw [bl_at _ _ _ hi, bl_at _ _ _ hi]
    congr 2
    have e : 2 ^ m = 2 ^ i * (2 * 2 ^ (m - i - 1)) := by rw [← Nat.pow_succ', ← Nat.pow_add]; congr 1; omega
    rw [e, Nat.mod_mul_right_div_self, Nat.mod_mul_right_mod]
  · rw [List.getElem?_eq_none (by rw [bl_length]; omega), List.getElem?_eq_none (by rw [bl_length]; omega)]
end Go.Proofs.YtincbbnppcpfpaaDoor

namespace Go.Proofs.YtincbbnppcpfpaaDoor
open Go.RowKit
set_option linter.unusedVariables false
/-! ### Bits turned round -/
/-- The lowest n bits, the last one first. -/
def rev : Nat → Nat → Nat
  | 0, _ => 0
  | n + 1, x => (x % 2) * 2 ^ n + rev n (x / 2)
theorem rev_lt (n x : Nat) : rev n x < 2 ^ n := by
  induction n generalizing x with
  | zero => simp [rev]
  | succ n ih =>
    have h1 := ih (x / 2)
    have h2 : x % 2 < 2 := Nat.mod_lt _ (by decide)
    rw [rev, Nat.pow_succ]
    have h3 : (x % 2) * 2 ^ n ≤ 1 * 2 ^ n := Nat.mul_le_mul_right _ (by omega)
    omega
theorem rev_add (n k x : Nat) : rev (n + k) x = rev n x * 2 ^ k + rev k (x / 2 ^ n) := by
  induction n generalizing x with
  | zero => simp [rev]
  | succ n ih =>
    rw [show n + 1 + k = n + k + 1 by omega, rev, ih, rev, Nat.add_mul, Nat.mul_assoc, ← Nat.pow_add, Nat.add_assoc, Nat.div_div_eq_div_mul, Nat.pow_succ, Nat.mul_comm 2]
/-- The highest bits of what was turned are the lowest, turned. -/
theorem rev_div (n m x : Nat) (h : n ≤ m) : rev m x / 2 ^ (m - n) = rev n x := by
  have e := rev_add n (m - n) x
  rw [show n + (m - n) = m by omega] at e
  rw [e, Nat.mul_comm, Nat.mul_add_div (Nat.pow_pos (by decide)), Nat.div_eq_of_lt (rev_lt _ _), Nat.add_zero]
theorem rev_mod (n m x : Nat) (h : n ≤ m) : rev n (x % 2 ^ m) = rev n x := by
  induction n generalizing x m with
  | zero => rfl
  | succ n ih =>
    obtain ⟨k, rfl⟩ : ∃ k, m = k + 1 := ⟨m - 1, by omega⟩
    rw [rev, rev]
    have e1 : x % 2 ^ (k + 1) % 2 = x % 2 := by rw [Nat.pow_succ, Nat.mul_comm, Nat.mod_mul_right_mod]
    have e2 : x % 2 ^ (k + 1) / 2 = x / 2 % 2 ^ k := by rw [Nat.pow_succ, Nat.mul_comm, Nat.mod_mul_right_div_self]
    rw [e1, e2, ih k _ (by omega)]
theorem rev_snoc (n x : Nat) : rev (n + 1) x = rev n x * 2 + x / 2 ^ n % 2 := by
  have := rev_add n 1 x
  rw [this]
  simp [rev]
theorem rev_rev (n x : Nat) : rev n (rev n x) = x % 2 ^ n := by
  induction n generalizing x with
  | zero => simp [rev, Nat.mod_one]
  | succ n ih =>
    rw [rev_snoc n x, rev]
    have h2 : x / 2 ^ n % 2 < 2 := Nat.mod_lt _ (by decide)
    rw [show (rev n x * 2 + x / 2 ^ n % 2) % 2 = x / 2 ^ n % 2 by omega, show (rev n x * 2 + x / 2 ^ n % 2) / 2 = rev n x by omega, ih, Nat.pow_succ, Nat.mod_mul, Nat.mul_comm (x / 2 ^ n % 2)]
    omega
theorem rev_eq (n x c : Nat) (hc : c < 2 ^ n) : rev n x = c ↔ x % 2 ^ n = rev n c := by
  constructor
  · intro h; rw [← h, rev_rev]
  · intro h
    have : rev n (x % 2 ^ n) = rev n (rev n c) := by rw [h]
    rw [rev_rev, Nat.mod_eq_of_lt hc, rev_mod n n x (Nat.le_refl _)] at this
    exact this
theorem rev_test (n x i : Nat) (hi : i < n) : (rev n x).testBit i = x.testBit (n - 1 - i) := by
  induction n generalizing x i with
  | zero => omega
  | succ n ih =>
    rw [rev]
    by_cases h : i = n
    · subst h
      rw [Nat.testBit, Nat.shiftRight_eq_div_pow, Nat.add_comm, Nat.add_mul_div_right _ _ (Nat.pow_pos (by decide)), Nat.div_eq_of_lt (rev_lt _ _), Nat.zero_add, show i + 1 - 1 - i = 0 by omega]
      simp [Nat.testBit_zero]
      rfl
    · have hlt : i < n := by omega
      have e1 : ((x % 2) * 2 ^ n + rev n (x / 2)).testBit i = (rev n (x / 2)).testBit i := by
        have e : (x % 2) * 2 ^ n = 2 ^ n * (x % 2) := Nat.mul_comm _ _
        rw [e, Nat.testBit_two_pow_mul_add _ (rev_lt _ _), if_pos hlt]
      rw [e1, ih _ _ hlt, Nat.testBit_div_two]
      congr 1
      omega
theorem rev_of_test (n x y : Nat) (hy : y < 2 ^ n) (h : ∀ i, i < n → y.testBit i = x.testBit (n - 1 - i)) : y = rev n x := by
  apply Nat.eq_of_testBit_eq
  intro i
  by_cases hi : i < n
  · rw [h i hi, rev_test n x i hi]
  · rw [Nat.testBit_lt_two_pow (Nat.lt_of_lt_of_le hy (Nat.pow_le_pow_right (by decide) (by omega))), Nat.testBit_lt_two_pow (Nat.lt_of_lt_of_le (rev_lt n x) (Nat.pow_le_pow_right (by decide) (by omega)))]
end Go.Proofs.YtincbbnppcpfpaaDoor

import Derived.Test.YtpjnbhflnbhnoaaGreatDoorWah
import Derived.Laws.MakeOwn
namespace Go.Proofs.YtpjnbhflnbhnoaaGreatDoor
open Go.RowKit
set_option linter.unusedVariables false
/-- Two lists of bytes, byte by byte. -/
theorem eq_upto (l m : List By) (k : Nat) (h : l.length = m.length) (hk : k ≤ l.length) (he : ∀ j, j < k → l[j]? = m[j]?) (hd : k = l.length) : l = m := by
  apply List.ext_getElem?
  intro i
  by_cases hi : i < k
  · exact he i hi
  · rw [List.getElem?_eq_none (by omega), List.getElem?_eq_none (by omega)]
theorem Sl.in' {X : Nat → Prop} {v : Value} {b : List By} {w : World} (h : Sl X v b w) (hs : b.length ≤ 200000000000000) : ∃ a c, v = .slice a b.length c ∧ In a c b w := by
  rcases h with ⟨a, rfl, rfl⟩ | ⟨g, _, o, c, rfl, h1, h2, h3⟩
  · exact ⟨a, 0, rfl, by simp, by simp, by simp, fun h => absurd rfl h⟩
  · exact ⟨_, c, rfl, h1, h2, hs, fun _ => ⟨g, o, rfl, h3⟩⟩
end Go.Proofs.YtpjnbhflnbhnoaaGreatDoor

namespace Go.Proofs.YtpjnbhflnbhnoaaGreatDoor
open Go.RowKit
set_option linter.unusedVariables false
theorem madeB (n : Nat) : (madeCells (Value.int .u8 0).cells n) = ((List.replicate n 0#8).map bv).toArray := by
  apply Array.ext'
  apply List.ext_getElem?
  intro k
  by_cases hk : k < n
  · simp [madeCells, Value.cells, hk, Nat.mod_one]
  · rw [List.getElem?_eq_none (by simp [madeCells, Value.cells]; omega), List.getElem?_eq_none (by simp; omega)]
/-- Room for bytes. -/
theorem make_any (w : World) (n : Nat) (hn : n ≤ 200000000000000) : ∃ W, (Instr.makeSlice 22 (.int .i64 0) (.int .i64 n)).run Tryz.prog w = .ok (.slice (some ⟨w.heap.size, 0, none⟩) 0 n) W ∧ Ow w.heap.size (.slice (some ⟨w.heap.size, 0, none⟩) 0 n) [] W ∧ Nw w W ∧ W.heap.size = w.heap.size + 1 := by
  obtain ⟨i, hi, hz, hs, hby⟩ := infoB
  have h := run_make (P := Tryz.prog) w 22 5 i _ Tryz.underlying22 hi hz .i64 .i64 0 n (Int.le_refl _) (by omega) (by rw [hby]; omega) (by omega)
  simp only [Int.toNat_zero, Int.toNat_natCast, hs, Nat.mul_one, madeB] at h
  refine ⟨_, h, ⟨List.replicate n 0#8, by simp, by simp, by simp, by simp; omega, ?_⟩, (Fr.refl _ _).alloc _, by simp⟩
  exact new_heap _ _
def marks : Nat → List By
  | 0 => []
  | k + 1 => marks k ++ [BitVec.ofNat 8 (171 + k)]
theorem marks_length (k : Nat) : (marks k).length = k := by
  induction k with
  | zero => rfl
  | succ k ih => simp [marks, ih]
theorem marks_at (k j : Nat) (h : j < k) : (marks k)[j]? = some (BitVec.ofNat 8 (171 + j)) := by
  induction k with
  | zero => omega
  | succ k ih =>
    have := marks_length k
    by_cases hj : j < k
    · simp only [marks]
      rw [List.getElem?_append_left (by omega)]; exact ih hj
    · obtain rfl : j = k := by omega
      simp only [marks]
      rw [List.getElem?_append_right (by omega), this]; simp
theorem one_byte' (w : World) (x : By) (z : Int) (hz : z = x.toNat) : Sl (fun _ => False) (.slice (some ⟨w.heap.size, 0, none⟩) 1 1) [x] (w.alloc (.cells #[.int .u8 z] 5)) := by
  subst hz; exact one_byte w x
/-- One byte more, in a block of one's own. -/
theorem own_step (g : Nat) (l : List By) (wr : World) (c : Nat) (h : Ow g (.slice (some ⟨g, 0, none⟩) l.length c) l wr) (hs : l.length ≤ 150000000000000) (x : By) (z : Int) (hz : z = x.toNat) :
    ∃ g' c' W, Hid (∀ ty, (Builtin.append_ #[22, 22] ty #[.slice (some ⟨g, 0, none⟩) l.length c, .slice (some ⟨wr.heap.size, 0, none⟩) 1 1]).run Tryz.prog (wr.alloc (.cells #[.int .u8 z] 5)) = .ok (.slice (some ⟨g', 0, none⟩) (l.length + 1) c') W) ∧ Hid (Ow g' (.slice (some ⟨g', 0, none⟩) (l.length + 1) c') (l ++ [x]) W ∧ Fr (fun k => k = g) wr W ∧ (g' = g ∨ wr.heap.size ≤ g')) := by
  have hN : Nw wr (wr.alloc (.cells #[.int .u8 z] 5)) := (Fr.refl _ _).alloc _
  obtain ⟨v', g', W, hap, hO, hF, hg⟩ := app_any _ g _ l (h.nw hN) _ _ (one_byte' wr x z hz) (by simp; omega)
  have hO' := hO
  obtain ⟨xs, rfl, _⟩ := hO'
  rw [List.length_append] at hO hap
  refine ⟨g', xs.length, W, hap, hO, hN.any.trans hF, ?_⟩
  rcases hg with h | h
  · exact .inl h
  · exact .inr (by simp at h; omega)
/-- What lent answers. -/
def Lentd (b : List By) (w : World) (e : Ending) (w' : World) : Prop :=
  ∃ g c, e = .returned (.tuple #[.slice (some ⟨g, 0, none⟩) b.length c, .slice (some ⟨g, 0, none⟩) (b.length + 32) c]) ∧ w.heap.size ≤ g ∧ Ow g (.slice (some ⟨g, 0, none⟩) (b.length + 32) c) (b ++ marks 32) w' ∧ Nw w w'
end Go.Proofs.YtpjnbhflnbhnoaaGreatDoor

namespace Go.Proofs.YtpjnbhflnbhnoaaGreatDoor
open Go.RowKit
set_option linter.unusedVariables false
/-- One byte more, nil or own. -/
theorem mine_step (K : Nat → Prop) (l : List By) (wr : World) (hK : ∀ k, K k → k < wr.heap.size) (v : Value) (h : Mine K v l wr) (hs : l.length ≤ 150000000000000) (x : By) (z : Int) (hz : z = x.toNat) :
    ∃ a c v' W, v = .slice a l.length c ∧ Hid (∀ ty, (Builtin.append_ #[22, 22] ty #[.slice a l.length c, .slice (some ⟨wr.heap.size, 0, none⟩) 1 1]).run Tryz.prog (wr.alloc (.cells #[.int .u8 z] 5)) = .ok v' W) ∧ Hid (Mine K v' (l ++ [x]) W ∧ Fr (fun k => ¬ K k) wr W) := by
  have hN : Nw wr (wr.alloc (.cells #[.int .u8 z] 5)) := (Fr.refl _ _).alloc _
  have hsz : (wr.alloc (.cells #[.int .u8 z] 5)).heap.size = wr.heap.size + 1 := by simp
  obtain ⟨v', W, hap, hM, hF⟩ := mine_app K _ (fun k hk => by rw [hsz]; have := hK k hk; omega) v l (h.nw hN) _ _ (one_byte' wr x z hz) (by simp; omega)
  obtain ⟨a, c, rfl, _, _⟩ := h.sl.form
  exact ⟨a, c, v', W, rfl, hap, hM, hN.any.trans hF⟩
end Go.Proofs.YtpjnbhflnbhnoaaGreatDoor

namespace Go.Proofs.YtpjnbhflnbhnoaaGreatDoor
open Go.RowKit
set_option linter.unusedVariables false
/-! ### Bytes and bits as numbers -/
/-- A number, lowest byte first. -/
def le : List By → Nat
  | [] => 0
  | b :: r => b.toNat + 256 * le r
/-- The lowest bytes of a number. -/
def lows (n : Nat) : Nat → List By
  | 0 => []
  | k + 1 => BitVec.ofNat 8 n :: lows (n / 256) k
theorem lows_length (n k : Nat) : (lows n k).length = k := by
  induction k generalizing n with
  | zero => rfl
  | succ k ih => simp [lows, ih]
theorem le_lt (l : List By) : le l < 256 ^ l.length := by
  induction l with
  | nil => simp [le]
  | cons b r ih =>
    have := b.isLt
    simp only [le, List.length_cons, Nat.pow_succ]
    omega
theorem le_lows (n k : Nat) : le (lows n k) = n % 256 ^ k := by
  induction k generalizing n with
  | zero => simp [lows, le, Nat.mod_one]
  | succ k ih =>
    simp only [lows, le, BitVec.toNat_ofNat, ih]
    rw [show 256 ^ (k + 1) = 256 * 256 ^ k by rw [Nat.pow_succ, Nat.mul_comm], Nat.mod_mul]
theorem le_inj : ∀ (a b : List By), a.length = b.length → le a = le b → a = b
  | [], [], _, _ => rfl
  | x :: r, y :: s, h, e => by
    have := x.isLt
    have := y.isLt
    simp only [le] at e
    have h1 : x = y := BitVec.eq_of_toNat_eq (by omega)
    have h2 := le_inj r s (by simpa using h) (by omega)
    rw [h1, h2]
theorem lows_le (l : List By) : lows (le l) l.length = l :=
  le_inj _ _ (lows_length _ _) (by rw [le_lows, Nat.mod_eq_of_lt (le_lt l)])
theorem le_append (a b : List By) : le (a ++ b) = le a + 256 ^ a.length * le b := by
  induction a with
  | nil => simp [le]
  | cons x r ih => simp only [List.cons_append, le, ih, List.length_cons, Nat.pow_succ, Nat.mul_add]; rw [Nat.mul_comm (256 ^ _) 256, Nat.mul_assoc]; omega
theorem le_take (l : List By) (k : Nat) : le (l.take k) = le l % 256 ^ k := by
  by_cases h : k ≤ l.length
  · have h1 := le_append (l.take k) (l.drop k)
    rw [List.take_append_drop] at h1
    have h2 := le_lt (l.take k)
    rw [List.length_take, Nat.min_eq_left h] at h1 h2
    rw [h1, Nat.add_mul_mod_self_left, Nat.mod_eq_of_lt h2]
  · rw [List.take_of_length_le (by omega), Nat.mod_eq_of_lt (Nat.lt_of_lt_of_le (le_lt l) (Nat.pow_le_pow_right (by decide) (by omega)))]
theorem le_drop (l : List By) (k : Nat) : le (l.drop k) = le l / 256 ^ k := by
  by_cases h : k ≤ l.length
  · have h1 := le_append (l.take k) (l.drop k)
    rw [List.take_append_drop] at h1
    have h2 := le_lt (l.take k)
    rw [List.length_take, Nat.min_eq_left h] at h1 h2
    rw [h1, Nat.add_mul_div_left _ _ (Nat.pow_pos (by decide)), Nat.div_eq_of_lt h2, Nat.zero_add]
  · rw [List.drop_eq_nil_of_le (by omega), Nat.div_eq_of_lt (Nat.lt_of_lt_of_le (le_lt l) (Nat.pow_le_pow_right (by decide) (by omega)))]; rfl
theorem le_at (l : List By) (i : Nat) (h : i < l.length) : l[i].toNat = le l / 256 ^ i % 256 := by
  rw [← le_drop, List.drop_eq_getElem_cons h, le]
  have := (l[i]).isLt
  omega
theorem lows_succ (v n : Nat) : lows v (n + 1) = lows v n ++ [BitVec.ofNat 8 (v / 256 ^ n)] := by
  induction n generalizing v with
  | zero => simp [lows]
  | succ n ih =>
    rw [lows, ih, lows, List.cons_append, Nat.div_div_eq_div_mul, Nat.pow_succ, Nat.mul_comm 256]
theorem pow256 (k : Nat) : 256 ^ k = 2 ^ (8 * k) := by rw [Nat.pow_mul]
/-- The lowest bits of a number, a byte each. -/
def bl (v : Nat) : Nat → List By
  | 0 => []
  | k + 1 => BitVec.ofNat 8 (v % 2) :: bl (v / 2) k
theorem bl_length (v n : Nat) : (bl v n).length = n := by
  induction n generalizing v with
  | zero => rfl
  | succ n ih => simp [bl, ih]
theorem bl_succ (v n : Nat) : bl v (n + 1) = bl v n ++ [BitVec.ofNat 8 (v / 2 ^ n % 2)] := by
  induction n generalizing v with
  | zero => simp [bl]
  | succ n ih =>
    rw [bl, ih, bl, List.cons_append, Nat.div_div_eq_div_mul, Nat.pow_succ, Nat.mul_comm 2]
theorem bl_drop (v n k : Nat) : (bl v n).drop k = bl (v / 2 ^ k) (n - k) := by
  induction k generalizing v n with
  | zero => simp
  | succ k ih =>
    cases n with
    | zero => simp [bl]
    | succ n => rw [bl, List.drop_succ_cons, ih, Nat.div_div_eq_div_mul, Nat.pow_succ, Nat.mul_comm 2]; congr 1; omega
theorem bl_take (v n k : Nat) (h : k ≤ n) : (bl v n).take k = bl v k := by
  induction k generalizing v n with
  | zero => simp [bl]
  | succ k ih =>
    cases n with
    | zero => omega
    | succ n => rw [bl, List.take_succ_cons, ih _ _ (by omega), bl]
theorem bl_at (v n i : Nat) (h : i < n) : (bl v n)[i]? = some (BitVec.ofNat 8 (v / 2 ^ i % 2)) := by
  have h1 : (bl v n).drop i = _ := bl_drop v n i
  obtain ⟨m, hm⟩ : ∃ m, n - i = m + 1 := ⟨n - i - 1, by omega⟩
  rw [hm, bl] at h1
  have : ((bl v n).drop i)[0]? = some (BitVec.ofNat 8 (v / 2 ^ i % 2)) := by rw [h1]; rfl
  rw [List.getElem?_drop] at this
  exact this
theorem bl_mod (v n m : Nat) (h : n ≤ m) : bl (v % 2 ^ m) n = bl v n := by
  apply List.ext_getElem?
  intro i
  by_cases hi : i < n
  · rw [bl_at _ _ _ hi, bl_at _ _ _ hi]
    congr 2
    have e : 2 ^ m = 2 ^ i * (2 * 2 ^ (m - i - 1)) := by rw [← Nat.pow_succ', ← Nat.pow_add]; congr 1; omega
    rw [e, Nat.mod_mul_right_div_self, Nat.mod_mul_right_mod]
  · rw [List.getElem?_eq_none (by rw [bl_length]; omega), List.getElem?_eq_none (by rw [bl_length]; omega)]
end Go.Proofs.YtpjnbhflnbhnoaaGreatDoor

namespace Go.Proofs.YtpjnbhflnbhnoaaGreatDoor
open Go.RowKit
set_option linter.unusedVariables false
/-- A list of the call's own, and nothing else turned. -/
def Own (l : List By) (w : World) (e : Ending) (w' : World) : Prop :=
  ∃ g c, e = .returned (.slice (some ⟨g, 0, none⟩) l.length c) ∧ w.heap.size ≤ g ∧ Ow g (.slice (some ⟨g, 0, none⟩) l.length c) l w' ∧ Nw w w'
/-- How a list of one's own stands that grows byte by byte. -/
def Gr (w : World) (l : List By) (g ln c : Nat) (wr : World) : Prop := ln = l.length ∧ ln ≤ c ∧ c < 9223372036854775808 ∧ Ow g (.slice (some ⟨g, 0, none⟩) ln c) l wr ∧ w.heap.size ≤ g ∧ Nw w wr
theorem Gr.start (w V : World) (hV : Nw w V) : Gr w [] V.heap.size 0 0 (V.alloc (.cells #[] 5)) :=
  ⟨rfl, Nat.le_refl _, by decide, Ow.empty V, hV.size, hV.trans ((Fr.refl _ _).alloc _)⟩
theorem Gr.step {w wr : World} {l : List By} {g ln c : Nat} (h : Gr w l g ln c wr) (hs : ln ≤ 150000000000000) (x : By) (z : Int) (hz : z = x.toNat) :
    ∃ g' c' W, Hid (∀ ty, (Builtin.append_ #[22, 22] ty #[.slice (some ⟨g, 0, none⟩) ln c, .slice (some ⟨wr.heap.size, 0, none⟩) 1 1]).run Tryz.prog (wr.alloc (.cells #[.int .u8 z] 5)) = .ok (.slice (some ⟨g', 0, none⟩) (ln + 1) c') W) ∧ Hid (Gr w (l ++ [x]) g' (ln + 1) c' W) := by
  obtain ⟨rfl, h1, h2, h3, h4, h5⟩ := h
  obtain ⟨g', c', W, HAP, HN⟩ := own_step g l wr c h3 hs x z hz
  refine ⟨g', c', W, HAP, ?_⟩
  obtain ⟨k1, k2, k3⟩ := HN.out
  have k1' := k1
  obtain ⟨xs, e1, _, x3, x4, _⟩ := k1'
  injection e1 with _ _ e3
  have hg : w.heap.size ≤ g' := by have := h5.size; rcases k3 with h | h <;> omega
  exact ⟨by simp, by simp at x3; omega, by omega, k1, hg, Fr.then h5 k2 (fun i hi => .inr (by omega))⟩
theorem Gr.nw {w wr W : World} {l : List By} {g ln c : Nat} (h : Gr w l g ln c wr) (hN : Nw wr W) : Gr w l g ln c W := by
  obtain ⟨h0, h1, h2, h3, h4, h5⟩ := h
  exact ⟨h0, h1, h2, h3.nw hN, h4, h5.trans hN⟩
theorem Gr.own {w wr : World} {l : List By} {g ln c : Nat} (h : Gr w l g ln c wr) : Own l w (.returned (.slice (some ⟨g, 0, none⟩) ln c)) wr := by
  obtain ⟨rfl, h1, h2, h3, h4, h5⟩ := h
  exact ⟨g, c, rfl, h4, h3, h5⟩
theorem bits_next (b : List By) (I K : Nat) (hI : I < b.length) (hK : K < 8) : b[I].toNat / 2 ^ K % 2 = le b / 2 ^ (8 * I + K) % 2 := by
  rw [le_at b I hI, Nat.pow_add, ← Nat.div_div_eq_div_mul, pow256]
  have e : 256 = 2 ^ K * (2 * 2 ^ (7 - K)) := by
    rw [← Nat.pow_succ', ← Nat.pow_add]; rw [show K + (7 - K).succ = 8 by omega]
  rw [e, Nat.mod_mul_right_div_self, Nat.mod_mul_right_mod]
set_option maxHeartbeats 8000000 in
set_option maxRecDepth 100000 in
theorem sBits_any (w : World) (vb : Value) (b : List By) (hb : Sl (fun _ => False) vb b w) (hbl : b.length ≤ 1099511627776) : Calls Tryz.prog 92 #[vb] w (Own (bl (le b) (8 * b.length)) w) := by
  obtain ⟨P, hP⟩ : ∃ P, P = Own (bl (le b) (8 * b.length)) w := ⟨_, rfl⟩
  rw [← hP]
  have HP : Hid (P = Own (bl (le b) (8 * b.length)) w) := hP
  clear hP
  obtain ⟨a, c, rfl, hi⟩ := hb.in' (by omega)
  have HI : Hid (In a c b w) := hi
  have k1 := hi.1
  have k2 := hi.2.1
  clear hb hi
  have HI0 : Hid (Gr w (bl (le b) 0) w.heap.size 0 0 (w.alloc (.cells #[] 5))) := Gr.start w w (Fr.refl _ _)
  generalize hL : b.length = L at *
  have hL' : Hid (b.length = L) := hL
  clear hL
  go_enter Tryz.func92, Tryz.ntmps92
  go_wp2
  go_loopg [3, 4] L (fun kx l i wr => ∃ (I g c ln : Nat), I ≤ L ∧ L - I ≤ kx ∧ l = .slice (some ⟨g, 0, none⟩) ln c ∧ i = .int .i64 I ∧ Hid (Gr w (bl (le b) (8 * I)) g ln c wr))
  case atStart => exact ⟨0, w.heap.size, 0, 0, by omega, by omega, rfl, rfl, HI0⟩
  case round =>
    obtain ⟨I, g, c1, ln, hI, hkx, rfl, rfl, HG⟩ := hrel
    clear HI0
    by_cases hlt : I < L
    · obtain ⟨g2, o2, rfl, hcell⟩ := (HI.out.nw HG.out.2.2.2.2.2).at I (by rw [hL'.out]; exact hlt)
      have hz1 : (I : Int) < (L : Int) := by omega
      have hx := (b[I]'(by rw [hL'.out]; exact hlt)).isLt
      have HX : Hid (∀ K, K < 8 → (b[I]'(by rw [hL'.out]; exact hlt)).toNat / 2 ^ K % 2 = le b / 2 ^ (8 * I + K) % 2) := fun K hK => bits_next b I K _ hK
      have HG0 : Hid (Gr w (bl (le b) (8 * I + 0)) g ln c1 wr) := HG.out
      have hb1 : 8 * I ≤ 8796093022208 := by omega
      clear HP HG HI
      generalize (b[I]'(by rw [hL'.out]; exact hlt)).toNat = x0 at *
      go_wp2
      go_loopg [3, 5, 6] 8 (fun kx l xx k wr => ∃ (K g c ln x : Nat), K ≤ 8 ∧ 8 - K ≤ kx ∧ l = .slice (some ⟨g, 0, none⟩) ln c ∧ xx = .int .u8 x ∧ k = .int .i64 K ∧ x ≤ 255 ∧ Hid (x = x0 / 2 ^ K ∧ Gr w (bl (le b) (8 * I + K)) g ln c wr))
      case atStart => exact ⟨0, g, c1, ln, x0, by omega, by omega, rfl, rfl, rfl, by omega, by simp, HG0⟩
      case round =>
        obtain ⟨K, g4, c4, ln4, x, hK, hkx4, rfl, rfl, rfl, hx255, HK⟩ := hrel
        clear HG0
        by_cases hlt8 : K < 8
        · obtain ⟨hx1, hG⟩ := HK.out
          have hs : ln4 ≤ 150000000000000 := by have := hG.1; rw [bl_length] at this; omega
          obtain ⟨z, hz⟩ : ∃ z, z = x % 2 := ⟨_, rfl⟩
          obtain ⟨y, hy⟩ : ∃ y, y = x / 2 := ⟨_, rfl⟩
          obtain ⟨g5, c5, W, HAP, HG5⟩ := hG.step hs (BitVec.ofNat 8 z) (z : Int) (by rw [BitVec.toNat_ofNat]; omega)
          have HN : Hid (y = x0 / 2 ^ (K + 1) ∧ Gr w (bl (le b) (8 * I + (K + 1))) g5 (ln4 + 1) c5 W) := by
            refine ⟨by rw [hy, hx1, Nat.div_div_eq_div_mul, Nat.pow_succ], ?_⟩
            have h5 := HG5.out
            rw [hz, hx1, HX.out K hlt8, ← bl_succ] at h5
            exact h5
          have hzm : (x : Int) % 2 = (z : Int) := by omega
          have hzd : (x : Int) / 2 = (y : Int) := by omega
          have hy255 : y ≤ 255 := by omega
          clear HK HX HG5 hG hx1 hz hy
          go_wp2_with (first
            | (at_builtin; refine Lib.wpList_append_run _ rfl _ _ 22 22 rfl (.slice (some ⟨g4, 0, none⟩) ln4 c4) (.slice (some ⟨_, 0, none⟩) 1 1) (by simp [Act.eval]) (by simp [Act.eval]) _ _ (HAP.out _) ?_))
          go_roundg (8 - (K + 1))
          case measure => omega
          case rel => exact ⟨K + 1, g5, c5, ln4 + 1, y, by omega, by omega, rfl, rfl, by first | rfl | (congr 1), hy255, HN⟩
        · obtain rfl : K = 8 := by omega
          have HG6 : Hid (Gr w (bl (le b) (8 * (I + 1))) g4 ln4 c4 wr) := HK.out.2
          clear HK HX
          go_wp2_with fail
          go_roundg (L - (I + 1))
          case measure => omega
          case rel => exact ⟨I + 1, g4, c4, ln4, by omega, by omega, rfl, by first | rfl | (congr 1), HG6⟩
    · obtain rfl : I = L := by omega
      have HF : Hid (P (.returned (.slice (some ⟨g, 0, none⟩) ln c1)) wr) := by
        show P _ _
        rw [HP.out]
        exact HG.out.own
      clear HP HG HI
      go_wp2_with fail
      exact HF.out
end Go.Proofs.YtpjnbhflnbhnoaaGreatDoor

namespace Go.Proofs.YtpjnbhflnbhnoaaGreatDoor
open Go.RowKit
set_option linter.unusedVariables false
/-- Bits as a byte's. -/
theorem byte_next (v J K : Nat) (hK : K < 8) : v / 256 ^ J % 2 ^ (K + 1) = v / 256 ^ J % 2 ^ K + 2 ^ K * (v / 2 ^ (8 * J + K) % 2) := by
  rw [Nat.pow_add 2 (8 * J), ← Nat.div_div_eq_div_mul, ← pow256, Nat.pow_succ, Nat.mod_mul]
end Go.Proofs.YtpjnbhflnbhnoaaGreatDoor

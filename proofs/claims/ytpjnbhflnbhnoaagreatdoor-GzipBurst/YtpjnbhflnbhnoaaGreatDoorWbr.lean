import Derived.Test.YtpjnbhflnbhnoaaGreatDoorWbp
import Derived.Lib.IndexLaws
import Derived.BigQuiet
namespace Go.Proofs.YtpjnbhflnbhnoaaGreatDoor
open Go.RowKit
set_option linter.unusedVariables false
/-! ### A burst is found: the check sum, bit by bit, on numbers -/
def T1 (c : Nat) : Nat := (c / 2) ^^^ (if c % 2 = 1 then 3988292384 else 0)
def Tn : Nat → Nat → Nat
  | 0, c => c
  | k + 1, c => Tn k (T1 c)
theorem Tn_add (j k c : Nat) : Tn (j + k) c = Tn k (Tn j c) := by
  induction j generalizing c with
  | zero => rw [Nat.zero_add]; rfl
  | succ j ih => rw [Nat.succ_add]; exact ih (T1 c)
theorem xor_half (a b : Nat) : (a ^^^ b) / 2 = a / 2 ^^^ b / 2 := by
  have := Nat.shiftRight_xor_distrib (a := a) (b := b) (i := 1)
  simpa [Nat.shiftRight_eq_div_pow] using this
theorem xor_odd (a b : Nat) : (a ^^^ b) % 2 = (a % 2) ^^^ (b % 2) := by
  have := Nat.xor_mod_two_pow (a := a) (b := b) (n := 1)
  simpa using this
theorem xor4 (a b c d : Nat) : (a ^^^ b) ^^^ (c ^^^ d) = (a ^^^ c) ^^^ (b ^^^ d) := by
  rw [Nat.xor_assoc, Nat.xor_assoc, ← Nat.xor_assoc b c d, Nat.xor_comm b c, Nat.xor_assoc c b d]
theorem T1_xor (a b : Nat) : T1 (a ^^^ b) = T1 a ^^^ T1 b := by
  unfold T1
  rw [xor_half, xor_odd, xor4]
  congr 1
  rcases Nat.mod_two_eq_zero_or_one a with ha | ha <;> rcases Nat.mod_two_eq_zero_or_one b with hb | hb <;> rw [ha, hb] <;> decide
theorem Tn_xor (k a b : Nat) : Tn k (a ^^^ b) = Tn k a ^^^ Tn k b := by
  induction k generalizing a b with
  | zero => rfl
  | succ k ih => simp only [Tn]; rw [T1_xor, ih]
theorem T1_two (c : Nat) : T1 (2 * c) = c := by
  unfold T1
  rw [Nat.mul_div_cancel_left c (by decide), Nat.mul_mod_right, if_neg (by decide), Nat.xor_zero]
theorem Tn_pow (k c : Nat) : Tn k (2 ^ k * c) = c := by
  induction k generalizing c with
  | zero => simp [Tn]
  | succ k ih => simp only [Tn]; rw [Nat.pow_succ, Nat.mul_assoc, Nat.mul_left_comm, T1_two, ih]
theorem T1_nz {c : Nat} (h : c < 4294967296) (h0 : c ≠ 0) : T1 c < 4294967296 ∧ T1 c ≠ 0 := by
  unfold T1
  refine ⟨xor_lt32 (by omega) (by split <;> decide), fun e => ?_⟩
  have e2 : c / 2 = (if c % 2 = 1 then 3988292384 else 0) := by
    have := congrArg (· ^^^ (if c % 2 = 1 then 3988292384 else 0)) e
    simpa [Nat.xor_assoc] using this
  split at e2 <;> omega
theorem Tn_nz (k : Nat) {c : Nat} (h : c < 4294967296) (h0 : c ≠ 0) : Tn k c ≠ 0 := by
  induction k generalizing c with
  | zero => exact h0
  | succ k ih => have := T1_nz h h0; exact ih this.1 this.2
/-- 32 bits next to each other are not gone, however far they are. -/
theorem burst_nz (a f : Nat) {W : Nat} (h : W < 4294967296) (h0 : W ≠ 0) : Tn a (2 ^ f * W) ≠ 0 := by
  by_cases ha : f ≤ a
  · obtain ⟨d, rfl⟩ := Nat.exists_eq_add_of_le ha
    rw [Tn_add, Tn_pow]
    exact Tn_nz d h h0
  · obtain ⟨d, rfl⟩ := Nat.exists_eq_add_of_le (Nat.le_of_not_le ha)
    rw [Nat.pow_add, Nat.mul_assoc, Tn_pow]
    exact Nat.mul_ne_zero (Nat.ne_of_gt (Nat.two_pow_pos d)) h0
theorem xor_join (k a b : Nat) (ha : a < 2 ^ k) : a ^^^ (2 ^ k * b) = a + 2 ^ k * b := by
  apply Nat.eq_of_testBit_eq
  intro i
  rw [Nat.testBit_xor, Nat.testBit_two_pow_mul, Nat.add_comm, Nat.testBit_two_pow_mul_add b ha]
  by_cases h : i < k
  · rw [if_pos h, decide_eq_false (by omega)]; simp
  · rw [if_neg h, decide_eq_true (by omega), Nat.testBit_lt_two_pow (Nat.lt_of_lt_of_le ha (Nat.pow_le_pow_right (by decide) (by omega)))]; simp
set_option maxRecDepth 10000 in
theorem T4_tn : ∀ i : Fin 16, Tn 4 i.val = tn i.val := by decide
theorem half_T (c : Nat) : half c = Tn 4 c := by
  have hm : c % 16 < 2 ^ 4 := Nat.mod_lt _ (by decide)
  have e : c = (c % 16) ^^^ (2 ^ 4 * (c / 16)) := by rw [xor_join 4 _ _ hm]; omega
  conv => rhs; rw [e]
  rw [Tn_xor, Tn_pow, T4_tn ⟨c % 16, hm⟩, Nat.xor_comm]
  rfl
theorem crcN_T (c : Nat) (x : By) : crcN c x = Tn 8 (c ^^^ x.toNat) := by
  unfold crcN
  rw [half_T, half_T, ← Tn_add]
theorem fold_T (l : List By) (c : Nat) : l.foldl crcN c = Tn (8 * l.length) (c ^^^ le l) := by
  induction l generalizing c with
  | nil => simp [le, Tn]
  | cons x r ih =>
    rw [List.foldl_cons, ih, crcN_T, List.length_cons, show 8 * (r.length + 1) = 8 + 8 * r.length by omega, Tn_add]
    have e : le (x :: r) = x.toNat ^^^ (2 ^ 8 * le r) := by rw [xor_join 8 _ _ x.isLt]; rfl
    rw [e, ← Nat.xor_assoc, Tn_xor 8 (c ^^^ x.toNat), Tn_pow]
theorem sum_xor (l : List By) : sumS l = 4294967295 ^^^ crcL l := by
  have h := crcL_lt l
  unfold sumS
  have : (BitVec.ofNat 32 4294967295 ^^^ BitVec.ofNat 32 (crcL l)).toNat = 4294967295 - crcL l := by
    rw [show BitVec.ofNat 32 4294967295 = BitVec.allOnes 32 by decide, BitVec.allOnes_xor, BitVec.toNat_not, BitVec.toNat_ofNat, Nat.mod_eq_of_lt h]
  rw [BitVec.toNat_xor, BitVec.toNat_ofNat, BitVec.toNat_ofNat, Nat.mod_eq_of_lt h, show 4294967295 % 2 ^ 32 = 4294967295 by decide] at this
  exact this.symm
theorem xor_cancel {a b c : Nat} (h : a ^^^ b = c) : b = a ^^^ c := by rw [← h, ← Nat.xor_assoc, Nat.xor_self, Nat.zero_xor]
/-- Plain bytes p and a sum c behind them, both right, and both right again when they are turned into p' and c': what was turned is no burst. -/
theorem burst_found {p p' c c' : List By} (hp : p'.length = p.length) (hc : c.length = 4) (hc' : c'.length = 4) (h : le c = sumS p) (h' : le c' = sumS p') {s f W : Nat} (hW : W < 4294967296) (hd : 2 ^ s * (le (p ++ c) ^^^ le (p' ++ c')) = 2 ^ f * W) : W = 0 := by
  by_cases h0 : W = 0
  · exact h0
  exfalso
  refine burst_nz (s + 8 * p.length) f hW h0 ?_
  rw [← hd, Tn_add, Tn_pow]
  have e1 : le (p ++ c) = le p ^^^ (2 ^ (8 * p.length) * le c) := by
    rw [xor_join _ _ _ (by have := le_lt p; rwa [show (256 : Nat) = 2 ^ 8 from rfl, ← Nat.pow_mul] at this), le_append, show (256 : Nat) = 2 ^ 8 from rfl, ← Nat.pow_mul]
  have e2 : le (p' ++ c') = le p' ^^^ (2 ^ (8 * p.length) * le c') := by
    rw [← hp, xor_join _ _ _ (by have := le_lt p'; rwa [show (256 : Nat) = 2 ^ 8 from rfl, ← Nat.pow_mul] at this), le_append, show (256 : Nat) = 2 ^ 8 from rfl, ← Nat.pow_mul]
  rw [e1, e2, Tn_xor, Tn_xor, Tn_xor, Tn_pow, Tn_pow, h, h', sum_xor, sum_xor]
  unfold crcL
  rw [fold_T, fold_T, hp, Tn_xor, Tn_xor _ _ (le p')]
  generalize Tn (8 * p.length) (le p) = A
  generalize Tn (8 * p.length) (le p') = B
  generalize Tn (8 * p.length) 4294967295 = C
  rw [xor4 A _ B _, xor4 4294967295 _ 4294967295 _, xor4 C _ C _, Nat.xor_self, Nat.xor_self, Nat.zero_xor, Nat.zero_xor, Nat.xor_self]
end Go.Proofs.YtpjnbhflnbhnoaaGreatDoor

namespace Go.Proofs.YtpjnbhflnbhnoaaGreatDoor
open Go.RowKit
set_option linter.unusedVariables false
/-! ### A head, read back -/
theorem drop_next {b l r : List By} {p : Nat} (h : b.drop p = l ++ r) : b.drop (p + l.length) = r := by
  rw [← List.drop_drop, h, List.drop_left]
theorem must_at {b r : List By} {p : Nat} {x : By} {q : By → Bool} {why : Nat} (h : b.drop p = x :: r) (hq : q x = true) : mustH q why b p = .ok x (p + 1) := by
  have e : b[p]? = some x := by
    have := congrArg (·[0]?) h
    simpa using this
  unfold mustH
  rw [e]
  simp only [hq, if_true]
theorem take_at {b l r : List By} {p n : Nat} (h : b.drop p = l ++ r) (hl : l.length = n) (hn : 0 < n) : takeH n b p = .ok l (p + n) := by
  have e := congrArg List.length h
  rw [List.length_drop, List.length_append] at e
  unfold takeH
  rw [if_pos (by omega), h, ← hl, List.take_left]
theorem idx_at (l r : List By) (h : ∀ x ∈ l, x ≠ 0#8) : idx (l ++ 0#8 :: r) = l.length := by
  induction l with
  | nil => rfl
  | cons x l ih =>
    have h1 := ih (fun y hy => h y (List.mem_cons_of_mem _ hy))
    have h2 := h x (List.mem_cons_self ..)
    unfold idx at h1 ⊢
    rw [List.cons_append, List.map_cons, Lib.indexByte, h1]
    have e : (u8 x == 0) = false := by
      rw [beq_eq_false_iff_ne]
      intro e
      apply h2
      apply BitVec.eq_of_toNat_eq
      have := congrArg UInt8.toNat e
      have hx := x.isLt
      simp only [u8, UInt8.toNat_ofNat'] at this
      simpa [Nat.mod_eq_of_lt hx] using this
    rw [e, if_neg (by decide), if_neg (by rw [beq_iff_eq]; omega), List.length_cons]
    push_cast
    rfl
theorem text_at {b l r : List By} {p : Nat} (h : b.drop p = l ++ 0#8 :: r) (hz : ∀ x ∈ l, x ≠ 0#8) (hl : l.length ≤ 65535) : textH b p = .ok l (p + (l.length + 1)) := by
  have e : textL b p = l ++ 0#8 :: r.take (65535 - l.length) := by
    unfold textL
    rw [h, List.take_append, List.take_of_length_le (by omega), show 65536 - l.length = (65535 - l.length) + 1 by omega, List.take_succ_cons]
  unfold textH
  rw [e, idx_at _ _ hz, if_neg (by omega), h]
  simp
theorem bys_nz {s : ByteArray} (h : ¬ 0 ≤ Lib.indexByte s.data.toList 0) : ∀ x ∈ bys s, x ≠ 0#8 := by
  have h1 := Lib.indexByte_ge s.data.toList 0
  have h2 := Lib.indexByte_none (l := s.data.toList) (c := 0) (by omega)
  intro x hx e
  unfold bys at hx
  rw [List.mem_map] at hx
  obtain ⟨y, hy, e2⟩ := hx
  obtain ⟨k, hk⟩ := List.getElem?_of_mem hy
  refine h2 k ?_
  rw [hk]
  congr 1
  rw [e] at e2
  have := congrArg BitVec.toNat e2
  have hy2 := y.toNat_lt
  simp at this
  apply UInt8.toNat_inj.1
  simp
  omega
def Mb.md (m : Mb) : Md := ⟨bys m.nm, bys m.cm, m.ex, m.tm, m.fl, m.sy, m.tx, m.sm⟩
theorem flg_bits : ∀ b1 b2 b3 b4 b5 : Bool, flg b1 b2 b3 b4 b5 < 32 ∧ bitN (BitVec.ofNat 8 (flg b1 b2 b3 b4 b5)) 0 = b1 ∧ bitN (BitVec.ofNat 8 (flg b1 b2 b3 b4 b5)) 1 = b2 ∧ bitN (BitVec.ofNat 8 (flg b1 b2 b3 b4 b5)) 2 = b3 ∧ bitN (BitVec.ofNat 8 (flg b1 b2 b3 b4 b5)) 3 = b4 ∧ bitN (BitVec.ofNat 8 (flg b1 b2 b3 b4 b5)) 4 = b5 := by decide
theorem tx_at {b r : List By} {p : Nat} (s : ByteArray) (h : b.drop p = txt s ++ r) (hz : ¬ 0 ≤ Lib.indexByte s.data.toList 0) (hl : s.size ≤ 65535) : txH (!decide (s.size = 0)) b p = .ok (bys s) (p + (txt s).length) := by
  unfold txH
  by_cases h0 : s.size = 0
  · have e : bys s = [] := List.length_eq_zero_iff.1 (by rw [bys_length]; exact h0)
    rw [decide_eq_true h0, e, txt, if_pos h0]
    rfl
  · rw [decide_eq_false h0]
    simp only [Bool.not_false, if_true]
    have e : txt s = bys s ++ [0#8] := by rw [txt, if_neg h0]
    rw [e] at h ⊢
    rw [List.append_assoc] at h
    rw [text_at (l := bys s) (r := r) h (bys_nz hz) (by rw [bys_length]; exact hl), List.length_append]
    rfl
theorem sum_at {b r : List By} {p : Nat} (h : b.drop p = lows (sumS (b.take p)) 2 ++ r) : sumH b p = .ok () (p + 2) := by
  unfold sumH
  generalize sumS (b.take p) = n at *
  have e : lows n 2 ++ r = BitVec.ofNat 8 n :: (BitVec.ofNat 8 (n / 256) :: r) := rfl
  rw [e] at h
  rw [must_at h (by simp)]
  simp only [Hz.bind]
  have h2 : b.drop (p + 1) = BitVec.ofNat 8 (n / 256) :: r := drop_next (l := [BitVec.ofNat 8 n]) h
  rw [must_at h2 (by simp)]
theorem head_back (m : Mb) (he : m.err = 0) (htl : m.tm < 4294967296) (rest : List By) : headH (m.head ++ rest) 0 = .ok m.md m.head.length := by
  have hn1 : ¬ (0 ≤ Lib.indexByte m.nm.data.toList 0 ∨ 0 ≤ Lib.indexByte m.cm.data.toList 0) := fun e => by unfold Mb.err at he; rw [if_pos e] at he; cases he
  have hn2 : ¬ (65535 < m.nm.size ∨ 65535 < m.cm.size ∨ 65535 < m.ex.length) := fun e => by unfold Mb.err at he; rw [if_neg hn1, if_pos e] at he; cases he
  obtain ⟨f0, f1, f2, f3, f4, f5⟩ := flg_bits m.tx m.sm (decide (0 < m.ex.length)) (!decide (m.nm.size = 0)) (!decide (m.cm.size = 0))
  rw [show flg m.tx m.sm (decide (0 < m.ex.length)) (!decide (m.nm.size = 0)) (!decide (m.cm.size = 0)) = m.flags from rfl] at f0 f1 f2 f3 f4 f5
  obtain ⟨tail, htail⟩ : ∃ t, t = (if m.sm then lows (sumS m.body) 2 else []) ++ rest := ⟨_, rfl⟩
  have hb : m.head ++ rest = m.body ++ tail := by
    rw [htail, Mb.head]
    split <;> simp
  obtain ⟨b, hbb⟩ : ∃ b, b = m.head ++ rest := ⟨_, rfl⟩
  rw [← hbb]
  rw [← hbb] at hb
  obtain ⟨F, hF⟩ : ∃ F, F = BitVec.ofNat 8 m.flags := ⟨_, rfl⟩
  have d0 : b.drop 0 = 31#8 :: (139#8 :: 8#8 :: F :: (lows m.tm 4 ++ (m.fl :: m.sy :: (m.ext ++ (txt m.nm ++ (txt m.cm ++ tail)))))) := by
    rw [hb, Mb.body, Mb.pre, List.drop_zero, hF]; simp
  have d1 := drop_next (l := [31#8]) d0
  have d2 := drop_next (l := [139#8]) d1
  have d3 := drop_next (l := [8#8]) d2
  have d4 := drop_next (l := [F]) d3
  have d5 := drop_next (l := lows m.tm 4) d4
  have d6 := drop_next (l := [m.fl]) d5
  have d7 := drop_next (l := [m.sy]) d6
  simp only [lows_length, List.length_singleton] at d1 d2 d3 d4 d5 d6 d7
  replace d7 : b.drop (0 + 1 + 1 + 1 + 1 + 4 + 1 + 1) = m.ext ++ (txt m.nm ++ (txt m.cm ++ tail)) := d7
  have hFl : F.toNat < 32 := by rw [hF]; simp; omega
  unfold headH
  rw [must_at d0 (by decide)]
  simp only [Hz.bind]
  rw [must_at d1 (by decide)]
  simp only
  rw [must_at d2 (by decide)]
  simp only
  rw [must_at d3 (decide_eq_true hFl)]
  simp only
  unfold h1
  rw [take_at d4 (lows_length _ _) (by decide)]
  simp only [Hz.bind]
  rw [must_at d5 rfl]
  simp only
  rw [must_at d6 rfl]
  simp only
  unfold h2
  have hex : exH F b (0 + 1 + 1 + 1 + 1 + 4 + 1 + 1) = .ok m.ex (0 + 1 + 1 + 1 + 1 + 4 + 1 + 1 + m.ext.length) := by
    unfold exH
    rw [hF, f3]
    by_cases h0 : m.ex.length = 0
    · rw [decide_eq_false (by omega), Mb.ext, if_pos h0, List.length_eq_zero_iff.1 h0]
      rfl
    · rw [decide_eq_true (by omega)]
      simp only [if_true]
      rw [Mb.ext, if_neg h0, List.append_assoc] at d7
      rw [take_at d7 (lows_length _ _) (by decide)]
      simp only [Hz.bind]
      have d8 := drop_next d7
      rw [lows_length] at d8
      rw [le_lows, Nat.mod_eq_of_lt (by omega), take_at d8 rfl (by omega), Mb.ext, if_neg h0, List.length_append, lows_length]
      congr 1
      omega
  rw [hex]
  simp only [Hz.bind]
  have d8 := drop_next d7
  have d9 := drop_next d8
  have d10 := drop_next d9
  unfold h3
  rw [hF, f4, tx_at m.nm d8 (fun e => hn1 (.inl e)) (by omega)]
  simp only [Hz.bind]
  unfold h4
  rw [f5, tx_at m.cm d9 (fun e => hn1 (.inr e)) (by omega)]
  simp only [Hz.bind]
  unfold h5
  rw [f1, f2]
  have hbl : 0 + 1 + 1 + 1 + 1 + 4 + 1 + 1 + m.ext.length + (txt m.nm).length + (txt m.cm).length = m.body.length := by
    rw [Mb.body, List.length_append, List.length_append, List.length_append, Mb.pre_length]
  rw [hbl] at d10 ⊢
  have htm : le (lows m.tm 4) = m.tm := by rw [le_lows, Nat.mod_eq_of_lt htl]
  rw [htm]
  unfold smH
  cases hs : m.sm with
  | false =>
    simp only [Bool.false_eq_true, if_false, Hz.bind]
    rw [Mb.head, hs]
    simp only [Bool.false_eq_true, if_false]
    rw [Mb.md, hs]
  | true =>
    simp only [if_true]
    rw [hs] at htail
    simp only [if_true] at htail
    have ht : b.take m.body.length = m.body := by rw [hb, List.take_left]
    rw [htail, ← ht] at d10
    rw [ht] at d10
    rw [sum_at (r := rest) (by rw [ht]; exact d10)]
    simp only [Hz.bind]
    rw [Mb.head, hs]
    simp only [if_true]
    rw [Mb.md, hs, List.length_append, lows_length]
end Go.Proofs.YtpjnbhflnbhnoaaGreatDoor

namespace Go.Proofs.YtpjnbhflnbhnoaaGreatDoor
open Go.RowKit
set_option linter.unusedVariables false
/-! ### Where the plain bytes lie in stored blocks -/
theorem shd_length (x n : Nat) : (shd x n).length = 5 := by simp [shd, lows_length]
theorem stN_lo (n : Nat) : 65535 * stN n ≤ n ∧ n ≤ 65535 * (stN n + 1) := by unfold stN; omega
theorem stE_length (b : List By) (x : Nat) : (stE b x).length = 5 * (stN b.length + 1) + b.length := by
  have h := stN_lo b.length
  unfold stE
  rw [List.length_append, List.length_append, stP_len b _ h.1, shd_length, List.length_drop]
  omega
theorem stP_get (b : List By) : ∀ i, 65535 * i ≤ b.length → ∀ t, t < 65540 * i → (stP b i)[t]? = if t % 65540 < 5 then (shd 0 65535)[t % 65540]? else b[t - 5 * (t / 65540 + 1)]?
  | 0, _, t, ht => by omega
  | i + 1, h, t, ht => by
    have hl := stP_len b i (by omega)
    rw [stP]
    by_cases h1 : t < 65540 * i
    · rw [List.getElem?_append_left (by omega)]
      exact stP_get b i (by omega) t h1
    · rw [List.getElem?_append_right (by omega), hl]
      have e1 : t - 65540 * i = t % 65540 := by omega
      have e2 : t / 65540 = i := by omega
      rw [e1, e2]
      by_cases h2 : t % 65540 < 5
      · rw [if_pos h2, List.getElem?_append_left (by rw [shd_length]; exact h2)]
      · rw [if_neg h2, List.getElem?_append_right (by rw [shd_length]; omega), shd_length, List.getElem?_take, if_pos (by omega), List.getElem?_drop]
        congr 1
        omega
theorem stE_get (b : List By) (t : Nat) (ht : t < 5 * (stN b.length + 1) + b.length) : (stE b 1)[t]? = if t % 65540 < 5 then (if t / 65540 = stN b.length then shd 1 (b.length - 65535 * stN b.length) else shd 0 65535)[t % 65540]? else b[t - 5 * (t / 65540 + 1)]? := by
  have h := stN_lo b.length
  have hl := stP_len b _ h.1
  unfold stE
  by_cases h1 : t < 65540 * stN b.length
  · rw [List.getElem?_append_left (by omega), stP_get b _ h.1 t h1, if_neg (show ¬ t / 65540 = stN b.length by omega)]
  · rw [List.getElem?_append_right (by omega), hl]
    have e1 : t - 65540 * stN b.length = t % 65540 := by omega
    have e2 : t / 65540 = stN b.length := by omega
    rw [e1, if_pos e2]
    by_cases h2 : t % 65540 < 5
    · rw [if_pos h2, List.getElem?_append_left (by rw [shd_length]; exact h2)]
    · rw [if_neg h2, List.getElem?_append_right (by rw [shd_length]; omega), shd_length, List.getElem?_drop]
      congr 1
      omega
theorem stE_set (b : List By) (t : Nat) (ht : t < 5 * (stN b.length + 1) + b.length) (h5 : 5 ≤ t % 65540) (y : By) : stE (b.set (t - 5 * (t / 65540 + 1)) y) 1 = (stE b 1).set t y := by
  have hN := stN_lo b.length
  have hlen := stE_length b 1
  apply List.ext_getElem?
  intro j
  by_cases hj : j < 5 * (stN b.length + 1) + b.length
  · rw [stE_get _ j (by rw [List.length_set]; exact hj), List.length_set]
    by_cases e : t = j
    · subst e
      rw [if_neg (by omega), List.getElem?_set_self (by omega), List.getElem?_set_self (by omega)]
    · rw [List.getElem?_set_ne e, stE_get b j hj]
      by_cases h2 : j % 65540 < 5
      · rw [if_pos h2, if_pos h2]
      · rw [if_neg h2, if_neg h2, List.getElem?_set_ne (by omega)]
  · have l1 : (stE (b.set (t - 5 * (t / 65540 + 1)) y) 1).length = 5 * (stN b.length + 1) + b.length := by rw [stE_length, List.length_set]
    rw [List.getElem?_eq_none (by omega), List.getElem?_eq_none (by rw [List.length_set]; omega)]
/-- A member of stored blocks: its head, n plain bytes and what stands behind the stream. -/
def emb (hd : List By) (n : Nat) (X : List By) : List By := hd ++ stE (X.take n) 1 ++ X.drop n
/-- Where what stands behind the stream begins. -/
def ebk (h n : Nat) : Nat := h + (5 * (stN n + 1) + n)
/-- Plain bytes, or behind the stream. -/
def pz (h n t : Nat) : Prop := ebk h n ≤ t ∨ (h ≤ t ∧ 5 ≤ (t - h) % 65540)
instance (h n t : Nat) : Decidable (pz h n t) := by unfold pz; infer_instance
/-- How far ahead of it what is no plain byte reaches. -/
def sft (h n t : Nat) : Nat := if ebk h n ≤ t then h + 5 * (stN n + 1) else h + 5 * ((t - h) / 65540 + 1)
theorem emb_length (hd : List By) (n : Nat) (X : List By) (hX : X.length = n + 8) : (emb hd n X).length = ebk hd.length n + 8 := by
  unfold emb ebk
  rw [List.length_append, List.length_append, stE_length, List.length_take, List.length_drop, hX, Nat.min_eq_left (by omega)]
  omega
theorem sft_le {h n t : Nat} (hp : pz h n t) (ht : t < ebk h n + 8) : sft h n t ≤ t ∧ t - sft h n t < n + 8 ∧ (t < ebk h n → t - sft h n t < n) := by
  have hN := stN_lo n
  unfold sft
  unfold pz at hp
  unfold ebk at *
  split <;> omega
theorem sft_same {h n t u : Nat} (h1 : pz h n t) (h2 : pz h n u) (h3 : t ≤ u) (h4 : u ≤ t + 4) : sft h n t = sft h n u := by
  have hN := stN_lo n
  unfold pz at h1 h2
  unfold sft
  unfold ebk at *
  split <;> split <;> omega
theorem emb_set {hd : List By} {n : Nat} {X : List By} (hX : X.length = n + 8) {t : Nat} (hp : pz hd.length n t) (ht : t < ebk hd.length n + 8) (y : By) : emb hd n (X.set (t - sft hd.length n t) y) = (emb hd n X).set t y := by
  have hl := sft_le hp ht
  have hN := stN_lo n
  have ht1 : (X.take n).length = n := by rw [List.length_take, hX]; omega
  have hse : (stE (X.take n) 1).length = 5 * (stN n + 1) + n := by rw [stE_length, ht1]
  unfold emb
  by_cases hb : ebk hd.length n ≤ t
  · have hs : sft hd.length n t = hd.length + 5 * (stN n + 1) := by unfold sft; rw [if_pos hb]
    unfold ebk at hb ht
    rw [List.take_set_of_le (by omega), List.drop_set, if_neg (by omega), List.set_append, List.length_append, hse, if_neg (by omega)]
    congr 2
    omega
  · have hl3 := hl.2.2 (by omega)
    have hs : sft hd.length n t = hd.length + 5 * ((t - hd.length) / 65540 + 1) := by unfold sft; rw [if_neg hb]
    have hp2 : hd.length ≤ t ∧ 5 ≤ (t - hd.length) % 65540 := hp.resolve_left hb
    have h5 : t - hd.length < 5 * (stN n + 1) + n := by unfold ebk at hb; omega
    have he : t - sft hd.length n t = (t - hd.length) - 5 * ((t - hd.length) / 65540 + 1) := by omega
    rw [List.drop_set_of_lt hl3, List.take_set, he]
    rw [stE_set (X.take n) (t - hd.length) (by rw [ht1]; exact h5) hp2.2 y]
    rw [List.set_append, List.length_append, hse, if_pos (by omega), List.set_append, if_neg (by omega)]
theorem emb_get {hd : List By} {n : Nat} {X : List By} (hX : X.length = n + 8) {t : Nat} (hp : pz hd.length n t) (ht : t < ebk hd.length n + 8) : (emb hd n X)[t]? = X[t - sft hd.length n t]? := by
  have hl := sft_le hp ht
  have e := emb_set hX hp ht (X.getD (t - sft hd.length n t) 0#8)
  have hi : t - sft hd.length n t < X.length := by omega
  have hg : X.getD (t - sft hd.length n t) 0#8 = X[t - sft hd.length n t] := by
    rw [List.getD_eq_getElem?_getD, List.getElem?_eq_getElem hi]; rfl
  rw [hg, List.set_getElem_self] at e
  rw [e, List.getElem?_set_self (by rw [emb_length hd n X hX]; exact ht), List.getElem?_eq_getElem hi]
theorem pow_xor (k a b : Nat) : 2 ^ k * (a ^^^ b) = (2 ^ k * a) ^^^ (2 ^ k * b) := by
  have := Nat.shiftLeft_xor_distrib (a := a) (b := b) (i := k)
  simpa [Nat.shiftLeft_eq, Nat.mul_comm] using this
theorem le_cons_xor (x : By) (r : List By) : le (x :: r) = x.toNat ^^^ (2 ^ 8 * le r) := by rw [xor_join 8 _ _ x.isLt]; rfl
theorem le_set_xor : ∀ (X : List By) (j : Nat) (hj : j < X.length) (v : By), le (X.set j (X[j] ^^^ v)) = le X ^^^ (2 ^ (8 * j) * v.toNat)
  | x :: r, 0, _, v => by
    simp only [List.set_cons_zero, List.getElem_cons_zero]
    rw [le_cons_xor, le_cons_xor, BitVec.toNat_xor, Nat.mul_zero, Nat.pow_zero, Nat.one_mul, Nat.xor_assoc, Nat.xor_assoc, Nat.xor_comm v.toNat]
  | x :: r, j + 1, hj, v => by
    simp only [List.set_cons_succ, List.getElem_cons_succ]
    rw [le_cons_xor, le_set_xor r j (by simpa using hj) v, le_cons_xor, pow_xor, ← Nat.xor_assoc, ← Nat.mul_assoc, ← Nat.pow_add, show 8 + 8 * j = 8 * (j + 1) by omega]
/-- How the bits were turned, i of 32 having been looked at. -/
structure BI (h n f : Nat) (X0 : List By) (i : Nat) (X : List By) (W : Nat) : Prop where
  len : X.length = n + 8
  lt : W < 2 ^ i
  ex : ∃ s, 2 ^ (8 * s) * (le X ^^^ le X0) = 2 ^ f * W ∧ (W ≠ 0 → ∃ t, f / 8 ≤ t ∧ 8 * t ≤ f + i ∧ pz h n t ∧ t < ebk h n + 8 ∧ s = sft h n t)
theorem BI.start (h n f : Nat) (X0 : List By) (hX : X0.length = n + 8) : BI h n f X0 0 X0 0 :=
  ⟨hX, by decide, 0, by rw [Nat.xor_self]; rfl, fun h => absurd rfl h⟩
theorem BI.skip {h n f : Nat} {X0 : List By} {i : Nat} {X : List By} {W : Nat} (b : BI h n f X0 i X W) : BI h n f X0 (i + 1) X W := by
  obtain ⟨s, h1, h2⟩ := b.ex
  refine ⟨b.len, Nat.lt_of_lt_of_le b.lt (Nat.pow_le_pow_right (by decide) (by omega)), s, h1, fun hw => ?_⟩
  obtain ⟨t, q1, q2, q3⟩ := h2 hw
  exact ⟨t, q1, by omega, q3⟩
theorem xor_ne_pow {W i : Nat} (h : W < 2 ^ i) : W ^^^ 2 ^ i < 2 ^ (i + 1) ∧ W ^^^ 2 ^ i ≠ 0 := by
  refine ⟨Nat.xor_lt_two_pow (Nat.lt_of_lt_of_le h (Nat.pow_le_pow_right (by decide) (by omega))) (Nat.pow_lt_pow_right (by decide) (by omega)), fun e => ?_⟩
  have := xor_cancel e
  rw [Nat.xor_zero] at this
  omega
theorem expo {a S : Nat} (h : S ≤ a / 8) : 8 * S + (8 * (a / 8 - S) + a % 8) = a := by omega
theorem BI.turn {h n f : Nat} {X0 : List By} {i : Nat} {X : List By} {W : Nat} (b : BI h n f X0 i X W) (hi : i < 32) (hp : pz h n ((f + i) / 8)) (ht : (f + i) / 8 < ebk h n + 8) (hj : (f + i) / 8 - sft h n ((f + i) / 8) < X.length) :
    BI h n f X0 (i + 1) (X.set ((f + i) / 8 - sft h n ((f + i) / 8)) (X[(f + i) / 8 - sft h n ((f + i) / 8)] ^^^ BitVec.ofNat 8 (2 ^ ((f + i) % 8)))) (W ^^^ 2 ^ i) ∧ W ^^^ 2 ^ i ≠ 0 := by
  have hx := xor_ne_pow b.lt
  have hsl := sft_le hp ht
  refine ⟨⟨by rw [List.length_set]; exact b.len, hx.1, sft h n ((f + i) / 8), ?_, fun _ => ⟨(f + i) / 8, by omega, by omega, hp, ht, rfl⟩⟩, hx.2⟩
  have hv : (BitVec.ofNat 8 (2 ^ ((f + i) % 8))).toNat = 2 ^ ((f + i) % 8) := by
    rw [BitVec.toNat_ofNat, Nat.mod_eq_of_lt (Nat.pow_lt_pow_right (by decide) (by omega))]
  obtain ⟨s, h1, h2⟩ := b.ex
  rw [le_set_xor X _ hj, hv, Nat.xor_assoc, Nat.xor_comm (2 ^ _ * 2 ^ _), ← Nat.xor_assoc, pow_xor]
  have e1 : 2 ^ (8 * sft h n ((f + i) / 8)) * (2 ^ (8 * ((f + i) / 8 - sft h n ((f + i) / 8))) * 2 ^ ((f + i) % 8)) = 2 ^ f * 2 ^ i := by
    rw [← Nat.pow_add, ← Nat.pow_add, ← Nat.pow_add, expo hsl.1]
  have e2 : 2 ^ (8 * sft h n ((f + i) / 8)) * (le X ^^^ le X0) = 2 ^ f * W := by
    by_cases hw : W = 0
    · rw [hw, Nat.mul_zero] at h1 ⊢
      have : le X ^^^ le X0 = 0 := by
        rcases Nat.mul_eq_zero.1 h1 with e | e
        · exact absurd e (Nat.ne_of_gt (Nat.two_pow_pos _))
        · exact e
      rw [this, Nat.mul_zero]
    · obtain ⟨t, q1, q2, q3, q4, q5⟩ := h2 hw
      rw [← sft_same q3 hp (by omega) (by omega), ← q5]
      exact h1
  rw [e1, e2, ← pow_xor]
end Go.Proofs.YtpjnbhflnbhnoaaGreatDoor

namespace Go.Proofs.YtpjnbhflnbhnoaaGreatDoor
open Go.RowKit
set_option linter.unusedVariables false
/-! ### Decode of a member of stored blocks, whatever its plain bytes and what stands behind them -/
theorem emb_one (m : Mb) (he : m.err = 0) (htl : m.tm < 4294967296) (n : Nat) (X : List By) (hX : X.length = n + 8) (hn : n ≤ 4194304) : oneZ (emb m.head n X) 4194304 = if chkZ (X.drop n) (X.take n) = 0 then .ok (X.take n) m.md (emb m.head n X).length else .bad (chkZ (X.drop n) (X.take n)) := by
  have ht1 : (X.take n).length = n := by rw [List.length_take, hX]; omega
  have hel := emb_length m.head n X hX
  have hse : (stE (X.take n) 1).length = 5 * (stN n + 1) + n := by rw [stE_length, ht1]
  have hh : headH (emb m.head n X) 0 = .ok m.md m.head.length := by
    unfold emb
    rw [List.append_assoc]
    exact head_back m he htl _
  have hd1 : (emb m.head n X).drop m.head.length = stE (X.take n) 1 ++ X.drop n := by
    unfold emb
    rw [List.append_assoc, List.drop_left]
  have hdec := st_dec (X.take n) (X.drop n) 4194304 (by omega) (by omega)
  rw [show ((4194304 : Nat) : Int) = 4194304 from rfl] at hdec
  have hd2 : (emb m.head n X).drop (m.head.length + (stE (X.take n) 1).length) = X.drop n := by
    rw [← List.drop_drop, hd1, List.drop_left]
  unfold oneZ
  rw [if_neg (by decide), hh]
  simp only
  rw [hd1, hdec]
  simp only [ne_eq, not_true_eq_false, if_false]
  rw [hd2]
  by_cases hc : chkZ (X.drop n) (X.take n) = 0
  · rw [if_neg (by simp [hc]), if_pos hc, hel, hse]
    congr 1
  · rw [if_pos hc, if_neg hc]
theorem emb_dec (m : Mb) (he : m.err = 0) (htl : m.tm < 4294967296) (n : Nat) (X : List By) (hX : X.length = n + 8) (hn : n ≤ 4194304) : decZ (emb m.head n X) 4194304 = if chkZ (X.drop n) (X.take n) = 0 then .ok (X.take n) [m.md] else .bad (chkZ (X.drop n) (X.take n)) := by
  have h1 := emb_one m he htl n X hX hn
  have hel := emb_length m.head n X hX
  have h1' : oneZ ((emb m.head n X).drop 0) (4194304 - (([] : List By).length : Int)) = if chkZ (X.drop n) (X.take n) = 0 then .ok (X.take n) m.md (emb m.head n X).length else .bad (chkZ (X.drop n) (X.take n)) := h1
  have hz := zlen_le (emb m.head n X) (emb m.head n X).length
  unfold decZ
  obtain ⟨j, hj⟩ : ∃ j, (emb m.head n X).length = j + 1 := ⟨(emb m.head n X).length - 1, by omega⟩
  by_cases hc : chkZ (X.drop n) (X.take n) = 0
  · rw [if_pos hc] at h1' ⊢
    rw [decL_ok (.inl rfl) h1']
    conv => lhs; arg 4; rw [hj]
    rw [decL_done (by simp; omega)]
    rfl
  · rw [if_neg hc] at h1' ⊢
    rw [decL_bad (.inl rfl) h1', if_neg (by simp)]
/-- What there is when nothing is turned. -/
def eX (p : List By) : List By := p ++ (lows (sumS p) 4 ++ lows p.length 4)
theorem eX_length (p : List By) : (eX p).length = p.length + 8 := by simp [eX, lows_length]
theorem eX_whole (m : Mb) (p : List By) : emb m.head p.length (eX p) = m.whole p := by
  unfold emb eX Mb.whole
  rw [List.take_left, List.drop_left, List.append_assoc, List.append_assoc, List.append_assoc]
theorem eX_chk (p : List By) (hp : p.length ≤ 4194304) : chkZ ((eX p).drop p.length) ((eX p).take p.length) = 0 := by
  unfold eX
  rw [List.take_left, List.drop_left]
  unfold chkZ
  have h1 := sumS_lt p
  rw [if_neg (by simp [lows_length]), List.take_left' (lows_length _ _), List.drop_left' (lows_length _ _), le_lows, Nat.mod_eq_of_lt (by omega), if_neg (by simp), List.take_of_length_le (by simp [lows_length]), le_lows, Nat.mod_eq_of_lt (by omega), if_neg (by simp)]
theorem le_join (a b : List By) : le (a ++ b) = le a ^^^ (2 ^ (8 * a.length) * le b) := by
  rw [xor_join _ _ _ (by have := le_lt a; rwa [show (256 : Nat) = 2 ^ 8 from rfl, ← Nat.pow_mul] at this), le_append, show (256 : Nat) = 2 ^ 8 from rfl, ← Nat.pow_mul]
theorem BI.fin {h f : Nat} {p X : List By} {W : Nat} (b : BI h p.length f (eX p) 32 X W) (hp : p.length ≤ 4194304) : (W = 0 → X = eX p) ∧ (W ≠ 0 → chkZ (X.drop p.length) (X.take p.length) ≠ 0) := by
  obtain ⟨s, h1, _⟩ := b.ex
  have hlen := b.len
  have hlt := b.lt
  refine ⟨fun hw => ?_, fun hw hc => hw ?_⟩
  · rw [hw, Nat.mul_zero] at h1
    have e : le X ^^^ le (eX p) = 0 := by
      rcases Nat.mul_eq_zero.1 h1 with e | e
      · exact absurd e (Nat.ne_of_gt (Nat.two_pow_pos _))
      · exact e
    have := xor_cancel e
    rw [Nat.xor_zero] at this
    exact le_inj _ _ (by rw [hlen, eX_length]) this.symm
  · obtain ⟨P', hP'⟩ : ∃ P', P' = X.take p.length := ⟨_, rfl⟩
    obtain ⟨C', hC'⟩ : ∃ C', C' = (X.drop p.length).take 4 := ⟨_, rfl⟩
    obtain ⟨I', hI'⟩ : ∃ I', I' = (X.drop p.length).drop 4 := ⟨_, rfl⟩
    have l1 : P'.length = p.length := by rw [hP', List.length_take, hlen]; omega
    have l2 : C'.length = 4 := by rw [hC', List.length_take, List.length_drop, hlen]; omega
    have l3 : I'.length = 4 := by rw [hI', List.length_drop, List.length_drop, hlen]; omega
    have hXe : X = (P' ++ C') ++ I' := by rw [hP', hC', hI', List.append_assoc, List.take_append_drop, List.take_append_drop]
    unfold chkZ at hc
    rw [if_neg (by rw [List.length_drop, hlen]; omega), ← hC', ← hI', ← hP'] at hc
    have c1 : le C' = sumS P' := by
      by_cases e : le C' = sumS P'
      · exact e
      · rw [if_pos e] at hc; cases hc
    rw [if_neg (by simp [c1])] at hc
    have c2 : le (I'.take 4) = P'.length := by
      by_cases e : le (I'.take 4) = P'.length
      · exact e
      · rw [if_pos e] at hc; cases hc
    rw [List.take_of_length_le (by omega)] at c2
    have e3 : I' = lows p.length 4 := le_inj _ _ (by rw [l3, lows_length]) (by rw [c2, l1, le_lows, Nat.mod_eq_of_lt (by omega)])
    have hX0 : eX p = (p ++ lows (sumS p) 4) ++ lows p.length 4 := by unfold eX; rw [List.append_assoc]
    have hs := sumS_lt p
    have hd : le X ^^^ le (eX p) = le (p ++ lows (sumS p) 4) ^^^ le (P' ++ C') := by
      rw [hXe, hX0, e3, le_join (P' ++ C'), le_join (p ++ lows (sumS p) 4), xor4]
      rw [show (P' ++ C').length = (p ++ lows (sumS p) 4).length by rw [List.length_append, List.length_append, l1, l2, lows_length], Nat.xor_self, Nat.xor_zero, Nat.xor_comm]
    rw [hd] at h1
    exact burst_found l1 (lows_length _ _) l2 (by rw [le_lows, Nat.mod_eq_of_lt (by omega)]) c1 (by simpa using hlt) h1
/-- The bytes that say how long a block is. -/
theorem emb_len {hd : List By} {n : Nat} {X : List By} (hX : X.length = n + 8) (i : Nat) (hi : i ≤ stN n) : ∃ k, (k = if i = stN n then n - 65535 * stN n else 65535) ∧ (emb hd n X).getD (hd.length + 65540 * i + 1) 0#8 = BitVec.ofNat 8 k ∧ (emb hd n X).getD (hd.length + 65540 * i + 2) 0#8 = BitVec.ofNat 8 (k / 256) := by
  have hN := stN_lo n
  have ht1 : (X.take n).length = n := by rw [List.length_take, hX]; omega
  have hse : (stE (X.take n) 1).length = 5 * (stN n + 1) + n := by rw [stE_length, ht1]
  have key : ∀ r, r < 5 → (emb hd n X)[hd.length + 65540 * i + r]? = (if i = stN n then shd 1 (n - 65535 * stN n) else shd 0 65535)[r]? := fun r hr => by
    unfold emb
    rw [List.append_assoc, List.getElem?_append_right (by omega), show hd.length + 65540 * i + r - hd.length = 65540 * i + r by omega, List.getElem?_append_left (by rw [hse]; omega)]
    rw [stE_get _ _ (by rw [ht1]; omega), ht1, show (65540 * i + r) % 65540 = r by omega, show (65540 * i + r) / 65540 = i by omega, if_pos hr]
  refine ⟨_, rfl, ?_, ?_⟩
  · rw [List.getD_eq_getElem?_getD, key 1 (by omega)]
    split <;> rfl
  · rw [List.getD_eq_getElem?_getD, key 2 (by omega)]
    split <;> rfl
end Go.Proofs.YtpjnbhflnbhnoaaGreatDoor

namespace Go.Proofs.YtpjnbhflnbhnoaaGreatDoor
open Go.RowKit
set_option linter.unusedVariables false
set_option maxHeartbeats 8000000 in
set_option maxRecDepth 100000 in
theorem lplainly_any (w : World) (a : Option Addr) (L c : Nat) (hd X : List By) (n : Nat) (hX : X.length = n + 8) (hb : Old w (.slice a L c) (emb hd n X)) (hL : ebk hd.length n + 8 = L) (hl : L ≤ 140737488351232) (H : Nat) (hH : hd.length = H) (t : Nat) (ht : t < L) :
    Calls Tryz.prog 27 #[.slice a L c, .int .i64 H, .int .i64 t] w fun e w' => e = .returned (.bool (decide (pz H n t))) ∧ Nw w w' := by
  obtain ⟨P, hP⟩ : ∃ P : Ending → World → Prop, P = fun e w' => e = .returned (.bool (decide (pz H n t))) ∧ Nw w w' := ⟨_, rfl⟩
  rw [← hP]
  have HF : Hid (∀ r V, (r = true ↔ pz H n t) → Nw w V → P (.returned (.bool r)) V) := fun r V hr hV => by
    rw [hP]
    refine ⟨?_, hV⟩
    congr 2
    by_cases h : pz H n t
    · rw [decide_eq_true h]; exact hr.2 h
    · rw [decide_eq_false h]
      cases r with
      | false => rfl
      | true => exact absurd (hr.1 rfl) h
  clear hP
  have HR : Hid (∀ V, Nw w V → ∀ I, I < L → ∃ g o, a = some ⟨g, o, none⟩ ∧ L ≤ c ∧ c < 9223372036854775808 ∧ V.cell? ⟨g, o + I, none⟩ = some (.int .u8 ((emb hd n X).getD I 0#8).toNat)) := fun V hV I hI => by
    have hlen := emb_length hd n X hX
    rcases Sl.later hb hV with ⟨a', e, e2⟩ | ⟨g, _, o, c', e, e1, e2, hr⟩
    · rw [e2] at hlen; simp at hlen
    · injection e with e _ ec
      subst ec
      refine ⟨g, o, e, by omega, e2, ?_⟩
      have := hr I (by omega)
      rw [List.getD_eq_getElem?_getD, List.getElem?_eq_getElem (by omega)]
      exact this
  have HE : Hid (∀ i, i ≤ stN n → ∃ k, (k = if i = stN n then n - 65535 * stN n else 65535) ∧ (emb hd n X).getD (H + 65540 * i + 1) 0#8 = BitVec.ofNat 8 k ∧ (emb hd n X).getD (H + 65540 * i + 2) 0#8 = BitVec.ofNat 8 (k / 256)) := fun i hi => by rw [← hH]; exact emb_len hX i hi
  have hN := stN_lo n
  have hL2 : H + (5 * (stN n + 1) + n) + 8 = L := by rw [← hH]; exact hL
  have HPZ : Hid (pz H n t ↔ (L ≤ t + 8 ∨ (H ≤ t ∧ 5 ≤ (t - H) % 65540))) := by
    show _ ↔ _
    unfold pz ebk
    constructor
    · rintro (h | h)
      · left; omega
      · exact .inr h
    · rintro (h | h)
      · left; omega
      · exact .inr h
  clear hb hH hX hL
  obtain ⟨N, hNN⟩ : ∃ N, stN n = N := ⟨_, rfl⟩
  rw [hNN] at HE hN hL2
  clear hNN
  go_enter Tryz.func27, Tryz.ntmps27
  by_cases ht8 : L ≤ t + 8
  · have d1 : (L : Int) - 8 ≤ (t : Int) := by omega
    have HF2 := toHid2 (HF.out true w (by simp only [true_iff]; exact HPZ.out.2 (.inl ht8)) (Fr.refl _ _))
    clear HF HR HE HPZ
    go_wp2_with fail
    exact HF2.out
  · have d1 : ¬ (L : Int) - 8 ≤ (t : Int) := by omega
    go_wp2_with fail
    go_loopg [7] (N + 1) (fun kx v wr => ∃ i : Nat, i ≤ N ∧ N < i + kx ∧ v = .int .i64 ((H + 65540 * i : Nat) : Int) ∧ (i = 0 ∨ H + 65540 * i ≤ t) ∧ Hid (Nw w wr))
    case atStart => exact ⟨0, by omega, by omega, by simp, .inl rfl, Fr.refl _ _⟩
    case round =>
      obtain ⟨i, hi, hkx, rfl, hit, HN⟩ := hrel
      obtain ⟨k, hk, x1, x2⟩ := HE.out i hi
      obtain ⟨g, o, rfl, hc1, hc2, y1⟩ := HR.out wr HN.out (H + 65540 * i + 1) (by omega)
      obtain ⟨g', o', e', _, _, y2⟩ := HR.out wr HN.out (H + 65540 * i + 2) (by omega)
      injection e' with e'
      injection e' with eg eo
      subst eg eo
      rw [x1] at y1
      rw [x2] at y2
      have hk5 : k ≤ 65535 := by rw [hk]; split <;> omega
      have v1 : ((BitVec.ofNat 8 k).toNat : Int) + ((BitVec.ofNat 8 (k / 256)).toNat : Int) * 256 = (k : Int) := by
        rw [BitVec.toNat_ofNat, BitVec.toNat_ofNat]; omega
      have b1 : (BitVec.ofNat 8 k).toNat < 256 := (BitVec.ofNat 8 k).isLt
      have b2 : (BitVec.ofNat 8 (k / 256)).toNat < 256 := (BitVec.ofNat 8 (k / 256)).isLt
      generalize (BitVec.ofNat 8 k).toNat = A at *
      generalize (BitVec.ofNat 8 (k / 256)).toNat = B at *
      have hend : i = N → H + 65540 * i + 5 + k = L - 8 := fun e => by rw [if_pos e] at hk; omega
      have hmid : i ≠ N → k = 65535 := fun e => by rw [if_neg e] at hk; exact hk
      obtain ⟨p, hp⟩ : ∃ p, H + 65540 * i = p := ⟨_, rfl⟩
      have HPP : Hid (H + 65540 * i = p) := hp
      have hpL : p + 13 ≤ L := by omega
      rw [hp] at y1 y2 hit hend
      clear x1 x2 hk HE HR
      rw [hp]
      clear hp
      have z1 : (p : Int) + 5 ≤ (L : Int) - 8 := by omega
      obtain ⟨p1, hp1⟩ : ∃ p1, p + 1 = p1 := ⟨_, rfl⟩
      obtain ⟨p2, hp2⟩ : ∃ p2, p + 2 = p2 := ⟨_, rfl⟩
      have z2 : (p : Int) + 1 = (p1 : Int) := by omega
      have z3 : (p : Int) + 2 = (p2 : Int) := by omega
      have z4 : (p1 : Int) < (L : Int) := by omega
      have z5 : (p2 : Int) < (L : Int) := by omega
      rw [hp1] at y1
      rw [hp2] at y2
      clear hp1 hp2
      have HV := toHid2 v1
      go_upto_region 5 with fail
      go_cut [8] (fun v V => v = .int .i64 k ∧ Hid (Nw wr V))
      case first =>
        clear HF HPZ HN hend hmid HPP
        go_quiet (fail)
        go_wp2_with fail
        go_meet
        exact ⟨by first | rfl | (congr 1; omega), ((Fr.refl _ _).drewN _)⟩
      case rest =>
      obtain ⟨rfl, HW⟩ := hcut
      have HNV := toHid2 (HN.out.trans HW.out)
      clear y1 y2 HV v1 b1 b2 HN HW z2 z3 z4 z5
      by_cases q1 : t < p + 5
      · have HF2 := toHid2 (HF.out false wc (by
          simp only [Bool.false_eq_true, false_iff]
          rw [HPZ.out]
          have := HPP.out
          omega) HNV.out)
        have d2 : (t : Int) < (p : Int) + 5 := by omega
        clear HF HPZ hend hmid HPP HNV
        go_wp2_with fail
        exact HF2.out
      · have d2 : ¬ (t : Int) < (p : Int) + 5 := by omega
        by_cases q2 : t < p + 5 + k
        · have HF2 := toHid2 (HF.out true wc (by
            simp only [true_iff]
            rw [HPZ.out]
            have := HPP.out
            omega) HNV.out)
          have d3 : (t : Int) < (p : Int) + 5 + (k : Int) := by omega
          clear HF HPZ hend hmid HPP HNV
          go_wp2_with fail
          exact HF2.out
        · have d3 : ¬ (t : Int) < (p : Int) + 5 + (k : Int) := by omega
          have hiN : i ≠ N := fun e => by have := hend e; omega
          have hk2 := hmid hiN
          have HQ : Hid ((p : Int) + 5 + (k : Int) = ((H + 65540 * (i + 1) : Nat) : Int) ∧ i + 1 ≤ N ∧ H + 65540 * (i + 1) ≤ t) := ⟨by have := HPP.out; omega, by omega, by have := HPP.out; omega⟩
          have HK := toHid2 hkx
          clear HF HPZ hend hmid HPP hk2 hkx hiN hi hit q1 q2 hN
          go_wp2_with fail
          go_roundg (N - i)
          case measure => have := HK.out; have := HQ.out.2.1; omega
          case rel => exact ⟨i + 1, HQ.out.2.1, by have := HQ.out.2.1; omega, by rw [← HQ.out.1], .inr HQ.out.2.2, HNV.out⟩
end Go.Proofs.YtpjnbhflnbhnoaaGreatDoor

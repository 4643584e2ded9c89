import Derived.Test.YtoegbaenheeogaaNfA
namespace Go.Proofs.Ytoegbaenheeogaa
set_option linter.unusedVariables false
/-! ### Octal digits, written -/
def dg (n : Nat) : By := BitVec.ofNat 8 (48 + n % 8)
theorem dg_toNat (n : Nat) : (dg n).toNat = 48 + n % 8 := by
  unfold dg
  rw [BitVec.toNat_ofNat]
  exact Nat.mod_eq_of_lt (by omega)
theorem dg_isD (n : Nat) : isD (dg n) = true := by
  unfold isD
  rw [dg_toNat]
  exact decide_eq_true (by omega)
/-- The last k octal digits of n. -/
def ol (n : Nat) : Nat → List By
  | 0 => []
  | k + 1 => dg (n / 8 ^ k) :: ol n k
theorem ol_length (n k : Nat) : (ol n k).length = k := by
  induction k with
  | zero => rfl
  | succ k ih => rw [ol, List.length_cons, ih]
theorem ol_all (n k : Nat) : (ol n k).all isD = true := by
  induction k with
  | zero => rfl
  | succ k ih => rw [ol, List.all_cons, ih, dg_isD]; rfl
theorem v8_ol (n k : Nat) : ∀ m, v8 m (ol n k) = m * 8 ^ k + n % 8 ^ k := by
  induction k with
  | zero => intro m; simp [ol, v8_nil, Nat.mod_one]
  | succ k ih =>
    intro m
    rw [ol, v8_cons, ih, dg_toNat, Nat.add_sub_cancel_left, Nat.mod_pow_succ (b := 8), Nat.add_mul, Nat.pow_succ]
    rw [Nat.mul_comm 8 m, Nat.mul_assoc m 8, Nat.mul_comm 8 (8 ^ k), Nat.mul_comm (n / 8 ^ k % 8)]
    omega
theorem ol_fit (n k : Nat) (h : n / 8 ^ k = 0) : v8 0 (ol n k) = n := by
  rw [v8_ol, Nat.zero_mul, Nat.zero_add]
  apply Nat.mod_eq_of_lt
  have h0 : 0 < 8 ^ k := Nat.pow_pos (by omega)
  exact (Nat.div_eq_zero_iff_lt h0).1 h
theorem tw_all (l r : List By) (p : By → Bool) (h : l.all p = true) (hr : ∀ x, r.head? = some x → p x = false) : (l ++ r).takeWhile p = l ∧ (l ++ r).dropWhile p = r := by
  induction l with
  | nil =>
    cases r with
    | nil => exact ⟨rfl, rfl⟩
    | cons x r =>
      have := hr x rfl
      rw [List.nil_append, List.takeWhile_cons, List.dropWhile_cons, this]
      exact ⟨rfl, rfl⟩
  | cons y l ih =>
    rw [List.all_cons, Bool.and_eq_true] at h
    obtain ⟨a, b⟩ := ih h.2
    rw [List.cons_append, List.takeWhile_cons, List.dropWhile_cons, if_pos h.1, if_pos h.1, a, b]
    exact ⟨rfl, rfl⟩
theorem isD_bl (x : By) (h : isD x = true) : isBl x = false := by
  have := isD_bz x h
  unfold isBz at this; unfold isBl
  have := of_decide_eq_false this
  exact decide_eq_false (fun e => this (.inl e))
/-- Digits and a zero read as their number. -/
theorem oct_ol (n k : Nat) (h : n / 8 ^ k = 0) (hm : n ≤ mx) (hk : 0 < k) : octN (ol n k ++ [0#8]) = n ∧ octE (ol n k ++ [0#8]) = 0 := by
  have hd : (ol n k ++ [0#8]).dropWhile isBl = ol n k ++ [0#8] := by
    obtain ⟨j, rfl⟩ : ∃ j, k = j + 1 := ⟨k - 1, by omega⟩
    rw [ol, List.cons_append, List.dropWhile_cons, if_neg (by rw [isD_bl _ (dg_isD _)]; decide)]
  have ht := tw_all (ol n k) [0#8] isD (ol_all n k) (fun x e => by injection e with e; rw [← e]; decide)
  have e1 : dgs (ol n k ++ [0#8]) = ol n k := by unfold dgs; rw [hd, ht.1]
  have e2 : rst (ol n k ++ [0#8]) = [0#8] := by unfold rst; rw [hd, ht.2]
  have e3 : ([0#8] : List By).all isBz = true := by decide
  have e4 := ol_fit n k h
  unfold octN octE
  rw [e1, e2, e3, e4, if_pos rfl, if_pos rfl, if_pos hm, if_pos hm]
  exact ⟨rfl, rfl⟩
theorem octN_mx (b : List By) : octN b ≤ mx := by
  unfold octN
  split
  · split
    · assumption
    · exact Nat.zero_le _
  · exact Nat.zero_le _
theorem octE_cases (b : List By) : octE b = 0 ∨ ((octE b = 120 ∨ octE b = 121) ∧ octN b = 0) := by
  unfold octE octN
  split
  · split
    · exact .inl rfl
    · exact .inr ⟨.inr rfl, rfl⟩
  · exact .inr ⟨.inl rfl, rfl⟩
/-! ### Base 256, written -/
def lb (n : Int) : By := BitVec.ofInt 8 n
theorem lb_toNat (n : Int) : ((lb n).toNat : Int) = n % 256 := by
  unfold lb
  rw [BitVec.toNat_ofInt]
  have : (0 : Int) ≤ n % 256 := Int.emod_nonneg _ (by omega)
  omega
/-- The last k bytes of n. -/
def bl (n : Int) : Nat → List By
  | 0 => []
  | k + 1 => lb (n / 256 ^ k) :: bl n k
theorem bl_length (n : Int) (k : Nat) : (bl n k).length = k := by
  induction k with
  | zero => rfl
  | succ k ih => rw [bl, List.length_cons, ih]
theorem pow_p (k : Nat) : (0 : Int) < 256 ^ k := Int.pow_pos (by omega)
theorem mod_succ (n : Int) (k : Nat) : n % 256 ^ (k + 1) = (n / 256 ^ k % 256) * 256 ^ k + n % 256 ^ k := by
  have h0 := pow_p k
  rw [Int.pow_succ]
  generalize (256 : Int) ^ k = M at *
  have h1 : 0 ≤ n % M := Int.emod_nonneg _ (by omega)
  have h2 : n % M < M := Int.emod_lt_of_pos _ h0
  have h3 : n = M * (n / M) + n % M := (Int.mul_ediv_add_emod n M).symm
  generalize n / M = q at *
  generalize n % M = r at *
  have h4 : q = 256 * (q / 256) + q % 256 := by omega
  have h5 : 0 ≤ q % 256 := Int.emod_nonneg _ (by omega)
  have h6 : q % 256 < 256 := Int.emod_lt_of_pos _ (by omega)
  generalize q % 256 = s at *
  generalize q / 256 = t at *
  have h7 : n = (s * M + r) + (M * 256) * t := by
    rw [h3, h4, Int.mul_add, Int.mul_assoc M 256 t, Int.mul_comm M s]
    omega
  rw [h7, Int.add_mul_emod_self_left]
  have h8 : 0 ≤ s * M := Int.mul_nonneg h5 (by omega)
  have h9 : s * M ≤ 255 * M := Int.mul_le_mul_of_nonneg_right (by omega) (by omega)
  exact Int.emod_eq_of_lt (by omega) (by omega)
theorem vb_bl (n : Int) (k : Nat) : ∀ m, vb m (bl n k) = m * 256 ^ k + n % 256 ^ k := by
  induction k with
  | zero => intro m; simp [bl, vb, Int.emod_one]
  | succ k ih =>
    intro m
    rw [bl, vb_cons, ih, lb_toNat, mod_succ, Int.add_mul, Int.pow_succ, Int.mul_assoc, Int.mul_comm 256, Int.add_assoc]
theorem vb_div (m : Int) (l : List By) : vb m l / 256 ^ l.length = m ∧ vb m l % 256 ^ l.length = vb 0 l := by
  have h0 := pow_p l.length
  obtain ⟨h1, h2⟩ := vb_lo l
  rw [vb_split]
  generalize (256 : Int) ^ l.length = M at *
  constructor
  · rw [Int.mul_comm, Int.add_comm, Int.add_mul_ediv_left _ _ (by omega), Int.ediv_eq_zero_of_lt h1 h2, Int.zero_add]
  · rw [Int.mul_comm, Int.add_comm, Int.add_mul_emod_self_left, Int.emod_eq_of_lt h1 h2]
theorem lb_of (m : Int) (y : By) : lb (m * 256 + (y.toNat : Int)) = y := by
  apply BitVec.eq_of_toNat_eq
  have := lb_toNat (m * 256 + (y.toNat : Int))
  have hy := y.isLt
  omega
theorem bl_vb (l : List By) : ∀ m, bl (vb m l) l.length = l := by
  induction l with
  | nil => intro m; rfl
  | cons y l ih =>
    intro m
    rw [List.length_cons, bl, vb_cons, (vb_div _ l).1, lb_of, ih]
/-- The first byte of a field. -/
def hb (h : Int) : By := lb h ||| 128#8
theorem hb_toNat (h : Int) (h1 : -64 ≤ h) (h2 : h ≤ 63) : ((hb h).toNat : Int) = if h < 0 then h + 256 else h + 128 := by
  have : ∀ x : By, (x ||| 128#8).toNat = x.toNat % 128 + 128 := by decide +kernel
  unfold hb
  have e := this (lb h)
  have e2 := lb_toNat h
  split <;> omega
theorem fb_hb (h : Int) (h1 : -64 ≤ h) (h2 : h ≤ 63) : fb (hb h) = h ∧ 128 ≤ (hb h).toNat := by
  have := hb_toNat h h1 h2
  unfold fb
  split at this
  · constructor
    · rw [if_pos (by omega)]; omega
    · omega
  · constructor
    · rw [if_neg (by omega)]; omega
    · omega
theorem hb_fb (x : By) (h : 128 ≤ x.toNat) : hb (fb x) = x := by
  have hx := x.isLt
  obtain ⟨h1, h2⟩ := fb_range x h
  have := hb_toNat (fb x) h1 h2
  apply BitVec.eq_of_toNat_eq
  have e : fb x = if (x.toNat : Int) - 128 > 63 then (x.toNat : Int) - 256 else (x.toNat : Int) - 128 := rfl
  generalize fb x = z at *
  split at this
  · split at e <;> omega
  · split at e <;> omega
/-- Does a field of k + 1 bytes have the number n? -/
def fits (n : Int) (k : Nat) : Bool := decide (-64 ≤ n / 256 ^ k ∧ n / 256 ^ k ≤ 63)
/-- The field. -/
def bfd (n : Int) (k : Nat) : List By := hb (n / 256 ^ k) :: bl n k
theorem bfd_length (n : Int) (k : Nat) : (bfd n k).length = k + 1 := by unfold bfd; rw [List.length_cons, bl_length]
theorem binV_bfd (n : Int) (k : Nat) (h : fits n k = true) : binV (bfd n k) = n ∧ (0 < k → isB (bfd n k) = true) := by
  obtain ⟨h1, h2⟩ := of_decide_eq_true h
  obtain ⟨a, b⟩ := fb_hb _ h1 h2
  constructor
  · show vb (fb (hb _)) (bl n k) = n
    rw [a, vb_bl]
    exact Int.ediv_mul_add_emod n (256 ^ k)
  · intro hk
    apply decide_eq_true
    rw [bfd_length]
    exact ⟨by omega, b⟩
theorem bfd_binV (x : By) (l : List By) (h : 128 ≤ x.toNat) : fits (binV (x :: l)) l.length = true ∧ bfd (binV (x :: l)) l.length = x :: l := by
  have e : binV (x :: l) = vb (fb x) l := rfl
  obtain ⟨h1, h2⟩ := fb_range x h
  rw [e]
  unfold fits bfd
  rw [(vb_div _ l).1, hb_fb x h, bl_vb]
  exact ⟨decide_eq_true ⟨h1, h2⟩, rfl⟩
end Go.Proofs.Ytoegbaenheeogaa

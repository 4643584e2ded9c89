import Derived.Test.YtoegbaenheeogaaLzB
namespace Go.Proofs.Ytoegbaenheeogaa
set_option linter.unusedVariables false
/-! ### Numbers in octal digits, as the document has them -/
/-- An octal digit. -/
def isD (x : By) : Bool := decide (48 ≤ x.toNat ∧ x.toNat ≤ 55)
def isBl (x : By) : Bool := decide (x = 32#8)
def isBz (x : By) : Bool := decide (x = 32#8 ∨ x = 0#8)
theorem isD_bz (x : By) (h : isD x = true) : isBz x = false := by
  unfold isD at h; unfold isBz
  have := of_decide_eq_true h
  apply decide_eq_false
  rintro (e | e)
  · rw [e] at this; exact absurd this (by decide)
  · rw [e] at this; exact absurd this (by decide)
/-- The number of a row of digits. -/
def v8 (n : Nat) (l : List By) : Nat := l.foldl (fun n x => 8 * n + (x.toNat - 48)) n
theorem v8_nil (n : Nat) : v8 n [] = n := rfl
theorem v8_cons (n : Nat) (x : By) (l : List By) : v8 n (x :: l) = v8 (8 * n + (x.toNat - 48)) l := by unfold v8; rw [List.foldl_cons]
theorem v8_app (n : Nat) (l m : List By) : v8 n (l ++ m) = v8 (v8 n l) m := by unfold v8; rw [List.foldl_append]
theorem v8_ge (n : Nat) (l : List By) : n ≤ v8 n l := by
  induction l generalizing n with
  | nil => exact Nat.le_refl _
  | cons x l ih => rw [v8_cons]; exact Nat.le_trans (by omega) (ih _)
@[irreducible] def mx : Nat := 9223372036854775807
/-- The digits, and what stands behind them. -/
def dgs (b : List By) : List By := (b.dropWhile isBl).takeWhile isD
def rst (b : List By) : List By := (b.dropWhile isBl).dropWhile isD
/-- Octal: the number and the error. -/
def octN (b : List By) : Nat := if (rst b).all isBz then (if v8 0 (dgs b) ≤ mx then v8 0 (dgs b) else 0) else 0
def octE (b : List By) : Nat := if (rst b).all isBz then (if v8 0 (dgs b) ≤ mx then 0 else 121) else 120
/-- What is left when blanks and zeros behind are taken off. -/
def trR (b : List By) : List By := (b.reverse.dropWhile isBz).reverse
theorem trR_all (r : List By) (h : r.all isBz = true) (l : List By) : trR (l ++ r) = trR l := by
  unfold trR
  rw [List.reverse_append]
  have : ∀ (r l : List By), (r.all isBz = true) → (r ++ l).dropWhile isBz = l.dropWhile isBz := by
    intro r l hr
    induction r with
    | nil => rfl
    | cons x r ih =>
      rw [List.all_cons, Bool.and_eq_true] at hr
      rw [List.cons_append, List.dropWhile_cons, if_pos hr.1, ih hr.2]
  rw [this]
  rw [List.all_reverse]; exact h
theorem trR_digits (l : List By) (h : l.all isD = true) : trR l = l := by
  unfold trR
  have : l.reverse.dropWhile isBz = l.reverse := by
    have hr : l.reverse.all isD = true := by rw [List.all_reverse]; exact h
    cases hq : l.reverse with
    | nil => rfl
    | cons x r =>
      rw [hq, List.all_cons, Bool.and_eq_true] at hr
      rw [List.dropWhile_cons, if_neg (by rw [isD_bz x hr.1]; decide)]
  rw [this, List.reverse_reverse]
/-- What is kept where something behind is no blank and no zero: all ahead of it. -/
theorem trR_keeps (l r : List By) (x : By) (h : (x :: r).all isBz = false) : ∃ m, trR (l ++ x :: r) = l ++ x :: m := by
  unfold trR
  have : ∀ (q l : List By), q.all isBz = false → ∃ m, (q ++ l).dropWhile isBz = m ++ l ∧ ∃ p, p ++ m = q ∧ m ≠ [] := by
    intro q l hq
    induction q with
    | nil => simp at hq
    | cons y q ih =>
      by_cases hy : isBz y = true
      · rw [List.all_cons, hy, Bool.true_and] at hq
        obtain ⟨m, e, p, e2, hm⟩ := ih hq
        refine ⟨m, ?_, y :: p, by rw [List.cons_append, e2], hm⟩
        rw [List.cons_append, List.dropWhile_cons, if_pos hy, e]
      · refine ⟨y :: q, ?_, [], rfl, by simp⟩
        rw [List.cons_append, List.dropWhile_cons, if_neg hy]
  rw [List.reverse_append]
  obtain ⟨m, e, p, e2, hm⟩ := this (x :: r).reverse l.reverse (by rw [List.all_reverse]; exact h)
  rw [e, List.reverse_append, List.reverse_reverse]
  -- m ends in x
  have hx : ∃ m', m = m' ++ [x] := by
    rw [List.reverse_cons] at e2
    rcases List.eq_nil_or_concat m with rfl | ⟨m', y, rfl⟩
    · exact absurd rfl hm
    · rw [List.concat_eq_append, ← List.append_assoc] at e2
      have := (List.append_inj' e2 rfl).2
      injection this with this
      subst this
      exact ⟨m', List.concat_eq_append⟩
  obtain ⟨m', rfl⟩ := hx
  exact ⟨m'.reverse, by rw [List.reverse_append]; rfl⟩
theorem dgs_rst (b : List By) : dgs b ++ rst b = b.dropWhile isBl := List.takeWhile_append_dropWhile
theorem dgs_all (b : List By) : (dgs b).all isD = true := by
  unfold dgs
  generalize b.dropWhile isBl = l
  induction l with
  | nil => rfl
  | cons x l ih =>
    rw [List.takeWhile_cons]
    split
    · rw [List.all_cons, ih, Bool.and_true]; assumption
    · rfl
theorem rst_head (b : List By) (x : By) (r : List By) (h : rst b = x :: r) : isD x = false := by
  unfold rst at h
  generalize b.dropWhile isBl = l at h
  induction l with
  | nil => simp at h
  | cons y l ih =>
    rw [List.dropWhile_cons] at h
    split at h
    · exact ih h
    · injection h with h1 h2
      subst h1
      simpa using ‹¬ isD y = true›
/-- The digits between blanks and zeros: they are the digits, if the field is one. -/
theorem trR_is (b : List By) (h : (rst b).all isBz = true) : trR (b.dropWhile isBl) = dgs b := by
  rw [← dgs_rst, trR_all _ h, trR_digits _ (dgs_all b)]
theorem trR_not (b : List By) (h : (rst b).all isBz = false) : (trR (b.dropWhile isBl)).all isD = false := by
  rw [← dgs_rst]
  cases hr : rst b with
  | nil => rw [hr] at h; simp at h
  | cons x r =>
    rw [hr] at h
    obtain ⟨m, e⟩ := trR_keeps (dgs b) r x h
    rw [e, List.all_append, List.all_cons, rst_head b x r hr]
    simp
/-! ### Numbers to the base 256 -/
/-- The number of bytes, the highest first, going on from n. -/
def vb (n : Int) (l : List By) : Int := l.foldl (fun n x => n * 256 + (x.toNat : Int)) n
theorem vb_cons (n : Int) (x : By) (l : List By) : vb n (x :: l) = vb (n * 256 + (x.toNat : Int)) l := by unfold vb; rw [List.foldl_cons]
theorem vb_app (n : Int) (l m : List By) : vb n (l ++ m) = vb (vb n l) m := by unfold vb; rw [List.foldl_append]
/-- It is n shifted, and the bytes' own number. -/
theorem vb_split (n : Int) (l : List By) : vb n l = n * 256 ^ l.length + vb 0 l := by
  induction l generalizing n with
  | nil => simp [vb]
  | cons x l ih =>
    rw [vb_cons, ih, vb_cons, ih (0 * 256 + (x.toNat : Int)), List.length_cons, Int.pow_succ, Int.add_mul, Int.zero_mul, Int.zero_add, Int.add_assoc, Int.mul_assoc, Int.mul_comm 256]
theorem vb_lo (l : List By) : 0 ≤ vb 0 l ∧ vb 0 l < 256 ^ l.length := by
  induction l with
  | nil => simp [vb]
  | cons x l ih =>
    have hx := x.isLt
    rw [vb_cons, vb_split, List.length_cons, Int.pow_succ]
    have h0 : (0 : Int) < 256 ^ l.length := Int.pow_pos (by omega)
    generalize (256 : Int) ^ l.length = M at *
    generalize vb 0 l = v at *
    have h1 : (0 * 256 + (x.toNat : Int)) * M = (x.toNat : Int) * M := by rw [Int.zero_mul, Int.zero_add]
    rw [h1]
    have h2 : (x.toNat : Int) * M ≤ 255 * M := Int.mul_le_mul_of_nonneg_right (by omega) (by omega)
    have h3 : 0 ≤ (x.toNat : Int) * M := Int.mul_nonneg (by omega) (by omega)
    constructor
    · omega
    · omega
/-- The first byte with its sign. -/
def fb (x : By) : Int := if (x.toNat : Int) - 128 > 63 then (x.toNat : Int) - 256 else (x.toNat : Int) - 128
/-- The number of a binary field. -/
def binV : List By → Int
  | [] => 0
  | x :: l => vb (fb x) l
def isB (b : List By) : Bool := decide (2 ≤ b.length ∧ 128 ≤ (b.headD 0).toNat)
def inI (n : Int) : Bool := decide (-9223372036854775808 ≤ n ∧ n ≤ 9223372036854775807)
def binN (b : List By) : Int := if isB b then (if inI (binV b) then binV b else 0) else 0
def binE (b : List By) : Nat := if isB b then (if inI (binV b) then 0 else 121) else 120
/-- Once out of the range, always. -/
theorem vb_out (n : Int) (l : List By) (h : inI n = false) : inI (vb n l) = false := by
  induction l generalizing n with
  | nil => exact h
  | cons x l ih =>
    rw [vb_cons]
    apply ih
    have hx := x.isLt
    unfold inI at h ⊢
    have := of_decide_eq_false h
    apply decide_eq_false
    omega
theorem fb_range (x : By) (h : 128 ≤ x.toNat) : -64 ≤ fb x ∧ fb x ≤ 63 := by
  have hx := x.isLt
  unfold fb
  split <;> omega
/-- What numbers fields of k + 1 bytes have. -/
theorem binV_range (x : By) (l : List By) (h : 128 ≤ x.toNat) : -64 * 256 ^ l.length ≤ binV (x :: l) ∧ binV (x :: l) < 64 * 256 ^ l.length := by
  obtain ⟨h1, h2⟩ := fb_range x h
  show _ ≤ vb (fb x) l ∧ vb (fb x) l < _
  rw [vb_split]
  obtain ⟨h3, h4⟩ := vb_lo l
  have h0 : (0 : Int) < 256 ^ l.length := Int.pow_pos (by omega)
  generalize (256 : Int) ^ l.length = M at *
  generalize vb 0 l = v at *
  have a1 : -64 * M ≤ fb x * M := Int.mul_le_mul_of_nonneg_right h1 (by omega)
  have a2 : fb x * M ≤ 63 * M := Int.mul_le_mul_of_nonneg_right h2 (by omega)
  omega
end Go.Proofs.Ytoegbaenheeogaa

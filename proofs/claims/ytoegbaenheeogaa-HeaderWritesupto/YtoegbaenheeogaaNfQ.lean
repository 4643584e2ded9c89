import Derived.Test.YtoegbaenheeogaaNfP
namespace Go.Proofs.Ytoegbaenheeogaa
open Go.RowKit
set_option linter.unusedVariables false
/-! ### There and back, pure -/
theorem pow_big (k : Nat) (h : 8 ≤ k) : (18446744073709551616 : Int) ≤ 256 ^ k := by
  have e : (256 : Int) ^ k = 256 ^ 8 * 256 ^ (k - 8) := by rw [← Int.pow_add]; congr 1; omega
  have h0 := pow_p (k - 8)
  rw [e, show (256 : Int) ^ 8 = 18446744073709551616 from rfl]
  have : (18446744073709551616 : Int) * 1 ≤ 18446744073709551616 * 256 ^ (k - 8) := Int.mul_le_mul_of_nonneg_left (by omega) (by omega)
  omega
theorem fits_wide (n : Int) (h1 : -9223372036854775808 ≤ n) (h2 : n ≤ 9223372036854775807) (k : Nat) (hk : 8 ≤ k) : fits n k = true := by
  have hp := pow_big k hk
  apply decide_eq_true
  generalize (256 : Int) ^ k = M at *
  by_cases h : 0 ≤ n
  · rw [Int.ediv_eq_zero_of_lt h (by omega)]; omega
  · have : n / M = -1 := by
      have e : n = (n + M) + M * (-1) := by omega
      rw [e, Int.add_mul_ediv_left _ _ (by omega), Int.ediv_eq_zero_of_lt (by omega) (by omega)]; rfl
    rw [this]; decide
theorem pn_wide (n d : Int) (h1 : -9223372036854775808 ≤ n) (h2 : n ≤ 9223372036854775807) (hd : 9 ≤ d) (hd2 : d ≤ 512) : pnE n d = 0 := by
  unfold pnE
  split
  · rfl
  · unfold pbE
    rw [if_pos (by omega), fits_wide n h1 h2 _ (by omega)]; rfl
theorem head_app (l m : List By) (h : l ≠ []) : (l ++ m).headD 0 = l.headD 0 := by
  cases l with
  | nil => exact absurd rfl h
  | cons x l => rfl
theorem isD_128 (x : By) (h : isD x = true) : x.toNat < 128 := by
  have := of_decide_eq_true h
  omega
theorem ol_ne (N k : Nat) (h : 0 < k) : ol N k ≠ [] := by
  intro e
  have := ol_length N k
  rw [e] at this; simp at this; omega
theorem po_ok (n d : Int) (h : poE n d = 0) : 2 ≤ d ∧ d ≤ 512 ∧ 0 ≤ n ∧ n.toNat / 8 ^ (d.toNat - 1) = 0 := by
  unfold poE at h
  split at h
  · split at h
    · cases h
    · split at h
      · exact ⟨by omega, by omega, by omega, by assumption⟩
      · cases h
  · cases h
theorem pb_ok (n d : Int) (h : pbE n d = 0) : 2 ≤ d ∧ d ≤ 512 ∧ fits n (d.toNat - 1) = true := by
  unfold pbE at h
  split at h
  · split at h
    · exact ⟨by omega, by omega, by assumption⟩
    · cases h
  · cases h
theorem poL_length (n d : Int) (h : 2 ≤ d) : ((poL n d).length : Int) = d := by
  unfold poL
  rw [List.length_append, ol_length, List.length_singleton]; omega
theorem pbL_length (n d : Int) (h : 2 ≤ d) : ((pbL n d).length : Int) = d := by
  unfold pbL
  rw [bfd_length]; omega
theorem poL_head (n d : Int) (h : 2 ≤ d) : ((poL n d).headD 0).toNat < 128 := by
  unfold poL
  rw [head_app _ _ (ol_ne _ _ (by omega))]
  obtain ⟨j, hj⟩ : ∃ j, d.toNat - 1 = j + 1 := ⟨d.toNat - 2, by omega⟩
  rw [hj, ol]
  exact isD_128 _ (dg_isD _)
theorem poL_oct (n d : Int) (h2 : n ≤ 9223372036854775807) (h : poE n d = 0) : octV (poL n d) = .tuple #[.int .i64 n, .int .i64 0] := by
  obtain ⟨a, b, c, e⟩ := po_ok n d h
  obtain ⟨q1, q2⟩ := oct_ol n.toNat (d.toNat - 1) e (by rw [mx_eq]; omega) (by omega)
  have := octV_of (poL n d) n.toNat 0 q1 q2
  have e : ((n.toNat : Nat) : Int) = n := by omega
  rw [this, e]
  rfl
theorem pnL_num (n d : Int) (h1 : -9223372036854775808 ≤ n) (h2 : n ≤ 9223372036854775807) (h : pnE n d = 0) : numA (pnL n d) = .tuple #[.int .i64 n, .int .i64 0] ∧ ((pnL n d).length : Int) = d ∧ 2 ≤ d := by
  unfold pnE at h
  unfold pnL
  split at h
  · rename_i h0
    obtain ⟨a, b, c, e⟩ := po_ok n d h0
    rw [if_pos h0]
    refine ⟨?_, poL_length n d a, a⟩
    unfold numA
    rw [if_neg (by have := poL_head n d a; omega)]
    exact poL_oct n d h2 h0
  · rename_i h0
    obtain ⟨a, b, c⟩ := pb_ok n d h
    rw [if_neg h0]
    refine ⟨?_, pbL_length n d a, a⟩
    obtain ⟨q1, q2⟩ := binV_bfd n (d.toNat - 1) c
    have hB := q2 (by omega)
    have hh := (of_decide_eq_true hB).2
    unfold numA pbL
    rw [if_pos hh, binA_ok _ hB (by rw [q1, inI_iff]; exact ⟨h1, h2⟩), q1]
/-- In twelve bytes: octal just where it fits. -/
theorem pnL_twelve (n : Int) (h1 : -9223372036854775808 ≤ n) (h2 : n ≤ 9223372036854775807) : decide (((pnL n 12).headD 0).toNat < 128) = decide (0 ≤ n ∧ n < 8589934592) := by
  have h8 : (8 : Nat) ^ 11 = 8589934592 := by decide
  apply decide_eq_decide.2
  unfold pnL
  by_cases h0 : poE n 12 = 0
  · obtain ⟨a, b, c, e⟩ := po_ok n 12 h0
    rw [if_pos h0]
    have e2 : n.toNat < 8 ^ 11 := (Nat.div_eq_zero_iff_lt (by decide)).1 e
    exact ⟨fun _ => ⟨c, by omega⟩, fun _ => poL_head n 12 (by decide)⟩
  · rw [if_neg h0]
    have hE := pn_wide n 12 h1 h2 (by decide) (by decide)
    unfold pnE at hE
    rw [if_neg h0] at hE
    obtain ⟨a, b, c⟩ := pb_ok n 12 hE
    obtain ⟨q1, q2⟩ := binV_bfd n ((12 : Int).toNat - 1) c
    have hh := (of_decide_eq_true (q2 (by decide))).2
    constructor
    · intro h; unfold pbL at h; omega
    · rintro ⟨c1, c2⟩
      exfalso
      apply h0
      unfold poE
      rw [if_pos (by decide), if_neg (by omega), if_pos]
      apply (Nat.div_eq_zero_iff_lt (by decide)).2
      have : (8 : Nat) ^ ((12 : Int).toNat - 1) = 8589934592 := by decide
      omega
theorem bys_u8 (s : ByteArray) : (bys' s).map u8 = s.data.toList := by
  unfold bys'
  rw [List.map_map]
  have : (u8 ∘ fun u : UInt8 => BitVec.ofNat 8 u.toNat) = id := by funext u; exact u8_of u
  rw [this, List.map_id]
theorem txt_all (l : List By) : (txt l).all nz = true := by
  unfold txt
  induction l with
  | nil => rfl
  | cons x l ih =>
    rw [List.takeWhile_cons]
    split
    · rw [List.all_cons, ih, Bool.and_true]; assumption
    · rfl
theorem noZ_txt (s : ByteArray) (h : noZ s = true) : txt (bys' s) = bys' s := by
  have h' := of_decide_eq_true h
  rcases ixz_txt (bys' s) with ⟨_, e⟩ | ⟨k, e, _, _⟩
  · exact e
  · unfold ixz at e
    rw [bys_u8] at e
    omega
theorem px_ok (s : ByteArray) (d : Int) (h : pxE s d = 0) : str (txt (pxL s d)) = s ∧ ((pxL s d).length : Int) = d := by
  unfold pxE at h
  split at h
  · rename_i hc
    split at h
    · rename_i hs
      have ht := noZ_txt s hc.2.2
      have ha := txt_all (bys' s)
      rw [ht] at ha
      constructor
      · unfold pxL txt
        rw [(tw_all (bys' s) _ nz ha (fun x hx => by
          cases hm : d.toNat - s.size with
          | zero => rw [hm] at hx; cases hx
          | succ m => rw [hm] at hx; injection hx with hx; rw [← hx]; decide)).1]
        exact str_bys s
      · unfold pxL
        rw [List.length_append, bys_len, List.length_replicate]; omega
    · cases h
  · cases h
end Go.Proofs.Ytoegbaenheeogaa

import Derived.Test.YtffhpoilifgcdaaDoorXxZ
import Derived.Lib.ItoaNum
namespace Go.Proofs.YtffhpoilifgcdaaDoor
open Go.RowKit
set_option linter.unusedVariables false
/-! ### Decimal digits -/
def dgt (n : Nat) : List By := if h : n < 10 then [BitVec.ofNat 8 (48 + n)] else dgt (n / 10) ++ [BitVec.ofNat 8 (48 + n % 10)]
termination_by n
decreasing_by omega
theorem dgt_small {n : Nat} (h : n < 10) : dgt n = [BitVec.ofNat 8 (48 + n)] := by rw [dgt, dif_pos h]
theorem dgt_big {n : Nat} (h : ¬ n < 10) : dgt n = dgt (n / 10) ++ [BitVec.ofNat 8 (48 + n % 10)] := by rw [dgt, dif_neg h]
theorem u8_ofN (n : Nat) (h : n < 256) : u8 (BitVec.ofNat 8 n) = UInt8.ofNat n := by
  unfold u8
  rw [BitVec.toNat_ofNat, Nat.mod_eq_of_lt h]
theorem dgt_lib (n : Nat) : Lib.decDigits n = (dgt n).map u8 := by
  induction n using Nat.strongRecOn with
  | _ n ih =>
    by_cases h : n < 10
    · rw [Lib.decDigits, dif_pos h, dgt_small h, List.map_cons, List.map_nil, u8_ofN _ (by omega)]
    · rw [Lib.decDigits, dif_neg h, dgt_big h, List.map_append, ih (n / 10) (by omega), List.map_cons, List.map_nil, u8_ofN _ (by omega)]
theorem dgt_len (n : Nat) : (dgt n).length = Lib.nDigits n := by
  induction n using Nat.strongRecOn with
  | _ n ih =>
    by_cases h : n < 10
    · rw [dgt_small h, Lib.nDigits_small h]; rfl
    · rw [dgt_big h, Lib.nDigits_big h, List.length_append, ih (n / 10) (by omega)]; rfl
/-- A digit. -/
def isDg (c : By) : Prop := 48 ≤ c.toNat ∧ c.toNat ≤ 57
theorem isDg_of (d : Nat) (h : d < 10) : isDg (BitVec.ofNat 8 (48 + d)) ∧ (BitVec.ofNat 8 (48 + d)).toNat = 48 + d := by
  unfold isDg
  rw [BitVec.toNat_ofNat, Nat.mod_eq_of_lt (by omega)]
  omega
theorem dgt_digits (n : Nat) : ∀ c ∈ dgt n, isDg c := by
  induction n using Nat.strongRecOn with
  | _ n ih =>
    by_cases h : n < 10
    · rw [dgt_small h]
      intro c hc
      rw [List.mem_singleton] at hc
      subst hc
      exact (isDg_of n h).1
    · rw [dgt_big h]
      intro c hc
      rw [List.mem_append, List.mem_singleton] at hc
      rcases hc with hc | rfl
      · exact ih (n / 10) (by omega) c hc
      · exact (isDg_of (n % 10) (by omega)).1
/-- What digits spell. -/
def vlu (n : Nat) (l : List By) : Nat := l.foldl (fun a c => a * 10 + (c.toNat - 48)) n
theorem vlu_app (n : Nat) (l m : List By) : vlu n (l ++ m) = vlu (vlu n l) m := by simp [vlu]
theorem dgt_val (n : Nat) : vlu 0 (dgt n) = n := by
  induction n using Nat.strongRecOn with
  | _ n ih =>
    by_cases h : n < 10
    · rw [dgt_small h]
      simp only [vlu, List.foldl_cons, List.foldl_nil, (isDg_of n h).2]
      omega
    · rw [dgt_big h, vlu_app, ih (n / 10) (by omega)]
      simp only [vlu, List.foldl_cons, List.foldl_nil, (isDg_of (n % 10) (by omega)).2]
      omega
theorem dgt_head (n : Nat) (h : 0 < n) : ∃ c r, dgt n = c :: r ∧ c ≠ 48#8 := by
  induction n using Nat.strongRecOn with
  | _ n ih =>
    by_cases hn : n < 10
    · refine ⟨_, [], dgt_small hn, ?_⟩
      intro e
      have := (isDg_of n hn).2
      rw [e] at this
      have e2 : (48#8 : By).toNat = 48 := rfl
      omega
    · obtain ⟨c, r, h1, h2⟩ := ih (n / 10) (by omega) (by omega)
      exact ⟨c, r ++ [BitVec.ofNat 8 (48 + n % 10)], by rw [dgt_big hn, h1]; rfl, h2⟩
theorem vlu_lt (l : List By) (h : ∀ c ∈ l, isDg c) (n k : Nat) (hn : n < 10 ^ k) : vlu n l < 10 ^ (k + l.length) := by
  induction l generalizing n k with
  | nil => simpa [vlu] using hn
  | cons c r ih =>
    have hc := h c (by simp)
    unfold isDg at hc
    have hp : 10 ^ (k + 1) = 10 * 10 ^ k := by rw [Nat.pow_succ, Nat.mul_comm]
    have := ih (fun x hx => h x (by simp [hx])) (n * 10 + (c.toNat - 48)) (k + 1) (by omega)
    simp only [vlu, List.foldl_cons] at this ⊢
    rw [List.length_cons, show k + (r.length + 1) = k + 1 + r.length by omega]
    exact this
/-- Digits without zeros ahead are a number's own. -/
theorem dgt_uniq (l : List By) (hd : ∀ c ∈ l, isDg c) (hz : ∀ c t, l = c :: t → c ≠ 48#8) (hl : l ≠ []) : l = dgt (vlu 0 l) := by
  obtain ⟨n, hn⟩ : ∃ n, n = l.length := ⟨_, rfl⟩
  induction n generalizing l with
  | zero => exact absurd (List.length_eq_zero_iff.1 hn.symm) hl
  | succ n ih =>
    obtain ⟨m, c, rfl⟩ : ∃ m c, l = m ++ [c] := ⟨l.dropLast, l.getLast hl, (List.dropLast_concat_getLast hl).symm⟩
    have hc := hd c (by simp)
    unfold isDg at hc
    have hcn : BitVec.ofNat 8 (48 + (c.toNat - 48)) = c := by
      apply BitVec.eq_of_toNat_eq
      rw [BitVec.toNat_ofNat, Nat.mod_eq_of_lt (by omega)]
      omega
    rw [vlu_app]
    have hv : vlu (vlu 0 m) [c] = vlu 0 m * 10 + (c.toNat - 48) := rfl
    rw [hv]
    by_cases hm : m = []
    · subst hm
      have : vlu 0 ([] : List By) = 0 := rfl
      rw [this, dgt_small (by omega), Nat.zero_mul, Nat.zero_add, hcn]
      rfl
    · have e := ih m (fun x hx => hd x (by simp [hx])) (fun x t ht => hz x (t ++ [c]) (by rw [ht]; rfl)) hm (by simp at hn; exact hn)
      have hpos : 0 < vlu 0 m := by
        rcases Nat.eq_zero_or_pos (vlu 0 m) with h0 | h0
        · rw [h0, dgt_small (by decide)] at e
          exact absurd rfl (hz _ [c] (by rw [e]; rfl))
        · exact h0
      rw [dgt_big (by omega)]
      have e1 : (vlu 0 m * 10 + (c.toNat - 48)) / 10 = vlu 0 m := by omega
      have e2 : (vlu 0 m * 10 + (c.toNat - 48)) % 10 = c.toNat - 48 := by omega
      rw [e1, e2, ← e, hcn]
end Go.Proofs.YtffhpoilifgcdaaDoor

import Derived.Test.YtenkchhlaphocaaGreatDoorNjB
import Derived.Lib.ParseIntB
namespace Go.Proofs.YtenkchhlaphocaaGreatDoor
open Go.RowKit
set_option linter.unusedVariables false
/-! ### Numbers and times, as functions -/
instance (c : By) : Decidable (isD c) := inferInstanceAs (Decidable (_ ∧ _))
def allD (l : Bs) : Bool := decide (∀ c ∈ l, isD c)
theorem allD_iff (l : Bs) : allD l = true ↔ ∀ c ∈ l, isD c := by unfold allD; exact decide_eq_true_iff
theorem allD_cons (c : By) (l : Bs) : allD (c :: l) = (decide (isD c) && allD l) := by
  unfold allD
  by_cases h1 : isD c <;> by_cases h2 : ∀ x ∈ l, isD x <;> simp [h1, h2]
def numV (s : Bs) : Nat × Nat := if s = [] ∨ allD s = false then (0, 120) else if 9223372036854775808 ≤ val 0 s then (0, 121) else (val 0 s, 0)
theorem numV_lt (s : Bs) : (numV s).1 < 9223372036854775808 := by
  unfold numV
  split
  · exact (by decide : (0 : Nat) < 9223372036854775808)
  · split
    · exact (by decide : (0 : Nat) < 9223372036854775808)
    · show val 0 s < _
      omega
theorem val_ge (l : Bs) (n : Nat) : n ≤ val n l := by
  induction l generalizing n with
  | nil => exact Nat.le_refl _
  | cons c r ih =>
    have := ih (n * 10 + (c.toNat - 48))
    simp only [val, List.foldl_cons] at this ⊢
    omega
theorem puM (l : Bs) (hd : ∀ c ∈ l, isD c) (n : Nat) : Lib.parseUintM (2 ^ 64 - 1) n (l.map u8) = if val n l < 18446744073709551616 then .ok (val n l) else if l = [] then .ok n else .range := by
  induction l generalizing n with
  | nil => simp [Lib.parseUintM, val]
  | cons c r ih =>
    have hc := hd c (by simp)
    unfold isD at hc
    rw [List.map_cons, Lib.parseUintM, u8_nat, if_pos ⟨hc.1, hc.2⟩]
    have hge := val_ge r (n * 10 + (c.toNat - 48))
    have hv : val n (c :: r) = val (n * 10 + (c.toNat - 48)) r := rfl
    rw [hv, if_neg (by simp : ¬ (c :: r) = [])]
    by_cases h1 : 1844674407370955162 ≤ n
    · rw [if_pos h1, if_neg (by omega)]
    · rw [if_neg h1]
      by_cases h2 : 2 ^ 64 - 1 < n * 10 + (c.toNat - 48)
      · rw [if_pos h2, if_neg (by omega)]
      · rw [if_neg h2, ih (fun x hx => hd x (by simp [hx]))]
        by_cases h3 : val (n * 10 + (c.toNat - 48)) r < 18446744073709551616
        · rw [if_pos h3, if_pos h3]
        · rw [if_neg h3, if_neg h3]
          by_cases hr : r = []
          · subst hr
            exfalso
            apply h3
            show n * 10 + (c.toNat - 48) < _
            omega
          · rw [if_neg hr]
theorem piB (l : Bs) (hd : ∀ c ∈ l, isD c) (hl : l ≠ []) : Lib.parseIntB 64 (l.map u8) = if 9223372036854775808 ≤ val 0 l then .range else .ok (val 0 l : Nat) := by
  cases l with
  | nil => exact absurd rfl hl
  | cons c r =>
    have hc := hd c (by simp)
    unfold isD at hc
    have hm := puM (c :: r) hd 0
    rw [List.map_cons] at hm ⊢
    unfold Lib.parseIntB
    simp only [u8_nat]
    rw [if_neg (by omega)]
    have hu : Lib.parseUintB 64 (u8 c :: r.map u8) = Lib.parseUintM (2 ^ 64 - 1) 0 (u8 c :: r.map u8) := by
      unfold Lib.parseUintB; rw [if_neg (by simp)]
    rw [hu, hm]
    by_cases h3 : val 0 (c :: r) < 18446744073709551616
    · rw [if_pos h3]
      simp only
      by_cases h4 : 9223372036854775808 ≤ val 0 (c :: r)
      · rw [if_pos h4, if_pos ⟨by omega, by omega⟩]
      · rw [if_neg h4, if_neg (fun h => by have := h.2; omega), if_neg (fun h => by have := h.1; omega), if_neg (by omega)]
    · rw [if_neg h3, if_neg (by simp), if_pos (by omega)]
/-- Cut at the first dot: ahead of it, behind it. -/
def cutD : Bs → Pr
  | [] => ([], [])
  | c :: r => if c = 46#8 then ([], r) else (c :: (cutD r).1, (cutD r).2)
def nanoV (re : Bs) : Nat := val 0 ((re ++ List.replicate 9 48#8).take 9)
def minusV (s : Bs) : Bool := decide (s.head? = some 45#8)
def restV (s : Bs) : Bs := if minusV s = true then s.tail else s
def timV (s : Bs) : Int × Nat × Nat :=
  if allD (cutD (restV s)).2 = false then (0, 0, 120)
  else if (numV (cutD (restV s)).1).2 ≠ 0 then (0, 0, (numV (cutD (restV s)).1).2)
  else if minusV s = false then ((numV (cutD (restV s)).1).1, nanoV (cutD (restV s)).2, 0)
  else if nanoV (cutD (restV s)).2 = 0 then (-((numV (cutD (restV s)).1).1 : Int), 0, 0)
  else (-((numV (cutD (restV s)).1).1 : Int) - 1, 1000000000 - nanoV (cutD (restV s)).2, 0)
/-- The digits behind the dot. -/
def trimZ : Bs → Bs
  | [] => []
  | c :: r => if trimZ r = [] ∧ c = 48#8 then [] else c :: trimZ r
def dotV (n : Nat) : Bs := if n = 0 then [] else 46#8 :: trimZ ((dec (1000000000 + n)).drop 1)
def putV (s : Int) (n : Int) : Bs × Nat :=
  if n < 0 ∨ 1000000000 ≤ n then ([], 1)
  else if 0 ≤ s then (dec s.toNat ++ dotV n.toNat, 0)
  else if 0 < n then (45#8 :: (dec (s.natAbs - 1) ++ dotV (1000000000 - n.toNat)), 0)
  else (45#8 :: dec s.natAbs, 0)
theorem cutD_dig (l : Bs) (h : ∀ c ∈ l, isD c) (r : Bs) : cutD (l ++ 46#8 :: r) = (l, r) ∧ cutD l = (l, []) := by
  induction l with
  | nil => simp [cutD]
  | cons c t ih =>
    have hc := h c (by simp)
    have hn : c ≠ 46#8 := by
      intro e
      rw [e] at hc
      revert hc
      decide
    obtain ⟨e1, e2⟩ := ih (fun x hx => h x (by simp [hx]))
    rw [List.cons_append, cutD, cutD, if_neg hn, if_neg hn, e1, e2]
    exact ⟨rfl, rfl⟩
theorem trimZ_pad (l : Bs) : ∃ k, l = trimZ l ++ List.replicate k 48#8 := by
  induction l with
  | nil => exact ⟨0, rfl⟩
  | cons c r ih =>
    obtain ⟨k, hk⟩ := ih
    rw [trimZ]
    split
    · rename_i h
      refine ⟨k + 1, ?_⟩
      rw [h.1] at hk
      rw [hk, h.2]
      rfl
    · refine ⟨k, ?_⟩
      conv => lhs; rw [hk]
      rfl
theorem trimZ_mem (l : Bs) : ∀ c ∈ trimZ l, c ∈ l := by
  obtain ⟨k, hk⟩ := trimZ_pad l
  intro c hc
  rw [hk]
  exact List.mem_append_left _ hc
theorem dec9 (n : Nat) (h : n < 1000000000) : ((dec (1000000000 + n)).drop 1).length = 9 ∧ val 0 ((dec (1000000000 + n)).drop 1) = n ∧ dec (1000000000 + n) = 49#8 :: (dec (1000000000 + n)).drop 1 ∧ ∀ c ∈ (dec (1000000000 + n)).drop 1, isD c := by
  have hl : (dec (1000000000 + n)).length = 10 := by
    rw [dec_len]
    exact Lib.nDigits_unique 9 _ (by omega) (by omega)
  have hv := dec_val (1000000000 + n)
  have hd := dec_digits (1000000000 + n)
  cases hq : dec (1000000000 + n) with
  | nil => rw [hq] at hl; cases hl
  | cons c r =>
    rw [hq] at hl hv hd
    have hl2 : r.length = 9 := by simpa using hl
    have hc := hd c (by simp)
    have hdr : ∀ x ∈ r, isD x := fun x hx => hd x (by simp [hx])
    have hlin : ∀ (l : Bs) (a : Nat), val a l = a * 10 ^ l.length + val 0 l := by
      intro l
      induction l with
      | nil => intro a; simp [val]
      | cons x t ih =>
        intro a
        have e1 : val a (x :: t) = val (a * 10 + (x.toNat - 48)) t := rfl
        have e2 : val 0 (x :: t) = val (0 * 10 + (x.toNat - 48)) t := rfl
        rw [e1, e2, ih, ih (0 * 10 + (x.toNat - 48)), List.length_cons, Nat.pow_succ]
        rw [Nat.zero_mul, Nat.zero_add, Nat.add_mul, Nat.mul_assoc, Nat.mul_comm 10, Nat.add_assoc]
    have e1 : val 0 (c :: r) = val (c.toNat - 48) r := by
      have : val 0 (c :: r) = val (0 * 10 + (c.toNat - 48)) r := rfl
      rw [this, Nat.zero_mul, Nat.zero_add]
    rw [e1, hlin r, hl2] at hv
    have hlt := val_lt r hdr 0 0 (by decide)
    rw [Nat.zero_add, hl2] at hlt
    unfold isD at hc
    have h1 : c.toNat - 48 = 1 := by omega
    have hc1 : c = 49#8 := by
      apply BitVec.eq_of_toNat_eq
      have : (49#8 : By).toNat = 49 := rfl
      omega
    refine ⟨hl2, ?_, by rw [hc1]; rfl, hdr⟩
    show val 0 r = n
    omega
theorem nano_trim (l : Bs) (h : l.length = 9) : nanoV (trimZ l) = val 0 l := by
  obtain ⟨k, hk⟩ := trimZ_pad l
  have hl := congrArg List.length hk
  rw [List.length_append, List.length_replicate, h] at hl
  unfold nanoV
  congr 1
  have e : (trimZ l ++ List.replicate 9 48#8) = l ++ List.replicate (9 - k) 48#8 := by
    conv => rhs; rw [hk]
    rw [List.append_assoc, List.replicate_append_replicate, show k + (9 - k) = 9 by omega]
  rw [e]
  exact List.take_left' h
theorem nanoV_lt (re : Bs) (h : ∀ c ∈ re, isD c) : nanoV re < 1000000000 := by
  unfold nanoV
  have := val_lt ((re ++ List.replicate 9 48#8).take 9) (fun c hc => by
    have hc := List.mem_of_mem_take hc
    rw [List.mem_append] at hc
    rcases hc with hc | hc
    · exact h c hc
    · rw [List.mem_replicate] at hc
      rw [hc.2]; decide) 0 0 (by decide)
  rw [Nat.zero_add, List.length_take, List.length_append, List.length_replicate, Nat.min_eq_left (by omega)] at this
  exact this
theorem dec_ne (n : Nat) : dec n ≠ [] := by
  intro e
  have := dec_len n
  rw [e] at this
  have h2 := Lib.nDigits_pos n
  simp at this
  omega
theorem numV_dec (n : Nat) (h : n < 9223372036854775808) : numV (dec n) = (n, 0) := by
  unfold numV
  rw [if_neg (by
    rintro (h | h)
    · exact dec_ne n h
    · rw [(allD_iff _).2 (dec_digits n)] at h; cases h), dec_val, if_neg (by omega)]
theorem dotV_back (n : Nat) (h : n < 1000000000) (m : Nat) : cutD (dec m ++ dotV n) = (dec m, (dotV n).tail) ∧ allD (dotV n).tail = true ∧ nanoV (dotV n).tail = n := by
  unfold dotV
  by_cases h0 : n = 0
  · subst h0
    rw [if_pos rfl, List.append_nil, (cutD_dig (dec m) (dec_digits m) []).2]
    refine ⟨rfl, rfl, rfl⟩
  · rw [if_neg h0, (cutD_dig (dec m) (dec_digits m) _).1]
    obtain ⟨d1, d2, d3, d4⟩ := dec9 n h
    refine ⟨rfl, (allD_iff _).2 (fun c hc => d4 c (trimZ_mem _ c hc)), ?_⟩
    show nanoV (trimZ _) = n
    rw [nano_trim _ d1, d2]
theorem dec_no_minus (m : Nat) (r : Bs) : minusV (dec m ++ r) = false := by
  cases hq : dec m with
  | nil => exact absurd hq (dec_ne m)
  | cons c t =>
    have := dec_digits m c (by rw [hq]; simp)
    unfold minusV
    rw [List.cons_append]
    simp only [List.head?_cons, Option.some.injEq, decide_eq_false_iff_not]
    intro e
    rw [e] at this
    revert this
    decide
/-- A time that was put is read back. -/
theorem time_back (s n : Int) (hs : -9223372036854775808 ≤ s) (hs2 : s < 9223372036854775808) (hn : 0 ≤ n) (hn2 : n < 1000000000) (hx : -9223372036854775808 < s ∨ 0 < n) : timV (putV s n).1 = (s, n.toNat, 0) := by
  unfold putV
  rw [if_neg (by omega)]
  by_cases h0 : 0 ≤ s
  · rw [if_pos h0]
    simp only
    have hm := dec_no_minus s.toNat (dotV n.toNat)
    have hr : restV (dec s.toNat ++ dotV n.toNat) = dec s.toNat ++ dotV n.toNat := by unfold restV; rw [hm]; rfl
    obtain ⟨c1, c2, c3⟩ := dotV_back n.toNat (by omega) s.toNat
    unfold timV
    rw [hr, c1]
    simp only
    rw [c2, numV_dec _ (by omega), c3, hm, if_neg (by decide), if_neg (by simp), if_pos rfl]
    simp only [Prod.mk.injEq, and_true]
    omega
  · rw [if_neg h0]
    have hrest : ∀ r : Bs, minusV (45#8 :: r) = true ∧ restV (45#8 :: r) = r := fun r => by
      have : minusV (45#8 :: r) = true := by unfold minusV; simp
      exact ⟨this, by unfold restV; rw [this]; rfl⟩
    by_cases h1 : 0 < n
    · rw [if_pos h1]
      simp only
      obtain ⟨m1, m2⟩ := hrest (dec (s.natAbs - 1) ++ dotV (1000000000 - n.toNat))
      obtain ⟨c1, c2, c3⟩ := dotV_back (1000000000 - n.toNat) (by omega) (s.natAbs - 1)
      unfold timV
      rw [m2, c1]
      simp only
      rw [c2, numV_dec _ (by omega), c3, m1, if_neg (by decide), if_neg (by simp), if_neg (by decide), if_neg (by omega)]
      simp only [Prod.mk.injEq, and_true]
      omega
    · rw [if_neg h1]
      simp only
      obtain ⟨m1, m2⟩ := hrest (dec s.natAbs)
      have c1 := (cutD_dig (dec s.natAbs) (dec_digits _) []).2
      unfold timV
      rw [m2, c1]
      simp only
      rw [numV_dec _ (by omega), m1, if_neg (by decide), if_neg (by simp), if_neg (by decide), if_pos (by decide)]
      simp only [Prod.mk.injEq, and_true]
      omega
/-- A time that was read, in bounds. -/
theorem timV_ok (s : Bs) : (timV s).1 ≤ 9223372036854775807 ∧ -9223372036854775808 ≤ (timV s).1 ∧ (timV s).2.1 < 1000000000 ∧ ((timV s).2.2 ≠ 0 → (timV s).1 = 0 ∧ (timV s).2.1 = 0) ∧ ((timV s).1 = -9223372036854775808 → 0 < (timV s).2.1) := by
  have hn := numV_lt (cutD (restV s)).1
  unfold timV
  split
  · simp
  · rename_i h1
    have hd : ∀ c ∈ (cutD (restV s)).2, isD c := (allD_iff _).1 (by
      cases hq : allD (cutD (restV s)).2 with
      | true => rfl
      | false => exact absurd hq h1)
    have hnl := nanoV_lt _ hd
    split
    · simp
    · split
      · refine ⟨by simp only; omega, by simp only; omega, hnl, fun h => absurd rfl h, fun h => ?_⟩
        simp only at h
        omega
      · split
        · refine ⟨by simp only; omega, by simp only; omega, by simp, fun h => absurd rfl h, fun h => ?_⟩
          simp only at h
          omega
        · rename_i h4
          refine ⟨by simp only; omega, by simp only; omega, by simp only; omega, fun h => absurd rfl h, fun h => ?_⟩
          simp only
          omega
end Go.Proofs.YtenkchhlaphocaaGreatDoor

import Derived.Test.YtenkchhlaphocaaGreatDoorNjA
import Derived.Lib.ItoaNum
namespace Go.Proofs.YtenkchhlaphocaaGreatDoor
open Go.RowKit
set_option linter.unusedVariables false
/-! ### Numbers in decimal digits; records printed -/
def dec (n : Nat) : Bs := if h : n < 10 then [BitVec.ofNat 8 (48 + n)] else dec (n / 10) ++ [BitVec.ofNat 8 (48 + n % 10)]
termination_by n
decreasing_by omega
theorem dec_small {n : Nat} (h : n < 10) : dec n = [BitVec.ofNat 8 (48 + n)] := by rw [dec, dif_pos h]
theorem dec_big {n : Nat} (h : ¬ n < 10) : dec n = dec (n / 10) ++ [BitVec.ofNat 8 (48 + n % 10)] := by rw [dec, dif_neg h]
theorem u8_ofNat (n : Nat) (h : n < 256) : u8 (BitVec.ofNat 8 n) = UInt8.ofNat n := by
  unfold u8
  rw [BitVec.toNat_ofNat, Nat.mod_eq_of_lt h]
theorem dec_lib (n : Nat) : Lib.decDigits n = (dec n).map u8 := by
  induction n using Nat.strongRecOn with
  | _ n ih =>
    by_cases h : n < 10
    · rw [Lib.decDigits, dif_pos h, dec_small h, List.map_cons, List.map_nil, u8_ofNat _ (by omega)]
    · rw [Lib.decDigits, dif_neg h, dec_big h, List.map_append, ih (n / 10) (by omega), List.map_cons, List.map_nil, u8_ofNat _ (by omega)]
theorem dec_len (n : Nat) : (dec n).length = Lib.nDigits n := by
  induction n using Nat.strongRecOn with
  | _ n ih =>
    by_cases h : n < 10
    · rw [dec_small h, Lib.nDigits_small h]; rfl
    · rw [dec_big h, Lib.nDigits_big h, List.length_append, ih (n / 10) (by omega)]; rfl
/-- A digit. -/
def isD (c : By) : Prop := 48 ≤ c.toNat ∧ c.toNat ≤ 57
theorem isD_of (d : Nat) (h : d < 10) : isD (BitVec.ofNat 8 (48 + d)) ∧ (BitVec.ofNat 8 (48 + d)).toNat = 48 + d := by
  unfold isD
  rw [BitVec.toNat_ofNat, Nat.mod_eq_of_lt (by omega)]
  omega
theorem dec_digits (n : Nat) : ∀ c ∈ dec n, isD c := by
  induction n using Nat.strongRecOn with
  | _ n ih =>
    by_cases h : n < 10
    · rw [dec_small h]
      intro c hc
      rw [List.mem_singleton] at hc
      subst hc
      exact (isD_of n h).1
    · rw [dec_big h]
      intro c hc
      rw [List.mem_append, List.mem_singleton] at hc
      rcases hc with hc | rfl
      · exact ih (n / 10) (by omega) c hc
      · exact (isD_of (n % 10) (by omega)).1
/-- What digits spell. -/
def val (n : Nat) (l : Bs) : Nat := l.foldl (fun a c => a * 10 + (c.toNat - 48)) n
theorem val_app (n : Nat) (l m : Bs) : val n (l ++ m) = val (val n l) m := by simp [val]
theorem dec_val (n : Nat) : val 0 (dec n) = n := by
  induction n using Nat.strongRecOn with
  | _ n ih =>
    by_cases h : n < 10
    · rw [dec_small h]
      simp only [val, List.foldl_cons, List.foldl_nil, (isD_of n h).2]
      omega
    · rw [dec_big h, val_app, ih (n / 10) (by omega)]
      simp only [val, List.foldl_cons, List.foldl_nil, (isD_of (n % 10) (by omega)).2]
      omega
theorem dec_head (n : Nat) (h : 0 < n) : ∃ c r, dec n = c :: r ∧ c ≠ 48#8 := by
  induction n using Nat.strongRecOn with
  | _ n ih =>
    by_cases hn : n < 10
    · refine ⟨_, [], dec_small hn, ?_⟩
      intro e
      have := (isD_of n hn).2
      rw [e] at this
      have e2 : (48#8 : By).toNat = 48 := rfl
      omega
    · obtain ⟨c, r, h1, h2⟩ := ih (n / 10) (by omega) (by omega)
      exact ⟨c, r ++ [BitVec.ofNat 8 (48 + n % 10)], by rw [dec_big hn, h1]; rfl, h2⟩
theorem la_dig (ds r : Bs) (i n : Nat) (hd : ∀ c ∈ ds, isD c) (h7 : i + ds.length ≤ 7) (h0 : 0 < i + ds.length) (hz : i = 0 → ∀ c t, ds = c :: t → c ≠ 48#8) : la i n (ds ++ 32#8 :: r) = (val n ds, i + ds.length, 0) := by
  induction ds generalizing i n with
  | nil =>
    simp only [List.nil_append, la]
    rw [if_pos ⟨trivial, by simpa using h0⟩]
    rfl
  | cons c t ih =>
    rw [List.cons_append, la]
    have hc := hd c (by simp)
    unfold isD at hc
    rw [if_neg (fun h => by rw [h.1] at hc; have e : (32#8 : By).toNat = 32 := rfl; omega), if_neg (by
      simp only [List.length_cons] at h7
      rintro (h | h | h | h)
      · omega
      · omega
      · exact hz h.1 c t rfl h.2
      · omega)]
    rw [ih (i + 1) _ (fun x hx => hd x (by simp [hx])) (by simp only [List.length_cons] at h7; omega) (by omega) (by omega)]
    simp only [List.length_cons, val, List.foldl_cons]
    congr 2
    omega
theorem val_lt (l : Bs) (h : ∀ c ∈ l, isD c) (n k : Nat) (hn : n < 10 ^ k) : val n l < 10 ^ (k + l.length) := by
  induction l generalizing n k with
  | nil => simpa [val] using hn
  | cons c r ih =>
    have hc := h c (by simp)
    unfold isD at hc
    have hp : 10 ^ (k + 1) = 10 * 10 ^ k := by rw [Nat.pow_succ, Nat.mul_comm]
    have := ih (fun x hx => h x (by simp [hx])) (n * 10 + (c.toNat - 48)) (k + 1) (by omega)
    simp only [val, List.foldl_cons] at this ⊢
    rw [List.length_cons, show k + (r.length + 1) = k + 1 + r.length by omega]
    exact this
/-- Digits without zeros ahead are a number's own. -/
theorem dec_uniq (l : Bs) (hd : ∀ c ∈ l, isD c) (hz : ∀ c t, l = c :: t → c ≠ 48#8) (hl : l ≠ []) : l = dec (val 0 l) := by
  obtain ⟨n, hn⟩ : ∃ n, n = l.length := ⟨_, rfl⟩
  induction n generalizing l with
  | zero => exact absurd (List.length_eq_zero_iff.1 hn.symm) hl
  | succ n ih =>
    obtain ⟨m, c, rfl⟩ : ∃ m c, l = m ++ [c] := ⟨l.dropLast, l.getLast hl, (List.dropLast_concat_getLast hl).symm⟩
    have hc := hd c (by simp)
    unfold isD at hc
    have hcn : BitVec.ofNat 8 (48 + (c.toNat - 48)) = c := by
      apply BitVec.eq_of_toNat_eq
      rw [BitVec.toNat_ofNat, Nat.mod_eq_of_lt (by omega)]
      omega
    rw [val_app]
    have hv : val (val 0 m) [c] = val 0 m * 10 + (c.toNat - 48) := rfl
    rw [hv]
    by_cases hm : m = []
    · subst hm
      have : val 0 ([] : Bs) = 0 := rfl
      rw [this, dec_small (by omega), Nat.zero_mul, Nat.zero_add, hcn]
      rfl
    · have e := ih m (fun x hx => hd x (by simp [hx])) (fun x t ht => hz x (t ++ [c]) (by rw [ht]; rfl)) hm (by simp at hn; exact hn)
      have hpos : 0 < val 0 m := by
        rcases Nat.eq_zero_or_pos (val 0 m) with h0 | h0
        · rw [h0, dec_small (by decide)] at e
          exact absurd rfl (hz _ [c] (by rw [e]; rfl))
        · exact h0
      rw [dec_big (by omega)]
      have e1 : (val 0 m * 10 + (c.toNat - 48)) / 10 = val 0 m := by omega
      have e2 : (val 0 m * 10 + (c.toNat - 48)) % 10 = c.toNat - 48 := by omega
      rw [e1, e2, ← e, hcn]
/-- The least length that is right, or 0. -/
def lngA : Nat → Nat → Nat → Nat
  | 0, _, _ => 0
  | k + 1, n, a => if n + 1 < a * 10 then n + 1 else lngA k (n + 1) (a * 10)
def lng (x : Pr) : Nat := lngA 7 (x.1.length + x.2.length + 3) 1
theorem lngA_spec (k n d : Nat) (hd : 1 ≤ d) (h : ∀ j, 1 ≤ j → j < d → ¬ n + j < 10 ^ j) (hk : d + k = 8) (hn : n + d - 1 = n + (d - 1)) :
    (lngA k (n + (d - 1)) (10 ^ (d - 1)) = 0 ∧ ∀ j, 1 ≤ j → j ≤ 7 → ¬ n + j < 10 ^ j) ∨ ∃ e, 1 ≤ e ∧ e ≤ 7 ∧ lngA k (n + (d - 1)) (10 ^ (d - 1)) = n + e ∧ n + e < 10 ^ e ∧ ∀ j, 1 ≤ j → j < e → ¬ n + j < 10 ^ j := by
  induction k generalizing d with
  | zero => exact .inl ⟨rfl, fun j h1 h2 => h j h1 (by omega)⟩
  | succ k ih =>
    have e1 : n + (d - 1) + 1 = n + d := by omega
    have e2 : 10 ^ (d - 1) * 10 = 10 ^ d := by rw [← Nat.pow_succ]; congr 1; omega
    rw [lngA, e1, e2]
    by_cases hlt : n + d < 10 ^ d
    · rw [if_pos hlt]
      exact .inr ⟨d, hd, by omega, rfl, hlt, h⟩
    · rw [if_neg hlt]
      have := ih (d + 1) (by omega) (fun j h1 h2 => by
        by_cases hj : j = d
        · subst hj; exact hlt
        · exact h j h1 (by omega)) (by omega) (by omega)
      simpa using this
theorem lng_spec (x : Pr) : (lng x = 0 ∧ ∀ j, 1 ≤ j → j ≤ 7 → ¬ x.1.length + x.2.length + 3 + j < 10 ^ j) ∨ ∃ e, 1 ≤ e ∧ e ≤ 7 ∧ lng x = x.1.length + x.2.length + 3 + e ∧ lng x < 10 ^ e ∧ Lib.nDigits (lng x) = e ∧ ∀ j, 1 ≤ j → j < e → ¬ x.1.length + x.2.length + 3 + j < 10 ^ j := by
  have := lngA_spec 7 (x.1.length + x.2.length + 3) 1 (by decide) (fun j h1 h2 => by omega) (by decide) (by omega)
  simp only [Nat.sub_self, Nat.add_zero, Nat.pow_zero] at this
  rcases this with h | ⟨e, h1, h2, h3, h4, h5⟩
  · exact .inl h
  · refine .inr ⟨e, h1, h2, h3, by unfold lng; omega, ?_, h5⟩
    unfold lng
    rw [h3]
    obtain ⟨f, rfl⟩ : ∃ f, e = f + 1 := ⟨e - 1, by omega⟩
    apply Lib.nDigits_unique f _ _ h4
    rcases Nat.eq_zero_or_pos f with hf | hf
    · subst hf; simp
    · have := h5 f (by omega) (by omega)
      omega
/-- A record. -/
def rec1 (x : Pr) : Bs := dec (lng x) ++ 32#8 :: (x.1 ++ 61#8 :: (x.2 ++ [10#8]))
theorem rec1_len (x : Pr) (h : lng x ≠ 0) : (rec1 x).length = lng x := by
  rcases lng_spec x with ⟨h0, _⟩ | ⟨e, h1, h2, h3, h4, h5, h6⟩
  · exact absurd h0 h
  · simp only [rec1, List.length_append, List.length_cons, List.length_nil, dec_len, h5]
    omega
theorem cutE_app (k v : Bs) (h : 61#8 ∉ k) : cutE (k ++ 61#8 :: v) = some (k, v) := by
  induction k with
  | nil => simp [cutE]
  | cons c r ih =>
    rw [List.mem_cons, not_or] at h
    rw [List.cons_append, cutE, if_neg (fun e => h.1 e.symm), ih h.2]
theorem canP_iff (x : Pr) : canP x = true ↔ x.1 ≠ [] ∧ 61#8 ∉ x.1 ∧ 0#8 ∉ x.1 ∧ 0#8 ∉ x.2 := by
  unfold canP
  by_cases h1 : x.1 = [] <;> by_cases h2 : 61#8 ∈ x.1 <;> by_cases h3 : 0#8 ∈ x.1 <;> by_cases h4 : 0#8 ∈ x.2 <;> simp [h1, h2, h3, h4]
/-- A record that was printed reads back. -/
theorem rc1_rec (x : Pr) (r : Bs) (hc : canP x = true) (hl : lng x ≠ 0) : rc1 (rec1 x ++ r) = .ok x (lng x) := by
  have hL := rec1_len x hl
  rcases lng_spec x with ⟨h0, _⟩ | ⟨e, h1, h2, h3, h4, h5, h6⟩
  · exact absurd h0 hl
  obtain ⟨k1, k2, k3, k4⟩ := (canP_iff x).1 hc
  have hla : la 0 0 (rec1 x ++ r) = (lng x, e, 0) := by
    have := la_dig (dec (lng x)) (x.1 ++ 61#8 :: (x.2 ++ [10#8]) ++ r) 0 0 (dec_digits _) (by rw [dec_len, h5]; omega) (by rw [dec_len, h5]; omega) (fun _ c t ht => by
      obtain ⟨c', r', q1, q2⟩ := dec_head (lng x) (by omega)
      rw [q1] at ht
      injection ht with e1 e2
      rw [← e1]; exact q2)
    rw [dec_val, dec_len, h5, Nat.zero_add] at this
    rw [← this]
    simp [rec1]
  unfold rc1
  rw [hla]
  simp only
  have hlen : (rec1 x ++ r).length = lng x + r.length := by rw [List.length_append, hL]
  rw [if_neg (by decide), if_neg (by
    rintro (h | h)
    · exact h rfl
    · have : 0 < x.1.length := List.length_pos_iff.2 k1
      omega), if_neg (by rw [hlen]; omega)]
  have hbody : (rec1 x ++ r).take (lng x - 1) = dec (lng x) ++ 32#8 :: (x.1 ++ 61#8 :: x.2) := by
    have e0 : rec1 x ++ r = (dec (lng x) ++ 32#8 :: (x.1 ++ 61#8 :: x.2)) ++ (10#8 :: r) := by simp [rec1]
    rw [e0]
    apply List.take_left'
    simp only [List.length_append, List.length_cons, dec_len, h5]
    omega
  have hlast : (rec1 x ++ r)[lng x - 1]? = some 10#8 := by
    have e0 : rec1 x ++ r = (dec (lng x) ++ 32#8 :: (x.1 ++ 61#8 :: x.2)) ++ (10#8 :: r) := by simp [rec1]
    have hl2 : (dec (lng x) ++ 32#8 :: (x.1 ++ 61#8 :: x.2)).length = lng x - 1 := by
      simp only [List.length_append, List.length_cons, dec_len, h5]
      omega
    rw [e0, List.getElem?_append_right (by omega), hl2, Nat.sub_self]
    rfl
  rw [hlast, if_neg (by simp), hbody]
  have hdrop : (dec (lng x) ++ 32#8 :: (x.1 ++ 61#8 :: x.2)).drop (e + 1) = x.1 ++ 61#8 :: x.2 := by
    have e0 : dec (lng x) ++ 32#8 :: (x.1 ++ 61#8 :: x.2) = (dec (lng x) ++ [32#8]) ++ (x.1 ++ 61#8 :: x.2) := by simp
    rw [e0]
    apply List.drop_left'
    simp [dec_len, h5]
  rw [hdrop, cutE_app _ _ k2]
  exact if_pos hc
/-- What is printed. -/
def prt : List Pr → Bs
  | [] => []
  | x :: r => rec1 x ++ prt r
theorem prt_app (l m : List Pr) : prt (l ++ m) = prt l ++ prt m := by
  induction l with
  | nil => rfl
  | cons x r ih => simp [prt, ih]
theorem prs_prt (l : List Pr) (b : Bs) (p : Nat) (acc : List Pr) (hb : b.drop p = prt l) (hp : p ≤ b.length) (hc : ∀ x ∈ l, canP x = true ∧ lng x ≠ 0) : prs b p acc = (acc ++ l, 0, 0) := by
  induction l generalizing p acc with
  | nil =>
    have : (b.drop p).length = 0 := by rw [hb]; rfl
    rw [List.length_drop] at this
    rw [prs_end b p acc (by omega), List.append_nil]
  | cons x r ih =>
    have hx := hc x (by simp)
    have hl := rec1_len x hx.2
    have hb2 : b.drop p = rec1 x ++ prt r := hb
    have hlen : b.length - p = lng x + (prt r).length := by rw [← List.length_drop, hb2, List.length_append, hl]
    have hpos : 0 < lng x := Nat.pos_of_ne_zero hx.2
    rw [prs_ok b p acc (by omega) x (lng x) (by rw [hb2]; exact rc1_rec x _ hx.1 hx.2)]
    rw [ih (p + lng x) (acc ++ [x]) (by
      rw [← List.drop_drop, hb2]
      exact List.drop_left' hl) (by omega) (fun y hy => hc y (by simp [hy]))]
    simp
end Go.Proofs.YtenkchhlaphocaaGreatDoor

import Derived.Test.YtpjnbhflnbhnoaaGreatDoorWak
namespace Go.Proofs.YtpjnbhflnbhnoaaGreatDoor
open Go.RowKit
set_option linter.unusedVariables false
/-! ### Codes: words of lengths -/
/-- How many words have n bits. -/
def ct (ls : List Nat) (n : Nat) : Nat := if n = 0 then 0 else ls.count n
/-- The first one's number. -/
def nm (ls : List Nat) : Nat → Nat
  | 0 => 0
  | n + 1 => 2 * (nm ls n + ct ls n)
/-- Its place in the order of all words. -/
def pc (ls : List Nat) : Nat → Nat
  | 0 => 0
  | n + 1 => pc ls n + ct ls n
def room (ls : List Nat) : Nat := nm ls 15 + ct ls 15
def nwd (ls : List Nat) : Nat := pc ls 15 + ct ls 15
def rk (ls : List Nat) (i : Nat) : Nat := (ls.take i).count (ls.getD i 0)
def cd (ls : List Nat) (i : Nat) : Nat := nm ls (ls.getD i 0) + rk ls i
def ps (ls : List Nat) (i : Nat) : Nat := pc ls (ls.getD i 0) + rk ls i
theorem ct_pos (ls : List Nat) (n : Nat) (h : n ≠ 0) : ct ls n = ls.count n := by rw [ct, if_neg h]
/-- The room up to n, in words of n bits. -/
theorem nm_mono (ls : List Nat) (n k : Nat) : (nm ls n + ct ls n) * 2 ^ k ≤ nm ls (n + k) + ct ls (n + k) := by
  induction k with
  | zero => simp
  | succ k ih =>
    have e : nm ls (n + (k + 1)) = 2 * (nm ls (n + k) + ct ls (n + k)) := rfl
    rw [e, Nat.pow_succ, ← Nat.mul_assoc]
    omega
theorem nm_le (ls : List Nat) (n : Nat) (hn : n ≤ 15) (hr : room ls ≤ 32768) : nm ls n + ct ls n ≤ 2 ^ n := by
  have h := nm_mono ls n (15 - n)
  rw [show n + (15 - n) = 15 by omega] at h
  have h2 : (nm ls n + ct ls n) * 2 ^ (15 - n) ≤ 2 ^ n * 2 ^ (15 - n) := by
    rw [← Nat.pow_add, show n + (15 - n) = 15 by omega]
    exact Nat.le_trans h hr
  exact Nat.le_of_mul_le_mul_right h2 (Nat.pow_pos (by decide))
theorem pc_mono (ls : List Nat) (n k : Nat) (h : n < k) : pc ls n + ct ls n ≤ pc ls k := by
  induction k with
  | zero => omega
  | succ k ih =>
    rw [pc]
    by_cases hk : n = k
    · rw [hk]; exact Nat.le_refl _
    · have := ih (by omega); omega
theorem count_take_succ (ls : List Nat) (i n : Nat) (h : i < ls.length) : (ls.take (i + 1)).count n = (ls.take i).count n + (if ls.getD i 0 = n then 1 else 0) := by
  rw [List.take_add_one, List.getElem?_eq_getElem h, List.count_append]
  congr 1
  rw [List.getD_eq_getElem?_getD, List.getElem?_eq_getElem h]
  simp [List.count_singleton]
theorem count_take_le (ls : List Nat) (i j n : Nat) (h : i ≤ j) : (ls.take i).count n ≤ (ls.take j).count n := by
  rw [show ls.take i = (ls.take j).take i by rw [List.take_take, Nat.min_eq_left h]]
  exact List.Sublist.count_le _ (List.take_sublist _ _)
theorem rk_lt (ls : List Nat) (i : Nat) (h : i < ls.length) (h0 : ls.getD i 0 ≠ 0) : rk ls i < ct ls (ls.getD i 0) := by
  rw [ct_pos _ _ h0, rk]
  have h1 := count_take_succ ls i (ls.getD i 0) h
  rw [if_pos rfl] at h1
  have h2 : (ls.take (i + 1)).count (ls.getD i 0) ≤ ls.count (ls.getD i 0) := List.Sublist.count_le _ (List.take_sublist _ _)
  omega
/-- Of one length the ranks rise with the symbols. -/
theorem rk_rise (ls : List Nat) (i j : Nat) (hij : i < j) (hj : j < ls.length) (h : ls.getD i 0 = ls.getD j 0) : rk ls i < rk ls j := by
  rw [rk, rk, ← h]
  have h1 := count_take_succ ls i (ls.getD i 0) (by omega)
  rw [if_pos rfl] at h1
  have h2 := count_take_le ls (i + 1) j (ls.getD i 0) (by omega)
  omega
theorem rk_inj (ls : List Nat) (i j : Nat) (hi : i < ls.length) (hj : j < ls.length) (h : ls.getD i 0 = ls.getD j 0) (hr : rk ls i = rk ls j) : i = j := by
  rcases Nat.lt_trichotomy i j with h1 | h1 | h1
  · have := rk_rise ls i j h1 hj h; omega
  · exact h1
  · have := rk_rise ls j i h1 hi h.symm; omega
/-- Each rank below the count is some symbol's. -/
theorem rk_ex (ls : List Nat) (n r : Nat) (hn : n ≠ 0) (hr : r < ct ls n) : ∃ i, i < ls.length ∧ ls.getD i 0 = n ∧ rk ls i = r := by
  rw [ct_pos _ _ hn] at hr
  have key : ∀ m, m ≤ ls.length → r < (ls.take m).count n → ∃ i, i < m ∧ ls.getD i 0 = n ∧ rk ls i = r := by
    intro m
    induction m with
    | zero => intro _ h; simp at h
    | succ m ih =>
      intro hm h
      have h1 := count_take_succ ls m n (by omega)
      by_cases he : ls.getD m 0 = n
      · rw [if_pos he] at h1
        by_cases hr' : r < (ls.take m).count n
        · obtain ⟨i, a, b, c⟩ := ih (by omega) hr'
          exact ⟨i, by omega, b, c⟩
        · exact ⟨m, by omega, he, by rw [rk, he]; omega⟩
      · rw [if_neg he] at h1
        obtain ⟨i, a, b, c⟩ := ih (by omega) (by omega)
        exact ⟨i, by omega, b, c⟩
  have := key ls.length (Nat.le_refl _) (by rw [List.take_length]; exact hr)
  exact this
/-- Lengths that are a code. -/
structure Cod (ls : List Nat) : Prop where
  each : ∀ i, ls.getD i 0 ≤ 15
  len : ls.length ≤ 320
  pos : 0 < room ls
  fit : room ls ≤ 32768
variable {ls : List Nat}
theorem Cod.cd_lt (h : Cod ls) (i : Nat) (hi : i < ls.length) (h0 : ls.getD i 0 ≠ 0) : cd ls i < nm ls (ls.getD i 0) + ct ls (ls.getD i 0) ∧ cd ls i < 2 ^ ls.getD i 0 := by
  have h1 := rk_lt ls i hi h0
  have h2 := nm_le ls (ls.getD i 0) (h.each i) h.fit
  rw [cd]
  omega
theorem Cod.ps_lt (h : Cod ls) (i : Nat) (hi : i < ls.length) (h0 : ls.getD i 0 ≠ 0) : ps ls i < nwd ls := by
  have h1 := rk_lt ls i hi h0
  have h2 := h.each i
  rw [ps, nwd]
  by_cases he : ls.getD i 0 = 15
  · rw [he] at h1 ⊢; omega
  · have := pc_mono ls (ls.getD i 0) 15 (by omega); omega
theorem Cod.ps_inj (h : Cod ls) (i j : Nat) (hi : i < ls.length) (hj : j < ls.length) (hi0 : ls.getD i 0 ≠ 0) (hj0 : ls.getD j 0 ≠ 0) (he : ps ls i = ps ls j) : i = j := by
  have h1 := rk_lt ls i hi hi0
  have h2 := rk_lt ls j hj hj0
  rw [ps, ps] at he
  rcases Nat.lt_trichotomy (ls.getD i 0) (ls.getD j 0) with h3 | h3 | h3
  · have := pc_mono ls _ _ h3; omega
  · exact rk_inj ls i j hi hj h3 (by rw [h3] at he; omega)
  · have := pc_mono ls _ _ h3; omega
/-- The row X of fifteen bits, the first one highest, begins with the word of i. -/
def Hits (ls : List Nat) (X i : Nat) : Prop := i < ls.length ∧ ls.getD i 0 ≠ 0 ∧ X / 2 ^ (15 - ls.getD i 0) = cd ls i
/-- All shorter ones lie below the row. -/
def Past (ls : List Nat) (X n : Nat) : Prop := ∀ m, m < n → nm ls m + ct ls m ≤ X / 2 ^ (15 - m)
theorem Past.start (ls : List Nat) (X : Nat) : Past ls X 1 := fun m hm => by
  obtain rfl : m = 0 := by omega
  simp [nm, ct]
theorem Past.ge {X n : Nat} (h : Past ls X n) (hn : 1 ≤ n) (hn2 : n ≤ 15) : nm ls n ≤ X / 2 ^ (15 - n) := by
  obtain ⟨m, rfl⟩ : ∃ m, n = m + 1 := ⟨n - 1, by omega⟩
  have h1 := h m (by omega)
  have e : X / 2 ^ (15 - m) = X / 2 ^ (15 - (m + 1)) / 2 := by
    rw [Nat.div_div_eq_div_mul, ← Nat.pow_succ]; congr 2; omega
  rw [nm]
  omega
theorem Past.next {X n : Nat} (h : Past ls X n) (hc : nm ls n + ct ls n ≤ X / 2 ^ (15 - n)) : Past ls X (n + 1) := fun m hm => by
  by_cases e : m = n
  · rw [e]; exact hc
  · exact h m (by omega)
/-- The word is found at its length. -/
theorem Past.found {X n : Nat} (h : Past ls X n) (hn : 1 ≤ n) (hn2 : n ≤ 15) (hc : X / 2 ^ (15 - n) - nm ls n < ct ls n) : ∃ i, Hits ls X i ∧ ls.getD i 0 = n ∧ ps ls i = pc ls n + (X / 2 ^ (15 - n) - nm ls n) := by
  obtain ⟨i, a, b, c⟩ := rk_ex ls n _ (by omega) hc
  have hg := h.ge hn hn2
  refine ⟨i, ⟨a, by omega, ?_⟩, b, ?_⟩
  · rw [cd, b, c]; omega
  · rw [ps, b, c]
/-- No two words begin one row. -/
theorem Cod.hits_uniq (h : Cod ls) {X i j : Nat} (hi : Hits ls X i) (hj : Hits ls X j) : i = j := by
  obtain ⟨a1, a2, a3⟩ := hi
  obtain ⟨b1, b2, b3⟩ := hj
  have ei := h.each i
  have ej := h.each j
  have key : ∀ {i j : Nat}, i < ls.length → ls.getD i 0 ≠ 0 → X / 2 ^ (15 - ls.getD i 0) = cd ls i → ls.getD j 0 ≤ 15 → X / 2 ^ (15 - ls.getD j 0) = cd ls j → ¬ ls.getD i 0 < ls.getD j 0 := by
    intro i j hi hi0 hx hj15 hy hlt
    have h1 := (h.cd_lt i hi hi0).1
    have h2 := nm_mono ls (ls.getD i 0) (ls.getD j 0 - 1 - ls.getD i 0)
    have h3 : nm ls (ls.getD j 0) = 2 * (nm ls (ls.getD j 0 - 1) + ct ls (ls.getD j 0 - 1)) := by
      have e : ls.getD j 0 = ls.getD j 0 - 1 + 1 := by omega
      conv => lhs; rw [e]
      rfl
    rw [show ls.getD i 0 + (ls.getD j 0 - 1 - ls.getD i 0) = ls.getD j 0 - 1 by omega] at h2
    have h4 : (nm ls (ls.getD i 0) + ct ls (ls.getD i 0)) * 2 ^ (ls.getD j 0 - ls.getD i 0) ≤ cd ls j := by
      rw [cd, h3, show ls.getD j 0 - ls.getD i 0 = ls.getD j 0 - 1 - ls.getD i 0 + 1 by omega, Nat.pow_succ, ← Nat.mul_assoc]
      omega
    have h5 : X / 2 ^ (15 - ls.getD i 0) = cd ls j / 2 ^ (ls.getD j 0 - ls.getD i 0) := by
      rw [← hy, Nat.div_div_eq_div_mul, ← Nat.pow_add]; congr 2; omega
    have h6 : nm ls (ls.getD i 0) + ct ls (ls.getD i 0) ≤ cd ls j / 2 ^ (ls.getD j 0 - ls.getD i 0) := (Nat.le_div_iff_mul_le (Nat.pow_pos (by decide))).2 h4
    omega
  have h1 := key a1 a2 a3 ej b3
  have h2 := key b1 b2 b3 ei a3
  have he : ls.getD i 0 = ls.getD j 0 := by omega
  refine rk_inj ls i j a1 b1 he ?_
  rw [he, b3, cd, cd, he] at a3
  omega
/-- Behind the last length nothing begins the row. -/
theorem Past.none {X : Nat} (h : Past ls X 16) (hk : Cod ls) (i : Nat) : ¬ Hits ls X i := by
  rintro ⟨a, b, c⟩
  have h1 := (hk.cd_lt i a b).1
  have h2 := h (ls.getD i 0) (by have := hk.each i; omega)
  omega
/-- As Read asks it: R are the bits from here on, zeros behind the end; its first n bits are i's word. -/
theorem hits_iff (hk : Cod ls) (R i : Nat) (hi : i < ls.length) (h0 : ls.getD i 0 ≠ 0) : Hits ls (rev 15 R) i ↔ R % 2 ^ ls.getD i 0 = rev (ls.getD i 0) (cd ls i) := by
  have e := rev_div (ls.getD i 0) 15 R (hk.each i)
  have := rev_eq (ls.getD i 0) R (cd ls i) (hk.cd_lt i hi h0).2
  constructor
  · rintro ⟨_, _, c⟩
    rw [e] at c
    exact this.1 c
  · intro c
    exact ⟨hi, h0, by rw [e]; exact this.2 c⟩
/-- Bits that are no word and no beginning of one. -/
theorem Past.no_short {R N : Nat} (h : Past ls (rev 15 R) 16) (hk : Cod ls) (hR : R < 2 ^ N) (i : Nat) (hi : i < ls.length) (h0 : ls.getD i 0 ≠ 0) (hN : N ≤ ls.getD i 0) : ¬ rev (ls.getD i 0) (cd ls i) % 2 ^ N = R := by
  intro he
  have h15 := hk.each i
  have h1 := (hk.cd_lt i hi h0).1
  have h2 := h (ls.getD i 0) (by omega)
  rw [rev_div (ls.getD i 0) 15 R h15] at h2
  -- the word's first N bits are R's
  have h3 : rev N R = cd ls i / 2 ^ (ls.getD i 0 - N) := by
    have e := rev_div N (ls.getD i 0) (rev (ls.getD i 0) (cd ls i)) hN
    rw [rev_rev, Nat.mod_eq_of_lt (hk.cd_lt i hi h0).2] at e
    rw [e, ← he, rev_mod N N _ (Nat.le_refl _)]
  have h4 : rev (ls.getD i 0) R = rev N R * 2 ^ (ls.getD i 0 - N) := by
    have e := rev_add N (ls.getD i 0 - N) R
    rw [show N + (ls.getD i 0 - N) = ls.getD i 0 by omega, Nat.div_eq_of_lt hR] at e
    rw [e]
    have z : ∀ k, rev k 0 = 0 := by
      intro k
      induction k with
      | zero => rfl
      | succ k ih => rw [rev]; simp [ih]
    rw [z, Nat.add_zero]
  have h5 := Nat.div_mul_le_self (cd ls i) (2 ^ (ls.getD i 0 - N))
  rw [← h3, ← h4] at h5
  omega
/-! The parts of the whole. -/
def prt (n : Nat) : Nat := if n = 0 then 0 else 2 ^ (15 - n)
def parts : List Nat → Nat
  | [] => 0
  | n :: r => prt n + parts r
theorem parts_eq (ls : List Nat) (h : ∀ x ∈ ls, x ≤ 15) : parts ls = room ls := by
  have e : ∀ (ls : List Nat), room ls = ct ls 1 * 2 ^ 14 + ct ls 2 * 2 ^ 13 + ct ls 3 * 2 ^ 12 + ct ls 4 * 2 ^ 11 + ct ls 5 * 2 ^ 10 + ct ls 6 * 2 ^ 9 + ct ls 7 * 2 ^ 8 + ct ls 8 * 2 ^ 7 + ct ls 9 * 2 ^ 6 + ct ls 10 * 2 ^ 5 + ct ls 11 * 2 ^ 4 + ct ls 12 * 2 ^ 3 + ct ls 13 * 2 ^ 2 + ct ls 14 * 2 + ct ls 15 := by
    intro ls
    simp only [room, nm, show ct ls 0 = 0 from rfl]
    omega
  induction ls with
  | nil => rw [e]; simp [parts, ct]
  | cons x r ih =>
    have h1 := ih (fun y hy => h y (List.mem_cons_of_mem _ hy))
    have hx := h x (List.mem_cons_self ..)
    rw [parts, h1, e, e]
    have hc : ∀ n, n ≠ 0 → ct (x :: r) n = ct r n + (if x = n then 1 else 0) := by
      intro n hn
      rw [ct_pos _ _ hn, ct_pos _ _ hn, List.count_cons]
      congr 1
      by_cases hxn : x = n <;> simp [hxn]
    rw [hc 1 (by decide), hc 2 (by decide), hc 3 (by decide), hc 4 (by decide), hc 5 (by decide), hc 6 (by decide), hc 7 (by decide), hc 8 (by decide), hc 9 (by decide), hc 10 (by decide), hc 11 (by decide), hc 12 (by decide), hc 13 (by decide), hc 14 (by decide), hc 15 (by decide)]
    have hx16 : x = 0 ∨ x = 1 ∨ x = 2 ∨ x = 3 ∨ x = 4 ∨ x = 5 ∨ x = 6 ∨ x = 7 ∨ x = 8 ∨ x = 9 ∨ x = 10 ∨ x = 11 ∨ x = 12 ∨ x = 13 ∨ x = 14 ∨ x = 15 := by omega
    rcases hx16 with rfl | rfl | rfl | rfl | rfl | rfl | rfl | rfl | rfl | rfl | rfl | rfl | rfl | rfl | rfl | rfl <;> simp [prt] <;> omega
end Go.Proofs.YtpjnbhflnbhnoaaGreatDoor

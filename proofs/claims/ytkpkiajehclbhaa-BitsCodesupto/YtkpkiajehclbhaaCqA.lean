import Derived.Test.YtkpkiajehclbhaaCkA
namespace Go.Proofs.Ytkpkiajehclbhaa
open Go.RowKit
set_option linter.unusedVariables false
variable {ls : List Nat}
theorem wdP_lt (i : Nat) : (wdP ls i).1 < 2 ^ ls.getD i 0 := by
  unfold wdP
  split
  · exact Nat.two_pow_pos _
  · exact rev_lt _ _
/-! ### BitsCodes: the document's words, as bits -/
theorem bl_eq (a b n : Nat) : bl a n = bl b n ↔ a % 2 ^ n = b % 2 ^ n := by
  induction n generalizing a b with
  | zero => simp [bl, Nat.mod_one]
  | succ n ih =>
    rw [bl, bl, List.cons.injEq, ih]
    have e : ∀ x : Nat, x % 2 ^ (n + 1) = x % 2 + 2 * (x / 2 % 2 ^ n) := fun x => by rw [Nat.pow_succ, Nat.mul_comm, Nat.mod_mul]
    rw [e a, e b]
    constructor
    · rintro ⟨h1, h2⟩
      have := congrArg BitVec.toNat h1
      simp only [BitVec.toNat_ofNat] at this
      omega
    · intro h
      have h1 : a % 2 = b % 2 := by omega
      exact ⟨by rw [h1], by omega⟩
/-- Bits of the word, as the document takes them out of the number. -/
theorem rev_bit (n c j : Nat) (hj : j < n) : rev n c / 2 ^ j % 2 = c / 2 ^ (n - 1 - j) % 2 := by
  have h := rev_test n c j hj
  rw [Nat.testBit_eq_decide_div_mod_eq, Nat.testBit_eq_decide_div_mod_eq, decide_eq_decide] at h
  have h1 : rev n c / 2 ^ j % 2 < 2 := Nat.mod_lt _ (by decide)
  have h2 : c / 2 ^ (n - 1 - j) % 2 < 2 := Nat.mod_lt _ (by decide)
  omega
/-- The word of a symbol, as bits. -/
def wb (ls : List Nat) (i : Nat) : List By := bl (wdP ls i).1 (ls.getD i 0)
theorem wb_length (i : Nat) : (wb ls i).length = ls.getD i 0 := bl_length _ _
theorem wb_nil (i : Nat) (h : ls.getD i 0 = 0) : wb ls i = [] := by unfold wb; rw [h]; rfl
/-- The number that grows: code and was, ahead of symbol i at length n. -/
def CwI (ls : List Nat) (n i code was : Nat) : Prop := was ≤ n ∧ code * 2 ^ (n - was) = nm ls n + (ls.take i).count n
theorem CwI.start (ls : List Nat) : CwI ls 1 0 0 0 := by
  refine ⟨by decide, ?_⟩
  simp [nm, ct]
theorem CwI.skip {n i code was : Nat} (h : CwI ls n i code was) (hi : i < ls.length) (hn : ls.getD i 0 ≠ n) : CwI ls n (i + 1) code was := by
  refine ⟨h.1, ?_⟩
  rw [count_take_succ ls i n hi, if_neg hn, Nat.add_zero]
  exact h.2
theorem CwI.hit {n i code was : Nat} (h : CwI ls n i code was) (hi : i < ls.length) (hn : ls.getD i 0 = n) : code * 2 ^ (n - was) = cd ls i ∧ CwI ls n (i + 1) (cd ls i + 1) n := by
  have e : code * 2 ^ (n - was) = cd ls i := by rw [h.2, cd, rk, hn]
  refine ⟨e, Nat.le_refl _, ?_⟩
  rw [count_take_succ ls i n hi, if_pos hn, ← Nat.add_assoc, ← h.2, e]
  simp
theorem CwI.next {n code was : Nat} (h : CwI ls n ls.length code was) (hn : n ≠ 0) : CwI ls (n + 1) 0 code was := by
  refine ⟨by have := h.1; omega, ?_⟩
  have e := h.2
  rw [List.take_length, ← ct_pos ls n hn] at e
  rw [show n + 1 - was = n - was + 1 by have := h.1; omega, Nat.pow_succ, ← Nat.mul_assoc, e, nm]
  simp; omega
theorem CwI.le {n i code was : Nat} (h : CwI ls n i code was) (hk : Cod ls) (hn : 1 ≤ n) (hn2 : n ≤ 15) : code ≤ 32768 ∧ code * 2 ^ (n - was) ≤ 32768 := by
  have h1 := nm_le ls n hn2 hk.fit
  have h2 : (ls.take i).count n ≤ ls.count n := List.Sublist.count_le _ (List.take_sublist _ _)
  rw [← ct_pos ls n (by omega)] at h2
  have h3 : (2 : Nat) ^ n ≤ 2 ^ 15 := Nat.pow_le_pow_right (by decide) hn2
  have h4 : code * 1 ≤ code * 2 ^ (n - was) := Nat.mul_le_mul_left _ (Nat.two_pow_pos _)
  have := h.2
  omega
/-- What the document's Read answers. -/
def Lie (ls : List Nat) (R N i : Nat) : Prop := i < ls.length ∧ ls.getD i 0 ≠ 0 ∧ ls.getD i 0 ≤ N ∧ bl R (ls.getD i 0) = wb ls i
def Shr (ls : List Nat) (R N i : Nat) : Prop := i < ls.length ∧ ls.getD i 0 ≠ 0 ∧ N ≤ ls.getD i 0 ∧ (wb ls i).take N = bl R N
def SRaw (ls : List Nat) (R N s n h : Nat) : Prop :=
  (h = 0 ∧ n = ls.getD s 0 ∧ Lie ls R N s) ∨ (s = 0 ∧ n = 0 ∧ (∀ i, ¬ Lie ls R N i) ∧ ((h = 50 ∧ ∃ i, Shr ls R N i) ∨ (h = 52 ∧ ∀ i, ¬ Shr ls R N i)))
theorem lie_hits (hk : Cod ls) {R N i : Nat} (h : Lie ls R N i) : Hits ls (rev 15 R) i := by
  obtain ⟨h1, h2, h3, h4⟩ := h
  rw [hits_iff hk R i h1 h2]
  have := (bl_eq _ _ _).1 h4
  rw [this, Nat.mod_eq_of_lt (wdP_lt i)]
  unfold wdP
  rw [if_neg h2]
theorem hits_word (hk : Cod ls) {R i : Nat} (h : Hits ls (rev 15 R) i) : R % 2 ^ ls.getD i 0 = (wdP ls i).1 := by
  have := (hits_iff hk R i h.1 h.2.1).1 h
  rw [this]
  unfold wdP
  rw [if_neg h.2.1]
theorem hits_lie (hk : Cod ls) {R N i : Nat} (h : Hits ls (rev 15 R) i) (hN : ls.getD i 0 ≤ N) : Lie ls R N i := by
  refine ⟨h.1, h.2.1, hN, ?_⟩
  unfold wb
  rw [bl_eq, hits_word hk h, Nat.mod_eq_of_lt (wdP_lt i)]
theorem shr_iff (hk : Cod ls) {R N i : Nat} (hR : R < 2 ^ N) (h : Shr ls R N i) : (wdP ls i).1 % 2 ^ N = R := by
  obtain ⟨h1, h2, h3, h4⟩ := h
  unfold wb at h4
  rw [bl_take _ _ _ h3, bl_eq, Nat.mod_eq_of_lt hR] at h4
  exact h4
/-- Both read the same. -/
theorem raw_found (hk : Cod ls) {R N i s n h : Nat} (hi : Hits ls (rev 15 R) i) (hN : ls.getD i 0 ≤ N) (hs : SRaw ls R N s n h) : s = i ∧ n = ls.getD i 0 ∧ h = 0 := by
  rcases hs with ⟨rfl, rfl, h1⟩ | ⟨_, _, h1, _⟩
  · have := hk.hits_uniq (lie_hits hk h1) hi
    subst this
    exact ⟨rfl, rfl, rfl⟩
  · exact absurd (hits_lie hk hi hN) (h1 i)
theorem raw_short (hk : Cod ls) {R N i s n h : Nat} (hR : R < 2 ^ N) (hi : Hits ls (rev 15 R) i) (hN : N < ls.getD i 0) (hs : SRaw ls R N s n h) : s = 0 ∧ n = 0 ∧ h = 50 := by
  rcases hs with ⟨rfl, rfl, h1⟩ | ⟨rfl, rfl, h1, ⟨rfl, _⟩ | ⟨rfl, h2⟩⟩
  · have := hk.hits_uniq (lie_hits hk h1) hi
    subst this
    have := h1.2.2.1
    omega
  · exact ⟨rfl, rfl, rfl⟩
  · refine absurd ⟨hi.1, hi.2.1, by omega, ?_⟩ (h2 i)
    unfold wb
    have hw := hits_word hk hi
    have hp : (2 : Nat) ^ N ≤ 2 ^ ls.getD i 0 := Nat.pow_le_pow_right (by decide) (by omega)
    rw [Nat.mod_eq_of_lt (by omega)] at hw
    rw [bl_take _ _ _ (by omega), bl_eq, ← hw]
theorem raw_none (hk : Cod ls) {R N s n h : Nat} (hR : R < 2 ^ N) (hp : Past ls (rev 15 R) 16) (hs : SRaw ls R N s n h) : s = 0 ∧ n = 0 ∧ h = 52 := by
  rcases hs with ⟨rfl, rfl, h1⟩ | ⟨rfl, rfl, h1, ⟨rfl, i, h2⟩ | ⟨rfl, h2⟩⟩
  · exact absurd (lie_hits hk h1) (hp.none hk _)
  · have h3 := shr_iff hk hR h2
    obtain ⟨a, b, c, _⟩ := h2
    unfold wdP at h3
    rw [if_neg b] at h3
    exact absurd h3 (hp.no_short hk hR i a b c)
  · exact ⟨rfl, rfl, rfl⟩
end Go.Proofs.Ytkpkiajehclbhaa

import Derived.Test.YtenkchhlaphocaaGreatDoorNjB
namespace Go.Proofs.YtenkchhlaphocaaGreatDoor
open Go.RowKit
set_option linter.unusedVariables false
/-! ### What was parsed, printed again; records one behind the other -/
theorem la_inv (i n : Nat) (b : Bs) (h : (la i n b).2.2 = 0) : ∃ ds r, b = ds ++ 32#8 :: r ∧ (∀ c ∈ ds, isD c) ∧ (la i n b).2.1 = i + ds.length ∧ (la i n b).1 = val n ds ∧ (i = 0 → ds ≠ [] ∧ ∀ c t, ds = c :: t → c ≠ 48#8) := by
  induction b generalizing i n with
  | nil => simp [la] at h
  | cons c r ih =>
    rw [la] at h ⊢
    split at h
    · rename_i h1
      rw [if_pos h1]
      exact ⟨[], r, by rw [h1.1]; rfl, by simp, by simp, rfl, fun h0 => by omega⟩
    · rename_i h1
      rw [if_neg h1]
      split at h
      · simp at h
      · rename_i h2
        rw [if_neg h2]
        obtain ⟨ds, r', k1, k2, k3, k4, k5⟩ := ih (i + 1) (n * 10 + (c.toNat - 48)) h
        refine ⟨c :: ds, r', by rw [k1]; rfl, ?_, by rw [k3, List.length_cons]; omega, by rw [k4]; rfl, fun h0 => ⟨by simp, fun c' t e => ?_⟩⟩
        · intro x hx
          rcases List.mem_cons.1 hx with rfl | hx
          · unfold isD; omega
          · exact k2 x hx
        · injection e with e1 e2
          subst e1
          intro e3
          exact h2 (.inr (.inr (.inl ⟨h0, e3⟩)))
theorem cutE_inv (l : Bs) (x : Pr) (h : cutE l = some x) : l = x.1 ++ 61#8 :: x.2 ∧ 61#8 ∉ x.1 := by
  induction l generalizing x with
  | nil => simp [cutE] at h
  | cons c r ih =>
    rw [cutE] at h
    split at h
    · rename_i hc
      injection h with h; subst h
      exact ⟨by rw [hc]; rfl, by simp⟩
    · rename_i hc
      split at h
      · cases h
      · rename_i y hy
        injection h with h; subst h
        obtain ⟨e1, e2⟩ := ih y hy
        refine ⟨by rw [e1]; rfl, ?_⟩
        rw [List.mem_cons, not_or]
        exact ⟨fun e => hc e.symm, e2⟩
theorem pow_le_nd (n : Nat) (h : 0 < n) : 10 ^ (Lib.nDigits n - 1) ≤ n := by
  induction n using Nat.strongRecOn with
  | _ n ih =>
    by_cases hn : n < 10
    · rw [Lib.nDigits_small hn, Nat.sub_self, Nat.pow_zero]; exact h
    · have h1 := ih (n / 10) (by omega) (by omega)
      have h2 := Lib.nDigits_pos (n / 10)
      rw [Lib.nDigits_big hn, Nat.add_sub_cancel]
      obtain ⟨k, hk⟩ : ∃ k, Lib.nDigits (n / 10) = k + 1 := ⟨Lib.nDigits (n / 10) - 1, by omega⟩
      rw [hk, Nat.add_sub_cancel] at h1
      rw [hk, Nat.pow_succ]
      omega
theorem rc1_inv {b : Bs} {x : Pr} {n : Nat} (h : rc1 b = .ok x n) : ∃ r, b = dec n ++ 32#8 :: (x.1 ++ 61#8 :: (x.2 ++ 10#8 :: r)) ∧ Lib.nDigits n ≤ 7 ∧ n = x.1.length + x.2.length + 3 + Lib.nDigits n := by
  unfold rc1 at h
  split at h
  · cases h
  split at h
  · cases h
  split at h
  · cases h
  split at h
  · cases h
  rename_i h1 h2 h3 h4
  have hg := la_good b (by omega)
  obtain ⟨ds, r, e1, e2, e3, e4, e5⟩ := la_inv 0 0 b (by omega)
  generalize la 0 0 b = L at *
  obtain ⟨N, I, y⟩ := L
  simp only at *
  obtain ⟨d1, d2⟩ := e5 trivial
  rw [Nat.zero_add] at e3
  split at h
  · cases h
  · rename_i z hz
    split at h
    · rename_i hc
      injection h with q1 q2
      subst q1 q2
      obtain ⟨k1, k2⟩ := cutE_inv _ _ hz
      have hds : ds = dec N := by rw [e4]; exact dec_uniq ds e2 d2 d1
      have hnd : Lib.nDigits N = I := by rw [← dec_len, ← hds, e3]
      have h10 : b[N - 1]? = some 10#8 := by
        by_cases hq : b[N - 1]? = some 10#8
        · exact hq
        · exact absurd hq h4
      have hbl : b = b.take (N - 1) ++ 10#8 :: b.drop N := by
        have hlt : N - 1 < b.length := by omega
        conv => lhs; rw [← List.take_append_drop (N - 1) b]
        rw [List.drop_eq_getElem_cons hlt, show N - 1 + 1 = N by omega]
        rw [List.getElem?_eq_getElem hlt] at h10
        injection h10 with h10
        rw [h10]
      have hpre : b.take (I + 1) = ds ++ [32#8] := by
        have e0 : b = (ds ++ [32#8]) ++ r := by rw [e1]; simp
        rw [e0]
        apply List.take_left'
        simp [e3]
      have htk : b.take (N - 1) = ds ++ 32#8 :: (z.1 ++ 61#8 :: z.2) := by
        rw [← List.take_append_drop (I + 1) (b.take (N - 1)), k1, List.take_take, Nat.min_eq_left (by omega), hpre]
        simp
      have hlen := congrArg List.length k1
      simp only [List.length_drop, List.length_take, List.length_append, List.length_cons] at hlen
      refine ⟨b.drop N, ?_, by omega, by omega⟩
      conv => lhs; rw [hbl, htk]
      rw [hds]
      simp
    · cases h
theorem lng_right (x : Pr) (n : Nat) (h7 : Lib.nDigits n ≤ 7) (h : n = x.1.length + x.2.length + 3 + Lib.nDigits n) : lng x ≠ 0 ∧ lng x ≤ n ∧ n ≤ lng x + 1 := by
  have hp := Lib.nDigits_pos n
  have hlt := Lib.lt_pow_nDigits n
  have hge := pow_le_nd n (by omega)
  rcases lng_spec x with ⟨h0, h1⟩ | ⟨e, h1, h2, h3, h4, h5, h6⟩
  · exact absurd (by omega) (h1 (Lib.nDigits n) hp h7)
  · have he : e ≤ Lib.nDigits n := by
      rcases Nat.lt_or_ge (Lib.nDigits n) e with hq | hq
      · exact absurd (by omega) (h6 (Lib.nDigits n) hp hq)
      · exact hq
    have he2 : Lib.nDigits n ≤ e + 1 := by
      rcases Nat.lt_or_ge (e + 1) (Lib.nDigits n) with hq | hq
      · exfalso
        have hm : 10 ^ (e + 1) ≤ 10 ^ (Lib.nDigits n - 1) := Nat.pow_le_pow_right (by decide) (by omega)
        have hs : 10 ^ (e + 1) = 10 * 10 ^ e := by rw [Nat.pow_succ, Nat.mul_comm]
        have h10 : 10 ≤ 10 ^ e := by
          have : 10 ^ 1 ≤ 10 ^ e := Nat.pow_le_pow_right (by decide) h1
          simpa using this
        omega
      · exact hq
    omega
/-- What was parsed: printed it is hardly shorter, and the same if as long. -/
theorem prs_back (b : Bs) (p : Nat) (acc m : List Pr) (hp : p ≤ b.length) (h : prs b p acc = (m, 0, 0)) : ∃ q, m = acc ++ q ∧ (∀ x ∈ q, canP x = true ∧ lng x ≠ 0) ∧ (prt q).length ≤ b.length - p ∧ b.length - p ≤ (prt q).length + q.length ∧ ((prt q).length = b.length - p → prt q = b.drop p) := by
  induction hk : b.length - p using Nat.strongRecOn generalizing p acc m with
  | _ k ih =>
    by_cases hlt : p < b.length
    · cases hr : rc1 (b.drop p) with
      | bad n e =>
        rw [prs_bad b p acc hlt n e hr] at h
        have := rc1_bad hr
        injection h with _ h
        injection h with _ h
        omega
      | ok x n =>
        rw [prs_ok b p acc hlt x n hr] at h
        have h5 := rc1_ok hr
        rw [List.length_drop] at h5
        obtain ⟨r, i1, i2, i3⟩ := rc1_inv hr
        obtain ⟨l1, l2, l3⟩ := lng_right x n i2 i3
        obtain ⟨q, j1, j2, j3, j4, j5⟩ := ih (b.length - (p + n)) (by omega) (p + n) (acc ++ [x]) m (by omega) h rfl
        have hL := rec1_len x l1
        refine ⟨x :: q, by rw [j1]; simp, ?_, ?_, ?_, ?_⟩
        · intro y hy
          rcases List.mem_cons.1 hy with rfl | hy
          · exact ⟨h5.2.2.2.2, l1⟩
          · exact j2 y hy
        · rw [prt, List.length_append, hL]; omega
        · rw [prt, List.length_append, hL, List.length_cons]; omega
        · intro he
          rw [prt, List.length_append, hL] at he
          have hn : lng x = n := by omega
          have e5 := j5 (by omega)
          rw [prt, e5, ← List.drop_drop]
          have hdn : (b.drop p).take n = rec1 x := by
            have e0 : b.drop p = (dec n ++ 32#8 :: (x.1 ++ 61#8 :: (x.2 ++ [10#8]))) ++ r := by rw [i1]; simp
            rw [e0, rec1, hn]
            apply List.take_left'
            simp only [List.length_append, List.length_cons, List.length_nil, dec_len]
            omega
          rw [← hdn]
          exact List.take_append_drop n _
    · rw [prs_end b p acc hlt] at h
      injection h with h _
      exact ⟨[], by rw [h]; simp, by simp, by simp [prt], by simp [prt]; omega, fun _ => by
        rw [List.drop_eq_nil_of_le (by omega)]; rfl⟩
/-- Behind others: the length's digits are looked at alone. -/
theorem la_more (i n : Nat) (b r : Bs) (h : (la i n b).2.2 = 0) : la i n (b ++ r) = la i n b := by
  induction b generalizing i n with
  | nil => simp [la] at h
  | cons c t ih =>
    rw [List.cons_append]
    rw [la] at h
    rw [la, la]
    split at h
    · rename_i h1
      rw [if_pos h1, if_pos h1]
    · rename_i h1
      rw [if_neg h1, if_neg h1]
      split at h
      · rename_i h2
        rw [if_pos h2, if_pos h2]
      · rename_i h2
        rw [if_neg h2, if_neg h2]
        exact ih _ _ h
theorem rc1_more (b r : Bs) (x : Pr) (n : Nat) (h : rc1 b = .ok x n) : rc1 (b ++ r) = .ok x n := by
  have h' := h
  unfold rc1 at h
  split at h
  · cases h
  split at h
  · cases h
  split at h
  · cases h
  split at h
  · cases h
  rename_i h1 h2 h3 h4
  have hg := la_good b (by omega)
  have hm := la_more 0 0 b r (by omega)
  unfold rc1
  rw [hm, if_neg h1, if_neg h2, if_neg (by rw [List.length_append]; omega)]
  rw [List.getElem?_append_left (by omega), if_neg h4, List.take_append_of_le_length (by omega)]
  exact h
theorem prs_app (a b : Bs) (p : Nat) (acc l : List Pr) (hp : p ≤ a.length) (h : prs a p acc = (l, 0, 0)) : prs (a ++ b) p acc = prs (a ++ b) a.length l := by
  induction hk : a.length - p using Nat.strongRecOn generalizing p acc with
  | _ k ih =>
    by_cases hlt : p < a.length
    · cases hr : rc1 (a.drop p) with
      | bad n e =>
        rw [prs_bad a p acc hlt n e hr] at h
        have := rc1_bad hr
        injection h with _ h
        injection h with _ h
        omega
      | ok x n =>
        rw [prs_ok a p acc hlt x n hr] at h
        have h5 := rc1_ok hr
        rw [List.length_drop] at h5
        rw [prs_ok (a ++ b) p acc (by rw [List.length_append]; omega) x n (by rw [List.drop_append_of_le_length (by omega)]; exact rc1_more _ _ _ _ hr)]
        exact ih (a.length - (p + n)) (by omega) (p + n) (acc ++ [x]) (by omega) h rfl
    · rw [prs_end a p acc hlt] at h
      injection h with h _
      obtain rfl : p = a.length := by omega
      rw [h]
/-- The others, behind: the places and the list shifted. -/
theorem prs_shift (a b : Bs) (p : Nat) (l acc : List Pr) : prs (a ++ b) (a.length + p) (l ++ acc) = if (prs b p acc).2.2 = 0 then (l ++ (prs b p acc).1, 0, 0) else ([], a.length + (prs b p acc).2.1, (prs b p acc).2.2) := by
  induction hk : b.length - p using Nat.strongRecOn generalizing p acc with
  | _ k ih =>
    by_cases hlt : p < b.length
    · have hd : (a ++ b).drop (a.length + p) = b.drop p := by rw [← List.drop_drop, List.drop_left]
      cases hr : rc1 (b.drop p) with
      | bad n e =>
        have := rc1_bad hr
        rw [prs_bad b p acc hlt n e hr, prs_bad (a ++ b) (a.length + p) (l ++ acc) (by rw [List.length_append]; omega) n e (by rw [hd]; exact hr)]
        rw [if_neg (by simp only; omega), Nat.add_assoc]
      | ok x n =>
        have h5 := rc1_ok hr
        rw [List.length_drop] at h5
        rw [prs_ok b p acc hlt x n hr, prs_ok (a ++ b) (a.length + p) (l ++ acc) (by rw [List.length_append]; omega) x n (by rw [hd]; exact hr), Nat.add_assoc, List.append_assoc]
        exact ih (b.length - (p + n)) (by omega) (p + n) (acc ++ [x]) rfl
    · rw [prs_end b p acc hlt, prs_end (a ++ b) (a.length + p) (l ++ acc) (by rw [List.length_append]; omega)]
      simp
end Go.Proofs.YtenkchhlaphocaaGreatDoor

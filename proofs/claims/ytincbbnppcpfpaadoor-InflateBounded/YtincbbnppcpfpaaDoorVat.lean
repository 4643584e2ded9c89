import Derived.Test.YtincbbnppcpfpaaDoorVar
namespace Go.Proofs.YtincbbnppcpfpaaDoor
open Go.RowKit
set_option linter.unusedVariables false
/-! ### The document as Lean functions: bits that are read -/
/-- Bits from here on: how many, and their number. -/
structure Bt where
  n : Nat
  x : Nat
/-- More bits behind. -/
def Bt.app (t y : Bt) : Bt := ⟨t.n + y.n, t.x + 2 ^ t.n * y.x⟩
/-- No bits beyond the end. -/
def Bt.Ok (t : Bt) : Prop := t.x < 2 ^ t.n
/-- Whole bytes. -/
def Bt.Y (t : Bt) : Prop := t.n % 8 = 0 ∧ t.Ok
inductive Rz (α : Type) where
  | ok : α → Rz α
  | bad : Nat → Rz α
abbrev Rdr (α : Type) := Bt → Rz (α × Bt)
def retR {α : Type} (a : α) : Rdr α := fun t => .ok (a, t)
def failR {α : Type} (e : Nat) : Rdr α := fun _ => .bad e
def bindR {α β : Type} (f : Rdr α) (g : α → Rdr β) : Rdr β := fun t => match f t with
  | .ok (a, t') => g a t'
  | .bad e => .bad e
def takeR (k : Nat) : Rdr Nat := fun t => if t.n < k then .bad 4 else .ok (t.x % 2 ^ k, ⟨t.n - k, t.x / 2 ^ k⟩)
def alignR : Rdr Unit := fun t => .ok ((), ⟨t.n - t.n % 8, t.x / 2 ^ (t.n % 8)⟩)

open Classical in
/-- A word of a code. -/
noncomputable def symR (ls : List Nat) : Rdr Nat := fun t => if h : Cod ls ∧ ∃ i, Hits ls (rev 15 t.x) i then
    (if t.n < ls.getD (Classical.choose h.2) 0 then .bad 4 else .ok (Classical.choose h.2, ⟨t.n - ls.getD (Classical.choose h.2) 0, t.x / 2 ^ ls.getD (Classical.choose h.2) 0⟩)) else .bad 63
theorem symR_hit {ls : List Nat} {t : Bt} (hk : Cod ls) {i : Nat} (h : Hits ls (rev 15 t.x) i) : symR ls t = if t.n < ls.getD i 0 then .bad 4 else .ok (i, ⟨t.n - ls.getD i 0, t.x / 2 ^ ls.getD i 0⟩) := by
  have hx : Cod ls ∧ ∃ i, Hits ls (rev 15 t.x) i := ⟨hk, i, h⟩
  unfold symR
  rw [dif_pos hx, hk.hits_uniq (Classical.choose_spec hx.2) h]
theorem symR_none {ls : List Nat} {t : Bt} (h : ∀ i, Cod ls → ¬ Hits ls (rev 15 t.x) i) : symR ls t = .bad 63 := by
  unfold symR
  rw [dif_neg]
  rintro ⟨hk, i, hi⟩
  exact h i hk hi
/-- What holds of all that reads: it hangs on the bits that it reads alone. -/
structure Loc {α : Type} (f : Rdr α) : Prop where
  ok : ∀ t a t', t.Ok → f t = .ok (a, t') → t'.n ≤ t.n ∧ t'.Ok ∧ ∀ y, y.Y → f (t.app y) = .ok (a, t'.app y)
  bad : ∀ t e, t.Ok → f t = .bad e → e ≠ 4 → ∀ y, y.Y → f (t.app y) = .bad e
  short : ∀ t, t.Ok → f t = .bad 4 → ∀ y a t', y.Y → f (t.app y) = .ok (a, t') → t'.n < y.n
theorem Loc.ret {α : Type} (a : α) : Loc (retR a) := by
  refine ⟨fun t b t' ht h => ?_, fun t e ht h => ?_, fun t ht h => ?_⟩
  · simp only [retR, Rz.ok.injEq, Prod.mk.injEq] at h
    obtain ⟨rfl, rfl⟩ := h
    exact ⟨Nat.le_refl _, ht, fun _ _ => rfl⟩
  · simp [retR] at h
  · simp [retR] at h
theorem Loc.fail {α : Type} (e : Nat) (he : e ≠ 4) : Loc (failR e : Rdr α) := by
  refine ⟨fun t b t' ht h => ?_, fun t e ht h => ?_, fun t ht h => ?_⟩
  · simp [failR] at h
  · intro _ y _; exact h
  · simp [failR, he] at h
theorem Bt.app_ok {t y : Bt} (h : t.Ok) (k : y.Ok) : (t.app y).Ok := by
  unfold Bt.Ok Bt.app at *
  simp only
  rw [Nat.pow_add]
  have : 2 ^ t.n * y.x + 2 ^ t.n ≤ 2 ^ t.n * 2 ^ y.n := by
    rw [← Nat.mul_succ]; exact Nat.mul_le_mul_left _ k
  omega
theorem Loc.bind {α β : Type} {f : Rdr α} {g : α → Rdr β} (hf : Loc f) (hg : ∀ a, Loc (g a)) : Loc (bindR f g) := by
  refine ⟨fun t b t' ht h => ?_, fun t e ht h he y hy => ?_, fun t ht h y b t' hy h2 => ?_⟩
  · unfold bindR at h
    cases hq : f t with
    | bad e => rw [hq] at h; simp at h
    | ok r =>
      obtain ⟨a, t1⟩ := r
      rw [hq] at h
      obtain ⟨k1, k2, k3⟩ := hf.ok t a t1 ht hq
      obtain ⟨l1, l2, l3⟩ := (hg a).ok t1 b t' k2 h
      refine ⟨by omega, l2, fun y hy => ?_⟩
      unfold bindR
      rw [k3 y hy]
      exact l3 y hy
  · unfold bindR at h ⊢
    cases hq : f t with
    | bad e' =>
      rw [hq] at h
      injection h with h
      subst h
      rw [hf.bad t e' ht hq he y hy]
    | ok r =>
      obtain ⟨a, t1⟩ := r
      rw [hq] at h
      obtain ⟨k1, k2, k3⟩ := hf.ok t a t1 ht hq
      rw [k3 y hy]
      exact (hg a).bad t1 e k2 h he y hy
  · unfold bindR at h h2
    cases hq : f t with
    | bad e' =>
      rw [hq] at h
      injection h with h
      subst h
      cases hq2 : f (t.app y) with
      | bad e => rw [hq2] at h2; simp at h2
      | ok r =>
        obtain ⟨a, t1⟩ := r
        rw [hq2] at h2
        have k := hf.short t ht hq y a t1 hy hq2
        have k2 := (hf.ok _ a t1 (Bt.app_ok ht hy.2) hq2).2.1
        have hle := ((hg a).ok t1 b t' k2 h2).1
        omega
    | ok r =>
      obtain ⟨a, t1⟩ := r
      rw [hq] at h
      obtain ⟨k1, k2, k3⟩ := hf.ok t a t1 ht hq
      rw [k3 y hy] at h2
      exact (hg a).short t1 k2 h y b t' hy h2
theorem Loc.ite {α : Type} {c : Prop} [Decidable c] {f g : Rdr α} (hf : c → Loc f) (hg : ¬ c → Loc g) : Loc (if c then f else g) := by
  by_cases h : c
  · rw [if_pos h]; exact hf h
  · rw [if_neg h]; exact hg h
theorem app_low {t y : Bt} {k : Nat} (h : k ≤ t.n) : (t.app y).x % 2 ^ k = t.x % 2 ^ k ∧ (t.app y).x / 2 ^ k = t.x / 2 ^ k + 2 ^ (t.n - k) * y.x := by
  have e : 2 ^ t.n = 2 ^ k * 2 ^ (t.n - k) := by rw [← Nat.pow_add]; congr 1; omega
  unfold Bt.app
  simp only
  rw [e, Nat.mul_assoc]
  exact ⟨Nat.add_mul_mod_self_left _ _ _, Nat.add_mul_div_left _ _ (Nat.pow_pos (by decide))⟩
theorem Bt.Ok.rest {t : Bt} (h : t.Ok) (k : Nat) (hk : k ≤ t.n) : (⟨t.n - k, t.x / 2 ^ k⟩ : Bt).Ok := by
  unfold Bt.Ok at *
  simp only
  rw [Nat.div_lt_iff_lt_mul (Nat.pow_pos (by decide)), ← Nat.pow_add]
  rw [show t.n - k + k = t.n by omega]; exact h
theorem rest_app {t y : Bt} {k : Nat} (h : k ≤ t.n) : (⟨(t.app y).n - k, (t.app y).x / 2 ^ k⟩ : Bt) = (⟨t.n - k, t.x / 2 ^ k⟩ : Bt).app y := by
  rw [(app_low h).2]
  unfold Bt.app
  simp only [Bt.mk.injEq, and_true]
  omega
theorem Loc.take (k : Nat) : Loc (takeR k) := by
  refine ⟨fun t b t' ht h => ?_, fun t e ht h he => ?_, fun t ht h y b t' hy h2 => ?_⟩
  · unfold takeR at h
    by_cases hn : t.n < k
    · rw [if_pos hn] at h; simp at h
    · rw [if_neg hn] at h
      simp only [Rz.ok.injEq, Prod.mk.injEq] at h
      obtain ⟨rfl, rfl⟩ := h
      refine ⟨by simp, ht.rest k (by omega), fun y hy => ?_⟩
      unfold takeR
      rw [if_neg (by simp only [Bt.app]; omega), rest_app (by omega), (app_low (by omega)).1]
  · unfold takeR at h
    by_cases hn : t.n < k
    · rw [if_pos hn] at h
      injection h with h
      exact absurd h.symm he
    · rw [if_neg hn] at h; simp at h
  · unfold takeR at h h2
    by_cases hn : t.n < k
    · by_cases hn2 : (t.app y).n < k
      · rw [if_pos hn2] at h2; simp at h2
      · rw [if_neg hn2] at h2
        simp only [Rz.ok.injEq, Prod.mk.injEq] at h2
        obtain ⟨rfl, rfl⟩ := h2
        simp only [Bt.app] at hn2 ⊢
        omega
    · rw [if_neg hn] at h; simp at h
theorem Loc.align : Loc alignR := by
  refine ⟨fun t b t' ht h => ?_, fun t e ht h he => ?_, fun t ht h y b t' hy h2 => ?_⟩
  · unfold alignR at h
    simp only [Rz.ok.injEq, Prod.mk.injEq] at h
    obtain ⟨_, rfl⟩ := h
    have hle : t.n % 8 ≤ t.n := Nat.mod_le _ _
    refine ⟨by simp, ht.rest _ hle, fun y hy => ?_⟩
    unfold alignR
    have e : (t.app y).n % 8 = t.n % 8 := by
      have := hy.1
      simp only [Bt.app]; omega
    rw [e, rest_app hle]
  · simp [alignR] at h
  · simp [alignR] at h
theorem past_all {ls : List Nat} {X : Nat} (h : ∀ i, ¬ Hits ls X i) (n : Nat) (hn : 1 ≤ n) (hn2 : n ≤ 16) : Past ls X n := by
  induction n with
  | zero => omega
  | succ n ih =>
    by_cases h0 : n = 0
    · subst h0; exact Past.start _ _
    · have hp := ih (by omega) (by omega)
      have hg := hp.ge (by omega) (by omega)
      apply hp.next
      by_cases hc : X / 2 ^ (15 - n) - nm ls n < ct ls n
      · obtain ⟨i, hi, _⟩ := hp.found (by omega) (by omega) hc
        exact absurd hi (h i)
      · omega
theorem hits_app {ls : List Nat} (hk : Cod ls) {t y : Bt} {i : Nat} (hi : i < ls.length) (h0 : ls.getD i 0 ≠ 0) (hn : ls.getD i 0 ≤ t.n) : Hits ls (rev 15 (t.app y).x) i ↔ Hits ls (rev 15 t.x) i := by
  rw [hits_iff hk _ i hi h0, hits_iff hk _ i hi h0, (app_low hn).1]
theorem Loc.sym (ls : List Nat) : Loc (symR ls) := by
  refine ⟨fun t b t' ht h => ?_, fun t e ht h he y hy => ?_, fun t ht h y b t' hy h2 => ?_⟩
  · by_cases hx : Cod ls ∧ ∃ i, Hits ls (rev 15 t.x) i
    · obtain ⟨hk, i, hi⟩ := hx
      rw [symR_hit hk hi] at h
      by_cases hn : t.n < ls.getD i 0
      · rw [if_pos hn] at h; simp at h
      · rw [if_neg hn] at h
        simp only [Rz.ok.injEq, Prod.mk.injEq] at h
        obtain ⟨rfl, rfl⟩ := h
        refine ⟨by simp, ht.rest _ (by omega), fun y hy => ?_⟩
        rw [symR_hit hk ((hits_app hk hi.1 hi.2.1 (by omega)).2 hi), if_neg (by simp only [Bt.app]; omega), rest_app (by omega)]
    · rw [symR_none (fun i hk hi => hx ⟨hk, i, hi⟩)] at h; simp at h
  · by_cases hx : Cod ls ∧ ∃ i, Hits ls (rev 15 t.x) i
    · obtain ⟨hk, i, hi⟩ := hx
      rw [symR_hit hk hi] at h
      by_cases hn : t.n < ls.getD i 0
      · rw [if_pos hn] at h
        injection h with h
        exact absurd h.symm he
      · rw [if_neg hn] at h; simp at h
    · rw [symR_none (fun i hk hi => hx ⟨hk, i, hi⟩)] at h
      rw [← h]
      apply symR_none
      intro i hk hi
      have hno : ∀ i, ¬ Hits ls (rev 15 t.x) i := fun i hi => hx ⟨hk, i, hi⟩
      by_cases hn : ls.getD i 0 ≤ t.n
      · exact hno i ((hits_app hk hi.1 hi.2.1 hn).1 hi)
      · have hp := past_all hno 16 (by decide) (by decide)
        refine hp.no_short hk ht i hi.1 hi.2.1 (by omega) ?_
        have h1 := (hits_iff hk _ i hi.1 hi.2.1).1 hi
        rw [← h1]
        have h2 : (t.app y).x % 2 ^ ls.getD i 0 % 2 ^ t.n = (t.app y).x % 2 ^ t.n := Nat.mod_mod_of_dvd _ (Nat.pow_dvd_pow _ (by omega))
        rw [h2, (app_low (Nat.le_refl _)).1, Nat.mod_eq_of_lt ht]
  · by_cases hx : Cod ls ∧ ∃ i, Hits ls (rev 15 t.x) i
    · obtain ⟨hk, i, hi⟩ := hx
      rw [symR_hit hk hi] at h
      by_cases hn : t.n < ls.getD i 0
      · by_cases hx2 : ∃ j, Hits ls (rev 15 (t.app y).x) j
        · obtain ⟨j, hj⟩ := hx2
          rw [symR_hit hk hj] at h2
          by_cases hn2 : (t.app y).n < ls.getD j 0
          · rw [if_pos hn2] at h2; simp at h2
          · rw [if_neg hn2] at h2
            simp only [Rz.ok.injEq, Prod.mk.injEq] at h2
            obtain ⟨rfl, rfl⟩ := h2
            have hlt : t.n < ls.getD j 0 := by
              by_cases hc : ls.getD j 0 ≤ t.n
              · have := hk.hits_uniq ((hits_app hk hj.1 hj.2.1 hc).1 hj) hi
                subst this; omega
              · omega
            simp only [Bt.app] at hn2 ⊢
            omega
        · rw [symR_none (fun i _ hi => hx2 ⟨i, hi⟩)] at h2; simp at h2
      · rw [if_neg hn] at h; simp at h
    · rw [symR_none (fun i hk hi => hx ⟨hk, i, hi⟩)] at h; simp at h
end Go.Proofs.YtincbbnppcpfpaaDoor

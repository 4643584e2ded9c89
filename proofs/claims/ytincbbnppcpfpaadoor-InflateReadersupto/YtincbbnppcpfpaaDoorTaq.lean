import Derived.Test.YtincbbnppcpfpaaDoorTao
namespace Go.Proofs.YtincbbnppcpfpaaDoor
open Go.RowKit
set_option linter.unusedVariables false
/-! ### The document as Lean functions: bits that are read -/
/-- Bits from here on: how many, and their number. -/
structure Bt where
  n : Nat
  x : Nat
/-- More bits behind. -/
def Bt.app (t y : Bt) : Bt := ⟨t.n + y.n, t.x + 2 ^ t.n * y.x⟩
/-- No bits beyond the end. -/
def Bt.Ok (t : Bt) : Prop := t.x < 2 ^ t.n
/-- Whole bytes. -/
def Bt.Y (t : Bt) : Prop := t.n % 8 = 0 ∧ t.Ok
inductive Rz (α : Type) where
  | ok : α → Rz α
  | bad : Nat → Rz α
abbrev Rdr (α : Type) := Bt → Rz (α × Bt)
def retR {α : Type} (a : α) : Rdr α := fun t => .ok (a, t)
def failR {α : Type} (e : Nat) : Rdr α := fun _ => .bad e
def bindR {α β : Type} (f : Rdr α) (g : α → Rdr β) : Rdr β := fun t => match f t with
  | .ok (a, t') => g a t'
  | .bad e => .bad e
def takeR (k : Nat) : Rdr Nat := fun t => if t.n < k then .bad 4 else .ok (t.x % 2 ^ k, ⟨t.n - k, t.x / 2 ^ k⟩)
def alignR : Rdr Unit := fun t => .ok ((), ⟨t.n - t.n % 8, t.x / 2 ^ (t.n % 8)⟩)

open Classical in
/-- A word of a code. -/
noncomputable def symR (ls : List Nat) : Rdr Nat := fun t => if h : Cod ls ∧ ∃ i, Hits ls (rev 15 t.x) i then
    (if t.n < ls.getD (Classical.choose h.2) 0 then .bad 4 else .ok (Classical.choose h.2, ⟨t.n - ls.getD (Classical.choose h.2) 0, t.x / 2 ^ ls.getD (Classical.choose h.2) 0⟩)) else .bad 63
theorem symR_hit {ls : List Nat} {t : Bt} (hk : Cod ls) {i : Nat} (h : Hits ls (rev 15 t.x) i) : symR ls t = if t.n < ls.getD i 0 then .bad 4 else .ok (i, ⟨t.n - ls.getD i 0, t.x / 2 ^ ls.getD i 0⟩) := by
  have hx : Cod ls ∧ ∃ i, Hits ls (rev 15 t.x) i := ⟨hk, i, h⟩
  unfold symR
  rw [dif_pos hx, hk.hits_uniq (Classical.choose_spec hx.2) h]
theorem symR_none {ls : List Nat} {t : Bt} (h : ∀ i, Cod ls → ¬ Hits ls (rev 15 t.x) i) : symR ls t = .bad 63 := by
  unfold symR
  rw [dif_neg]
  rintro ⟨hk, i, hi⟩
  exact h i hk hi
/-- What holds of all that reads: it hangs on the bits that it reads alone. -/
structure Loc {α : Type} (f : Rdr α) : Prop where
  ok : ∀ t a t', t.Ok → f t = .ok (a, t') → t'.n ≤ t.n ∧ t'.Ok ∧ ∀ y, y.Y → f (t.app y) = .ok (a, t'.app y)
  bad : ∀ t e, t.Ok → f t = .bad e → e ≠ 4 → ∀ y, y.Y → f (t.app y) = .bad e
  short : ∀ t, t.Ok → f t = .bad 4 → ∀ y a t', y.Y → f (t.app y) = .ok (a, t') → t'.n < y.n
theorem Loc.ret {α : Type} (a : α) : Loc (retR a) := by
  refine ⟨fun t b t' ht h => ?_, fun t e ht h => ?_, fun t ht h => ?_⟩
  · simp only [retR, Rz.ok.injEq, Prod.mk.injEq] at h
    obtain ⟨rfl, rfl⟩ := h
    exact ⟨Nat.le_refl _, ht, fun _ _ => rfl⟩
  · simp [retR] at h
  · simp [retR] at h
theorem Loc.fail {α : Type} (e : Nat) (he : e ≠ 4) : Loc (failR e : Rdr α) := by
  refine ⟨fun t b t' ht h => ?_, fun t e ht h => ?_, fun t ht h => ?_⟩
  · simp [failR] at h
  · intro _ y _; exact h
  · simp [failR, he] at h
theorem Bt.app_ok {t y : Bt} (h : t.Ok) (k : y.Ok) : (t.app y).Ok := by
  unfold Bt.Ok Bt.app at *
  simp only
  rw [Nat.pow_add]
  have : 2 ^ t.n * y.x + 2 ^ t.n ≤ 2 ^ t.n * 2 ^ y.n := by
    rw [← Nat.mul_succ]; exact Nat.mul_le_mul_left _ k
  omega
theorem Loc.bind {α β : Type} {f : Rdr α} {g : α → Rdr β} (hf : Loc f) (hg : ∀ a, Loc (g a)) : Loc (bindR f g) := by
  refine ⟨fun t b t' ht h => ?_, fun t e ht h he y hy => ?_, fun t ht h y b t' hy h2 => ?_⟩
  · unfold bindR at h
    cases hq : f t with
    | bad e => rw [hq] at h; simp at h
    | ok r =>
      obtain ⟨a, t1⟩ := r
      rw [hq] at h
      obtain ⟨k1, k2, k3⟩ := hf.ok t a t1 ht hq
      obtain ⟨l1, l2, l3⟩ := (hg a).ok t1 b t' k2 h
      refine ⟨by omega, l2, fun y hy => ?_⟩
      unfold bindR
      rw [k3 y hy]
      exact l3 y hy
  · unfold bindR at h ⊢
    cases hq : f t with
    | bad e' =>
      rw [hq] at h
      injection h with h
      subst h
      rw [hf.bad t e' ht hq he y hy]
    | ok r =>
      obtain ⟨a, t1⟩ := r
      rw [hq] at h
      obtain ⟨k1, k2, k3⟩ := hf.ok t a t1 ht hq
      rw [k3 y hy]
      exact (hg a).bad t1 e k2 h he y hy
  · unfold bindR at h h2
    cases hq : f t with
    | bad e' =>
      rw [hq] at h
      injection h with h
      subst h
      cases hq2 : f (t.app y) with
      | bad e => rw [hq2] at h2; simp at h2
      | ok r =>
        obtain ⟨a, t1⟩ := r
        rw [hq2] at h2
        have k := hf.short t ht hq y a t1 hy hq2
        have k2 := (hf.ok _ a t1 (Bt.app_ok ht hy.2) hq2).2.1
        have hle := ((hg a).ok t1 b t' k2 h2).1
        omega
    | ok r =>
      obtain ⟨a, t1⟩ := r
      rw [hq] at h
      obtain ⟨k1, k2, k3⟩ := hf.ok t a t1 ht hq
      rw [k3 y hy] at h2
      exact (hg a).short t1 k2 h y b t' hy h2
theorem Loc.ite {α : Type} {c : Prop} [Decidable c] {f g : Rdr α} (hf : c → Loc f) (hg : ¬ c → Loc g) : Loc (if c then f else g) := by
  by_cases h : c
  · rw [if_pos h]; exact hf h
  · rw [if_neg h]; exact hg h
theorem app_low {t y : Bt} {k : Nat} (h : k ≤ t.n) : (t.app y).x % 2 ^ k = t.x % 2 ^ k ∧ (t.app y).x / 2 ^ k = t.x / 2 ^ k + 2 ^ (t.n - k) * y.x := by
  have e : 2 ^ t.n = 2 ^ k * 2 ^ (t.n - k) := by rw [← Nat.pow_add]; congr 1; omega
  unfold Bt.app
  simp only
  rw [e, Nat.mul_assoc]
  exact ⟨Nat.add_mul_mod_self_left _ _ _, Nat.add_mul_div_left _ _ (Nat.pow_pos (by decide))⟩
theorem Bt.Ok.rest {t : Bt} (h : t.Ok) (k : Nat) (hk : k ≤ t.n) : (⟨t.n - k, t.x / 2 ^ k⟩ : Bt).Ok := by
  unfold Bt.Ok at *
  simp only
  rw [Nat.div_lt_iff_lt_mul (Nat.pow_pos (by decide)), ← Nat.pow_add]
  rw [show t.n - k + k = t.n by omega]; exact h
theorem rest_app {t y : Bt} {k : Nat} (h : k ≤ t.n) : (⟨(t.app y).n - k, (t.app y).x / 2 ^ k⟩ : Bt) = (⟨t.n - k, t.x / 2 ^ k⟩ : Bt).app y := by
  rw [(app_low h).2]
  unfold Bt.app
  simp only [Bt.mk.injEq, and_true]
  omega
theorem Loc.take (k : Nat) : Loc (takeR k) := by
  refine ⟨fun t b t' ht h => ?_, fun t e ht h he => ?_, fun t ht h y b t' hy h2 => ?_⟩
  · unfold takeR at h
    by_cases hn : t.n < k
    · rw [if_pos hn] at h; simp at h
    · rw [if_neg hn] at h
      simp only [Rz.ok.injEq, Prod.mk.injEq] at h
      obtain ⟨rfl, rfl⟩ := h
      refine ⟨by simp, ht.rest k (by omega), fun y hy => ?_⟩
      unfold takeR
      rw [if_neg (by simp only [Bt.app]; omega), rest_app (by omega), (app_low (by omega)).1]
  · unfold takeR at h
    by_cases hn : t.n < k
    · rw [if_pos hn] at h
      injection h with h
      exact absurd h.symm he
    · rw [if_neg hn] at h; simp at h
  · unfold takeR at h h2
    by_cases hn : t.n < k
    · by_cases hn2 : (t.app y).n < k
      · rw [if_pos hn2] at h2; simp at h2
      · rw [if_neg hn2] at h2
        simp only [Rz.ok.injEq, Prod.mk.injEq] at h2
        obtain ⟨rfl, rfl⟩ := h2
        simp only [Bt.app] at hn2 ⊢
        omega
    · rw [if_neg hn] at h; simp at h
theorem Loc.align : Loc alignR := by
  refine ⟨fun t b t' ht h => ?_, fun t e ht h he => ?_, fun t ht h y b t' hy h2 => ?_⟩
  · unfold alignR at h
    simp only [Rz.ok.injEq, Prod.mk.injEq] at h
    obtain ⟨_, rfl⟩ := h
    have hle : t.n % 8 ≤ t.n := Nat.mod_le _ _
    refine ⟨by simp, ht.rest _ hle, fun y hy => ?_⟩
    unfold alignR
    have e : (t.app y).n % 8 = t.n % 8 := by
      have := hy.1
      simp only [Bt.app]; omega
    rw [e, rest_app hle]
  · simp [alignR] at h
  · simp [alignR] at h
theorem past_all {ls : List Nat} {X : Nat} (h : ∀ i, ¬ Hits ls X i) (n : Nat) (hn : 1 ≤ n) (hn2 : n ≤ 16) : Past ls X n := by
  induction n with
  | zero => omega
  | succ n ih =>
    by_cases h0 : n = 0
    · subst h0; exact Past.start _ _
    · have hp := ih (by omega) (by omega)
      have hg := hp.ge (by omega) (by omega)
      apply hp.next
      by_cases hc : X / 2 ^ (15 - n) - nm ls n < ct ls n
      · obtain ⟨i, hi, _⟩ := hp.found (by omega) (by omega) hc
        exact absurd hi (h i)
      · omega
theorem hits_app {ls : List Nat} (hk : Cod ls) {t y : Bt} {i : Nat} (hi : i < ls.length) (h0 : ls.getD i 0 ≠ 0) (hn : ls.getD i 0 ≤ t.n) : Hits ls (rev 15 (t.app y).x) i ↔ Hits ls (rev 15 t.x) i := by
  rw [hits_iff hk _ i hi h0, hits_iff hk _ i hi h0, (app_low hn).1]
theorem Loc.sym (ls : List Nat) : Loc (symR ls) := by
  refine ⟨fun t b t' ht h => ?_, fun t e ht h he y hy => ?_, fun t ht h y b t' hy h2 => ?_⟩
  · by_cases hx : Cod ls ∧ ∃ i, Hits ls (rev 15 t.x) i
    · obtain ⟨hk, i, hi⟩ := hx
      rw [symR_hit hk hi] at h
      by_cases hn : t.n < ls.getD i 0
      · rw [if_pos hn] at h; simp at h
      · rw [if_neg hn] at h
        simp only [Rz.ok.injEq, Prod.mk.injEq] at h
        obtain ⟨rfl, rfl⟩ := h
        refine ⟨by simp, ht.rest _ (by omega), fun y hy => ?_⟩
        rw [symR_hit hk ((hits_app hk hi.1 hi.2.1 (by omega)).2 hi), if_neg (by simp only [Bt.app]; omega), rest_app (by omega)]
    · rw [symR_none (fun i hk hi => hx ⟨hk, i, hi⟩)] at h; simp at h
  · by_cases hx : Cod ls ∧ ∃ i, Hits ls (rev 15 t.x) i
    · obtain ⟨hk, i, hi⟩ := hx
      rw [symR_hit hk hi] at h
      by_cases hn : t.n < ls.getD i 0
      · rw [if_pos hn] at h
        injection h with h
        exact absurd h.symm he
      · rw [if_neg hn] at h; simp at h
    · rw [symR_none (fun i hk hi => hx ⟨hk, i, hi⟩)] at h
      rw [← h]
      apply symR_none
      intro i hk hi
      have hno : ∀ i, ¬ Hits ls (rev 15 t.x) i := fun i hi => hx ⟨hk, i, hi⟩
      by_cases hn : ls.getD i 0 ≤ t.n
      · exact hno i ((hits_app hk hi.1 hi.2.1 hn).1 hi)
      · have hp := past_all hno 16 (by decide) (by decide)
        refine hp.no_short hk ht i hi.1 hi.2.1 (by omega) ?_
        have h1 := (hits_iff hk _ i hi.1 hi.2.1).1 hi
        rw [← h1]
        have h2 : (t.app y).x % 2 ^ ls.getD i 0 % 2 ^ t.n = (t.app y).x % 2 ^ t.n := Nat.mod_mod_of_dvd _ (Nat.pow_dvd_pow _ (by omega))
        rw [h2, (app_low (Nat.le_refl _)).1, Nat.mod_eq_of_lt ht]
  · by_cases hx : Cod ls ∧ ∃ i, Hits ls (rev 15 t.x) i
    · obtain ⟨hk, i, hi⟩ := hx
      rw [symR_hit hk hi] at h
      by_cases hn : t.n < ls.getD i 0
      · by_cases hx2 : ∃ j, Hits ls (rev 15 (t.app y).x) j
        · obtain ⟨j, hj⟩ := hx2
          rw [symR_hit hk hj] at h2
          by_cases hn2 : (t.app y).n < ls.getD j 0
          · rw [if_pos hn2] at h2; simp at h2
          · rw [if_neg hn2] at h2
            simp only [Rz.ok.injEq, Prod.mk.injEq] at h2
            obtain ⟨rfl, rfl⟩ := h2
            have hlt : t.n < ls.getD j 0 := by
              by_cases hc : ls.getD j 0 ≤ t.n
              · have := hk.hits_uniq ((hits_app hk hj.1 hj.2.1 hc).1 hj) hi
                subst this; omega
              · omega
            simp only [Bt.app] at hn2 ⊢
            omega
        · rw [symR_none (fun i _ hi => hx2 ⟨i, hi⟩)] at h2; simp at h2
      · rw [if_neg hn] at h; simp at h
    · rw [symR_none (fun i hk hi => hx ⟨hk, i, hi⟩)] at h; simp at h
end Go.Proofs.YtincbbnppcpfpaaDoor

namespace Go.Proofs.YtincbbnppcpfpaaDoor
open Go.RowKit
set_option linter.unusedVariables false
/-! ### The document as Lean functions: a stream -/
structure Sx where
  md : Nat
  lst : Bool
  sto : Nat
  la : List Nat
  lb : List Nat
  out : List By
/-- The block's end. -/
def endB (s : Sx) : Rdr Sx := if s.lst = true then bindR alignR (fun _ => retR { s with md := 3 }) else retR { s with md := 0 }
def storedR (most : Nat) (s : Sx) : Rdr Sx := bindR alignR fun _ => bindR (takeR 16) fun n => bindR (takeR 16) fun m =>
  if n + m ≠ 65535 then failR 61 else if most - s.out.length < n then failR 32 else if n = 0 then endB { s with md := 1, sto := 0 } else retR { s with md := 1, sto := n }
def byteR (s : Sx) : Rdr Sx := bindR (takeR 8) fun v =>
  if s.sto ≤ 1 then endB { s with sto := 0, out := s.out ++ [BitVec.ofNat 8 v] } else retR { s with sto := s.sto - 1, out := s.out ++ [BitVec.ofNat 8 v] }
/-- Further bits. -/
def furR (y g : Nat) : Rdr Nat := if y < g then retR y else bindR (takeR (y / g - 1)) fun v => retR ((g + y % g) * 2 ^ (y / g - 1) + v)
def lenR (y : Nat) : Rdr Nat := if y = 285 then retR 258 else bindR (furR (y - 257) 4) fun v => retR (3 + v)
noncomputable def distR (lb : List Nat) : Rdr Nat := bindR (symR lb) fun d => if 29 < d then failR 63 else bindR (furR d 2) fun v => retR (1 + v)
def copyN (d : Nat) : Nat → List By → List By
  | 0, out => out
  | n + 1, out => copyN d n (out ++ [out.getD (out.length - d) 0#8])
noncomputable def symbolR (most : Nat) (s : Sx) : Rdr Sx := bindR (symR s.la) fun y =>
  if y < 256 then (if most - s.out.length < 1 then failR 32 else retR { s with out := s.out ++ [BitVec.ofNat 8 y] })
  else if y = 256 then endB s
  else if y ≤ 285 then bindR (lenR y) fun n => bindR (distR s.lb) fun d => if s.out.length < d then failR 64 else if most - s.out.length < n then failR 32 else retR { s with out := copyN d n s.out }
  else failR 63
def ordL : List Nat := [16, 17, 18, 0, 8, 7, 9, 6, 10, 5, 11, 4, 12, 3, 13, 2, 14, 1, 15]
/-- k lengths of three bits, from the place i of the order on. -/
def smallR : Nat → Nat → List Nat → Rdr (List Nat)
  | _, 0, l => retR l
  | i, k + 1, l => bindR (takeR 3) fun v => smallR (i + 1) k (l.set (ordL.getD i 0) v)
def lastL (l : List Nat) : Nat := l.getD (l.length - 1) 0
noncomputable def lensR (sm : List Nat) (N : Nat) : Nat → List Nat → Rdr (List Nat)
  | 0, l => if N < l.length then failR 62 else retR l
  | k + 1, l => if l.length < N then bindR (symR sm) fun y =>
        if y = 16 then (if l.length = 0 then failR 62 else bindR (takeR 2) fun v => lensR sm N k (l ++ List.replicate (3 + v) (lastL l)))
        else if y = 17 then bindR (takeR 3) fun v => lensR sm N k (l ++ List.replicate (3 + v) 0)
        else if y = 18 then bindR (takeR 7) fun v => lensR sm N k (l ++ List.replicate (11 + v) 0)
        else lensR sm N k (l ++ [y])
      else if N < l.length then failR 62 else retR l
def sumL (l : List Nat) : Nat := l.foldr (· + ·) 0
/-- Lengths that a block may have. -/
def Good (ls : List Nat) : Prop := Cod ls ∧ (room ls = 32768 ∨ sumL ls = 1)
open Classical in
noncomputable def ownR : Rdr (List Nat × List Nat) := bindR (takeR 5) fun a => bindR (takeR 5) fun d => bindR (takeR 4) fun n =>
  if 286 < a + 257 ∨ 30 < d + 1 then failR 62 else
  bindR (smallR 0 (n + 4) (List.replicate 19 0)) fun sm => if ¬ (Cod sm ∧ room sm = 32768) then failR 62 else
  bindR (lensR sm (a + 257 + (d + 1)) (a + 257 + (d + 1)) []) fun l =>
  if l.getD 256 0 ≠ 0 ∧ Good (l.take (a + 257)) ∧ (sumL (l.drop (a + 257)) = 0 ∨ Good (l.drop (a + 257))) then retR (l.take (a + 257), l.drop (a + 257)) else failR 62
def fixA : List Nat := List.replicate 144 8 ++ List.replicate 112 9 ++ List.replicate 24 7 ++ List.replicate 8 8
def fixB : List Nat := List.replicate 32 5
noncomputable def headR (most : Nat) (s : Sx) : Rdr Sx := bindR (takeR 1) fun l => bindR (takeR 2) fun k =>
  if k = 0 then storedR most { s with lst := decide (l = 1) }
  else if k = 1 then retR { s with lst := decide (l = 1), md := 2, la := fixA, lb := fixB }
  else if k = 2 then bindR ownR fun c => retR { s with lst := decide (l = 1), md := 2, la := c.1, lb := c.2 }
  else failR 60
noncomputable def stepR (most : Nat) (s : Sx) : Rdr Sx := if s.md = 0 then headR most s else if s.md = 1 then byteR s else if s.md = 2 then symbolR most s else failR 99
/-! All that reads hangs on its bits alone. -/
theorem Loc.endB (s : Sx) : Loc (endB s) := .ite (fun _ => .bind .align fun _ => .ret _) (fun _ => .ret _)
theorem Loc.stored (most : Nat) (s : Sx) : Loc (storedR most s) := .bind .align fun _ => .bind (.take _) fun _ => .bind (.take _) fun _ => .ite (fun _ => .fail _ (by decide)) fun _ => .ite (fun _ => .fail _ (by decide)) fun _ => .ite (fun _ => .endB _) fun _ => .ret _
theorem Loc.byte (s : Sx) : Loc (byteR s) := .bind (.take _) fun _ => .ite (fun _ => .endB _) fun _ => .ret _
theorem Loc.fur (y g : Nat) : Loc (furR y g) := .ite (fun _ => .ret _) fun _ => .bind (.take _) fun _ => .ret _
theorem Loc.len (y : Nat) : Loc (lenR y) := .ite (fun _ => .ret _) fun _ => .bind (.fur _ _) fun _ => .ret _
theorem Loc.dist (lb : List Nat) : Loc (distR lb) := .bind (.sym _) fun _ => .ite (fun _ => .fail _ (by decide)) fun _ => .bind (.fur _ _) fun _ => .ret _
theorem Loc.symbol (most : Nat) (s : Sx) : Loc (symbolR most s) := .bind (.sym _) fun _ => .ite (fun _ => .ite (fun _ => .fail _ (by decide)) fun _ => .ret _) fun _ => .ite (fun _ => .endB _) fun _ => .ite (fun _ => .bind (.len _) fun _ => .bind (.dist _) fun _ => .ite (fun _ => .fail _ (by decide)) fun _ => .ite (fun _ => .fail _ (by decide)) fun _ => .ret _) fun _ => .fail _ (by decide)
theorem Loc.small (i k : Nat) (l : List Nat) : Loc (smallR i k l) := by
  induction k generalizing i l with
  | zero => exact .ret _
  | succ k ih => exact .bind (.take _) fun _ => ih _ _
theorem Loc.lens (sm : List Nat) (N k : Nat) (l : List Nat) : Loc (lensR sm N k l) := by
  induction k generalizing l with
  | zero => exact .ite (fun _ => .fail _ (by decide)) fun _ => .ret _
  | succ k ih => exact .ite (fun _ => .bind (.sym _) fun _ => .ite (fun _ => .ite (fun _ => .fail _ (by decide)) fun _ => .bind (.take _) fun _ => ih _) fun _ => .ite (fun _ => .bind (.take _) fun _ => ih _) fun _ => .ite (fun _ => .bind (.take _) fun _ => ih _) fun _ => ih _) fun _ => .ite (fun _ => .fail _ (by decide)) fun _ => .ret _
open Classical in
theorem Loc.own : Loc ownR := .bind (.take _) fun _ => .bind (.take _) fun _ => .bind (.take _) fun _ => .ite (fun _ => .fail _ (by decide)) fun _ => .bind (.small _ _ _) fun _ => .ite (fun _ => .fail _ (by decide)) fun _ => .bind (.lens _ _ _ _) fun _ => .ite (fun _ => .ret _) fun _ => .fail _ (by decide)
theorem Loc.head (most : Nat) (s : Sx) : Loc (headR most s) := .bind (.take _) fun _ => .bind (.take _) fun _ => .ite (fun _ => .stored _ _) fun _ => .ite (fun _ => .ret _) fun _ => .ite (fun _ => .bind .own fun _ => .ret _) fun _ => .fail _ (by decide)
theorem Loc.step (most : Nat) (s : Sx) : Loc (stepR most s) := .ite (fun _ => .head _ _) fun _ => .ite (fun _ => .byte _) fun _ => .ite (fun _ => .symbol _ _) fun _ => .fail _ (by decide)
/-! What is read becomes less. -/
/-- At least m bits are read. -/
def Dec {α : Type} (m : Nat) (f : Rdr α) : Prop := ∀ t a t', f t = .ok (a, t') → t'.n + m ≤ t.n
theorem bindR_ok {α β : Type} {f : Rdr α} {g : α → Rdr β} {t t' : Bt} {b : β} (h : bindR f g t = .ok (b, t')) : ∃ a t1, f t = .ok (a, t1) ∧ g a t1 = .ok (b, t') := by
  unfold bindR at h
  cases hq : f t with
  | bad e => rw [hq] at h; simp at h
  | ok r => rw [hq] at h; exact ⟨r.1, r.2, rfl, h⟩
theorem bindR_eq {α β : Type} {f : Rdr α} {g : α → Rdr β} {t t1 : Bt} {a : α} (h : f t = .ok (a, t1)) : bindR f g t = g a t1 := by unfold bindR; rw [h]
theorem bindR_bad {α β : Type} {f : Rdr α} {g : α → Rdr β} {t : Bt} {e : Nat} (h : f t = .bad e) : bindR f g t = .bad e := by unfold bindR; rw [h]
theorem Dec.bind {α β : Type} {f : Rdr α} {g : α → Rdr β} {m k : Nat} (hf : Dec m f) (hg : ∀ a, Dec k (g a)) : Dec (m + k) (bindR f g) := fun t b t' h => by
  obtain ⟨a, t1, h1, h2⟩ := bindR_ok h
  have := hf _ _ _ h1
  have := hg _ _ _ _ h2
  omega
theorem Dec.ite {α : Type} {c : Prop} [Decidable c] {f g : Rdr α} {m : Nat} (hf : c → Dec m f) (hg : ¬ c → Dec m g) : Dec m (if c then f else g) := by
  by_cases h : c
  · rw [if_pos h]; exact hf h
  · rw [if_neg h]; exact hg h
theorem Dec.ret {α : Type} (a : α) : Dec 0 (retR a) := fun t b t' h => by
  simp only [retR, Rz.ok.injEq, Prod.mk.injEq] at h
  rw [h.2]; omega
theorem Dec.fail {α : Type} (e m : Nat) : Dec m (failR e : Rdr α) := fun t b t' h => by simp [failR] at h
theorem Dec.take (k : Nat) : Dec k (takeR k) := fun t b t' h => by
  unfold takeR at h
  by_cases hn : t.n < k
  · rw [if_pos hn] at h; simp at h
  · rw [if_neg hn] at h
    simp only [Rz.ok.injEq, Prod.mk.injEq] at h
    rw [← h.2]; simp only; omega
theorem Dec.sym (ls : List Nat) : Dec 1 (symR ls) := fun t b t' h => by
  by_cases hx : Cod ls ∧ ∃ i, Hits ls (rev 15 t.x) i
  · obtain ⟨hk, i, hi⟩ := hx
    rw [symR_hit hk hi] at h
    by_cases hn : t.n < ls.getD i 0
    · rw [if_pos hn] at h; simp at h
    · rw [if_neg hn] at h
      simp only [Rz.ok.injEq, Prod.mk.injEq] at h
      have := hi.2.1
      rw [← h.2]; simp only; omega
  · rw [symR_none (fun i hk hi => hx ⟨hk, i, hi⟩)] at h; simp at h
theorem Dec.mono {α : Type} {f : Rdr α} {m k : Nat} (h : Dec m f) (hk : k ≤ m) : Dec k f := fun t a t' e => by have := h t a t' e; omega
theorem Dec.align : Dec 0 alignR := fun t b t' h => by
  simp only [alignR, Rz.ok.injEq, Prod.mk.injEq] at h
  rw [← h.2]; simp
theorem Dec.endB (s : Sx) : Dec 0 (endB s) := .ite (fun _ => .bind .align fun _ => .ret _) (fun _ => .ret _)
theorem Dec.stored (most : Nat) (s : Sx) : Dec 0 (storedR most s) := (Dec.bind (k := 32) .align fun _ => Dec.bind (m := 16) (k := 16) (.take _) fun _ => Dec.bind (m := 16) (k := 0) (.take _) fun _ => .ite (fun _ => .fail _ _) fun _ => .ite (fun _ => .fail _ _) fun _ => .ite (fun _ => .endB _) fun _ => .ret _).mono (by omega)
theorem Dec.byte (s : Sx) : Dec 8 (byteR s) := .bind (k := 0) (.take _) fun _ => .ite (fun _ => .endB _) fun _ => .ret _
theorem Dec.fur (y g : Nat) : Dec 0 (furR y g) := .ite (fun _ => .ret _) fun _ => (Dec.bind (k := 0) (.take _) fun _ => .ret _).mono (by omega)
theorem Dec.len (y : Nat) : Dec 0 (lenR y) := .ite (fun _ => .ret _) fun _ => .bind (.fur _ _) fun _ => .ret _
theorem Dec.dist (lb : List Nat) : Dec 1 (distR lb) := .bind (k := 0) (.sym _) fun _ => .ite (fun _ => .fail _ _) fun _ => .bind (.fur _ _) fun _ => .ret _
theorem Dec.small (i k : Nat) (l : List Nat) : Dec 0 (smallR i k l) := by
  induction k generalizing i l with
  | zero => exact .ret _
  | succ k ih => exact (Dec.bind (k := 0) (.take _) fun _ => ih _ _).mono (by omega)
theorem Dec.lens (sm : List Nat) (N k : Nat) (l : List Nat) : Dec 0 (lensR sm N k l) := by
  induction k generalizing l with
  | zero => exact .ite (fun _ => .fail _ _) fun _ => .ret _
  | succ k ih => exact .ite (fun _ => (Dec.bind (k := 0) (.sym _) fun _ => .ite (fun _ => .ite (fun _ => .fail _ _) fun _ => (Dec.bind (k := 0) (.take _) fun _ => ih _).mono (by omega)) fun _ => .ite (fun _ => (Dec.bind (k := 0) (.take _) fun _ => ih _).mono (by omega)) fun _ => .ite (fun _ => (Dec.bind (k := 0) (.take _) fun _ => ih _).mono (by omega)) fun _ => ih _).mono (by omega)) fun _ => .ite (fun _ => .fail _ _) fun _ => .ret _
open Classical in
theorem Dec.own : Dec 0 ownR := (Dec.bind (k := 0) (.take _) fun _ => (Dec.bind (k := 0) (.take _) fun _ => (Dec.bind (k := 0) (.take _) fun _ => .ite (fun _ => .fail _ _) fun _ => .bind (.small _ _ _) fun _ => .ite (fun _ => .fail _ _) fun _ => .bind (.lens _ _ _ _) fun _ => .ite (fun _ => .ret _) fun _ => .fail _ _).mono (by omega)).mono (by omega)).mono (by omega)
theorem Dec.head (most : Nat) (s : Sx) : Dec 3 (headR most s) := .bind (m := 1) (k := 2) (.take _) fun _ => .bind (m := 2) (k := 0) (.take _) fun _ => .ite (fun _ => .stored _ _) fun _ => .ite (fun _ => .ret _) fun _ => .ite (fun _ => .bind .own fun _ => .ret _) fun _ => .fail _ _
theorem Dec.symbol (most : Nat) (s : Sx) : Dec 1 (symbolR most s) := .bind (k := 0) (.sym _) fun _ => .ite (fun _ => .ite (fun _ => .fail _ _) fun _ => .ret _) fun _ => .ite (fun _ => .endB _) fun _ => .ite (fun _ => Dec.bind (m := 0) (k := 0) (.len _) fun _ => (Dec.bind (m := 1) (k := 0) (.dist _) fun _ => .ite (fun _ => .fail _ _) fun _ => .ite (fun _ => .fail _ _) fun _ => .ret _).mono (by omega)) fun _ => .fail _ _
theorem Dec.step (most : Nat) (s : Sx) : Dec 1 (stepR most s) := .ite (fun _ => (Dec.head _ _).mono (by omega)) fun _ => .ite (fun _ => (Dec.byte _).mono (by omega)) fun _ => .ite (fun _ => .symbol _ _) fun _ => .fail _ _
/-- All steps up to the end or the first error. -/
noncomputable def run (most : Nat) (s : Sx) (t : Bt) : Sx × Bt × Nat :=
  if s.md = 3 then (s, t, 0) else match h : stepR most s t with
    | .bad e => (s, t, e)
    | .ok r => run most r.1 r.2
termination_by t.n
decreasing_by have := Dec.step most s t r.1 r.2 h; omega
theorem run_eq (most : Nat) (s : Sx) (t : Bt) : run most s t = if s.md = 3 then (s, t, 0) else match stepR most s t with
    | .bad e => (s, t, e)
    | .ok r => run most r.1 r.2 := by
  rw [run]
  split
  · rfl
  · split <;> simp_all
theorem run_end {most : Nat} {s : Sx} {t : Bt} (h : s.md = 3) : run most s t = (s, t, 0) := by rw [run_eq, if_pos h]
theorem run_bad {most : Nat} {s : Sx} {t : Bt} {e : Nat} (h : s.md ≠ 3) (hs : stepR most s t = .bad e) : run most s t = (s, t, e) := by rw [run_eq, if_neg h, hs]
theorem run_ok {most : Nat} {s s' : Sx} {t t' : Bt} (h : s.md ≠ 3) (hs : stepR most s t = .ok (s', t')) : run most s t = run most s' t' := by rw [run_eq, if_neg h, hs]
/-- What a run does: by steps. -/
theorem run_ind {most : Nat} {P : Sx → Bt → Sx × Bt × Nat → Prop} (h1 : ∀ s t, s.md = 3 → P s t (s, t, 0)) (h2 : ∀ s t e, s.md ≠ 3 → stepR most s t = .bad e → P s t (s, t, e)) (h3 : ∀ s t s' t', s.md ≠ 3 → stepR most s t = .ok (s', t') → P s' t' (run most s' t') → P s t (run most s t)) (s : Sx) (t : Bt) : P s t (run most s t) := by
  obtain ⟨n, hn⟩ : ∃ n, n = t.n := ⟨_, rfl⟩
  induction n using Nat.strongRecOn generalizing s t with
  | ind n ih =>
    by_cases hm : s.md = 3
    · rw [run_end hm]; exact h1 s t hm
    · cases hq : stepR most s t with
      | bad e => rw [run_bad hm hq]; exact h2 s t e hm hq
      | ok r =>
        obtain ⟨s', t'⟩ := r
        have := Dec.step most s t s' t' hq
        exact h3 s t s' t' hm hq (ih t'.n (by omega) s' t' rfl)
end Go.Proofs.YtincbbnppcpfpaaDoor

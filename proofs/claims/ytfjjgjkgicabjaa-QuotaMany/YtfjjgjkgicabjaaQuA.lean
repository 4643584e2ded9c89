import Derived.Test.YtfjjgjkgicabjaaQtT
namespace Go.Proofs.Ytfjjgjkgicabjaa
open Go.RowKit
set_option linter.unusedVariables false
/-! ### The order of QuotaMany -/
def pOf (T n i : Nat) : Nat := if T % 2 = 1 then n - 1 - (i + T) % n else (i + T) % n
theorem pOf_lt {T n i : Nat} (hn : 0 < n) : pOf T n i < n := by
  have := Nat.mod_lt (i + T) hn
  unfold pOf; split <;> omega
theorem turn_inj {T n i j : Nat} (hi : i < n) (hj : j < n) (h : (i + T) % n = (j + T) % n) : i = j := by
  rcases Nat.lt_trichotomy i j with h1 | h1 | h1
  · have h2 := Nat.sub_mod_eq_zero_of_mod_eq h.symm
    have h3 : j + T - (i + T) = j - i := by omega
    rw [h3, Nat.mod_eq_of_lt (by omega)] at h2
    omega
  · exact h1
  · have h2 := Nat.sub_mod_eq_zero_of_mod_eq h
    have h3 : i + T - (j + T) = i - j := by omega
    rw [h3, Nat.mod_eq_of_lt (by omega)] at h2
    omega
theorem pOf_inj {T n i j : Nat} (hi : i < n) (hj : j < n) (h : pOf T n i = pOf T n j) : i = j := by
  have h1 := Nat.mod_lt (i + T) (show 0 < n by omega)
  have h2 := Nat.mod_lt (j + T) (show 0 < n by omega)
  apply turn_inj hi hj (T := T)
  unfold pOf at h
  split at h <;> omega
theorem turn_surj {T n k : Nat} (hk : k < n) : ∃ j, j < n ∧ (j + T) % n = k := by
  have h1 := Nat.mod_lt T (show 0 < n by omega)
  refine ⟨(k + (n - T % n)) % n, Nat.mod_lt _ (by omega), ?_⟩
  rw [Nat.mod_add_mod]
  have h2 : T = n * (T / n) + T % n := (Nat.div_add_mod T n).symm
  have h3 : k + (n - T % n) + T = k + n * (T / n + 1) := by
    rw [Nat.mul_add, Nat.mul_one]
    generalize n * (T / n) = z at *
    omega
  rw [h3, Nat.add_mul_mod_self_left, Nat.mod_eq_of_lt hk]
theorem pOf_surj {T n k : Nat} (hk : k < n) : ∃ j, j < n ∧ pOf T n j = k := by
  by_cases h : T % 2 = 1
  · obtain ⟨j, h1, h2⟩ := turn_surj (T := T) (show n - 1 - k < n by omega)
    exact ⟨j, h1, by unfold pOf; rw [if_pos h, h2]; omega⟩
  · obtain ⟨j, h1, h2⟩ := turn_surj (T := T) hk
    exact ⟨j, h1, by unfold pOf; rw [if_neg h, h2]⟩
theorem sm_p (x : Nat → Int) (T n : Nat) (hn : 0 < n) : sm (fun i => x (pOf T n i)) n = sm x n := by
  by_cases h : T % 2 = 1
  · have e : sm (fun i => x (pOf T n i)) n = sm (fun i => (fun k => x (n - 1 - k)) ((i + T) % n)) n := sm_congr (fun i hi => by show x (pOf T n i) = x (n - 1 - (i + T) % n); unfold pOf; rw [if_pos h])
    rw [e, sm_turn (fun k => x (n - 1 - k)) n T hn, sm_back]
  · have e : sm (fun i => x (pOf T n i)) n = sm (fun i => x ((i + T) % n)) n := sm_congr (fun i hi => by show x (pOf T n i) = x ((i + T) % n); unfold pOf; rw [if_neg h])
    rw [e, sm_turn x n T hn]
/-- What those that were answered OK need. -/
def vb (l : List En) (os : List Nat) (k : Nat) : Int := if os[k]? = some 0 then nbL l k else 0
def vn (os : List Nat) (k : Nat) : Int := if os[k]? = some 0 then 1 else 0
/-- Which entries can be taken by themselves. -/
def tkb (q : Qt) (l : List En) (k : Nat) : Prop := ∃ h : k < l.length, (l[k]).why q = 0
def tkB (q : Qt) (l : List En) (k : Nat) : Bool := match l[k]? with | some e => e.why q == 0 | none => false
theorem tkB_iff (q : Qt) (l : List En) (k : Nat) : tkB q l k = true ↔ tkb q l k := by
  unfold tkB tkb
  by_cases h : k < l.length
  · rw [List.getElem?_eq_getElem h]
    simp [h]
  · rw [List.getElem?_eq_none (by omega)]
    simp [h]
def tb (q : Qt) (l : List En) (k : Nat) : Int := if tkB q l k = true then nbL l k else 0
def tn (q : Qt) (l : List En) (k : Nat) : Int := if tkB q l k = true then 1 else 0
theorem tb_yes {q : Qt} {l : List En} {k : Nat} (h : tkb q l k) : tb q l k = nbL l k ∧ tn q l k = 1 := by have h := (tkB_iff q l k).2 h; unfold tb tn; rw [if_pos h, if_pos h]; exact ⟨rfl, rfl⟩
theorem tb_no {q : Qt} {l : List En} {k : Nat} (h : ¬ tkb q l k) : tb q l k = 0 ∧ tn q l k = 0 := by have h : ¬ tkB q l k = true := fun e => h ((tkB_iff q l k).1 e); unfold tb tn; rw [if_neg h, if_neg h]; exact ⟨rfl, rfl⟩
theorem tkb_nb {q : Qt} {l : List En} {k : Nat} (h : tkb q l k) : 0 ≤ nbL l k := by
  obtain ⟨hk, h⟩ := h
  rw [nbL_at hk]; exact (why_nb h).1
theorem tb_pos (q : Qt) (l : List En) (k : Nat) : 0 ≤ tb q l k ∧ 0 ≤ tn q l k := by
  by_cases h : tkb q l k
  · rw [(tb_yes h).1, (tb_yes h).2]; exact ⟨tkb_nb h, by decide⟩
  · rw [(tb_no h).1, (tb_no h).2]; exact ⟨by decide, by decide⟩
/-- All that can be taken go in together. -/
def Hq (q : Qt) (l : List En) : Prop := sm (tb q l) l.length ≤ q.B ∧ sm (tn q l) l.length ≤ q.E
structure M1 (q : Qt) (l : List En) (T i : Nat) (s : St) (os : List Nat) : Prop where
  len : os.length = l.length
  inq : s.In q
  b : s.b = sm (fun j => vb l os (pOf T l.length j)) i
  n : s.n = sm (fun j => vn os (pOf T l.length j)) i
  ok : ∀ j, j < i → os[pOf T l.length j]? = some 0 → tkb q l (pOf T l.length j)
  cond : Hq q l → ∀ j, j < i → tkb q l (pOf T l.length j) → os[pOf T l.length j]? = some 0
theorem M1.start {q : Qt} {l : List En} {T : Nat} (hc : q.can = true) : M1 q l T 0 ⟨0, 0⟩ (List.replicate l.length 0) :=
  ⟨by simp, In0 hc, rfl, rfl, fun j h => by omega, fun _ j h => by omega⟩
theorem M1.next {q : Qt} {l : List En} {T i k : Nat} {s : St} {os : List Nat} (h : M1 q l T i s os) (hi : i < l.length) (hk : k = pOf T l.length i) (hkl : k < l.length) : M1 q l T (i + 1) (tkS q s l[k]) (os.set k (tkE q s l[k])) := by
  have hne : ∀ j, j < i → k ≠ pOf T l.length j := fun j hj e => by
    have := pOf_inj hi (by omega) (hk.symm.trans e)
    omega
  have hget : ∀ j, j < i → (os.set k (tkE q s l[k]))[pOf T l.length j]? = os[pOf T l.length j]? := fun j hj => by rw [List.getElem?_set, if_neg (hne j hj)]
  have hself : (os.set k (tkE q s l[k]))[pOf T l.length i]? = some (tkE q s l[k]) := by
    rw [← hk, List.getElem?_set, if_pos rfl, if_pos (by rw [h.len]; exact hkl)]
  have hb0 : sm (fun j => vb l (os.set k (tkE q s l[k])) (pOf T l.length j)) i = s.b := by
    rw [h.b]; exact sm_congr (fun j hj => by show vb l _ _ = vb l _ _; unfold vb; rw [hget j hj])
  have hn0 : sm (fun j => vn (os.set k (tkE q s l[k])) (pOf T l.length j)) i = s.n := by
    rw [h.n]; exact sm_congr (fun j hj => by show vn _ _ = vn _ _; unfold vn; rw [hget j hj])
  have hb1 : sm (fun j => vb l (os.set k (tkE q s l[k])) (pOf T l.length j)) (i + 1) = s.b + vb l (os.set k (tkE q s l[k])) (pOf T l.length i) := by rw [sm, hb0]
  have hn1 : sm (fun j => vn (os.set k (tkE q s l[k])) (pOf T l.length j)) (i + 1) = s.n + vn (os.set k (tkE q s l[k])) (pOf T l.length i) := by rw [sm, hn0]
  refine ⟨by rw [List.length_set]; exact h.len, tkS_in h.inq, ?_, ?_, ?_, ?_⟩
  · rw [hb1]
    unfold vb tkS
    rw [hself]
    by_cases ht : tkE q s l[k] = 0
    · rw [if_pos ht, ht, if_pos rfl, ← hk, nbL_at hkl]
    · rw [if_neg ht, if_neg (by simpa using ht), Int.add_zero]
  · rw [hn1]
    unfold vn tkS
    rw [hself]
    by_cases ht : tkE q s l[k] = 0
    · rw [if_pos ht, ht, if_pos rfl]
    · rw [if_neg ht, if_neg (by simpa using ht), Int.add_zero]
  · intro j hj hz
    by_cases h1 : j < i
    · rw [hget j h1] at hz; exact h.ok j h1 hz
    · obtain rfl : j = i := by omega
      rw [hself] at hz
      injection hz with hz
      rw [← hk]
      exact ⟨hkl, (tkE_zero.1 hz).1⟩
  · intro hH j hj htk
    by_cases h1 : j < i
    · rw [hget j h1]; exact h.cond hH j h1 htk
    · obtain rfl : j = i := by omega
      rw [hself]
      congr 1
      have hk2 : tkb q l k := by rw [hk]; exact htk
      have eb : s.b = sm (fun j' => tb q l (pOf T l.length j')) j := by
        rw [h.b]; refine sm_congr (fun j' hj' => ?_)
        show vb l os _ = tb q l _
        unfold vb
        by_cases ho : os[pOf T l.length j']? = some 0
        · rw [if_pos ho, (tb_yes (h.ok j' hj' ho)).1]
        · rw [if_neg ho, (tb_no (fun ht => ho (h.cond hH j' hj' ht))).1]
      have en : s.n = sm (fun j' => tn q l (pOf T l.length j')) j := by
        rw [h.n]; refine sm_congr (fun j' hj' => ?_)
        show vn os _ = tn q l _
        unfold vn
        by_cases ho : os[pOf T l.length j']? = some 0
        · rw [if_pos ho, (tb_yes (h.ok j' hj' ho)).2]
        · rw [if_neg ho, (tb_no (fun ht => ho (h.cond hH j' hj' ht))).2]
      have m1 := sm_mono (x := fun j' => tb q l (pOf T l.length j')) (k := j + 1) (n := l.length) (fun _ _ => (tb_pos q l _).1) (by omega)
      have m2 := sm_mono (x := fun j' => tn q l (pOf T l.length j')) (k := j + 1) (n := l.length) (fun _ _ => (tb_pos q l _).2) (by omega)
      rw [sm_p (tb q l) T l.length (by omega)] at m1
      rw [sm_p (tn q l) T l.length (by omega)] at m2
      rw [sm, ← eb] at m1
      rw [sm, ← en] at m2
      rw [← hk, (tb_yes hk2).1, nbL_at hkl] at m1
      rw [← hk, (tb_yes hk2).2] at m2
      obtain ⟨_, hw⟩ := hk2
      exact tkE_zero.2 ⟨hw, by have := hH.2; omega, by have := hH.1; omega⟩
/-- How it stands when all were asked. -/
structure M2 (q : Qt) (l : List En) (s : St) (os : List Nat) : Prop where
  len : os.length = l.length
  inq : s.In q
  b : s.b = sm (vb l os) l.length
  n : s.n = sm (vn os) l.length
  ok : ∀ k, k < l.length → os[k]? = some 0 → tkb q l k
  cond : Hq q l → ∀ k, k < l.length → tkb q l k → os[k]? = some 0
theorem M1.done {q : Qt} {l : List En} {T : Nat} {s : St} {os : List Nat} (h : M1 q l T l.length s os) : M2 q l s os := by
  by_cases h0 : l.length = 0
  · refine ⟨h.len, h.inq, ?_, ?_, fun k hk => by omega, fun _ k hk => by omega⟩
    · rw [h.b, h0]; rfl
    · rw [h.n, h0]; rfl
  · refine ⟨h.len, h.inq, ?_, ?_, fun k hk ho => ?_, fun hH k hk ht => ?_⟩
    · rw [h.b, sm_p (vb l os) T l.length (by omega)]
    · rw [h.n, sm_p (vn os) T l.length (by omega)]
    · obtain ⟨j, h1, h2⟩ := pOf_surj (T := T) hk
      rw [← h2] at ho ⊢
      exact h.ok j h1 ho
    · obtain ⟨j, h1, h2⟩ := pOf_surj (T := T) hk
      rw [← h2] at ht ⊢
      exact h.cond hH j h1 ht
theorem vb_pos {q : Qt} {l : List En} {s : St} {os : List Nat} (h : M2 q l s os) : ∀ k, k < l.length → 0 ≤ vb l os k ∧ 0 ≤ vn os k := fun k hk => by
  unfold vb vn
  by_cases ho : os[k]? = some 0
  · rw [if_pos ho, if_pos ho]; exact ⟨tkb_nb (h.ok k hk ho), by decide⟩
  · rw [if_neg ho, if_neg ho]; exact ⟨by decide, by decide⟩
theorem M2.skip {q : Qt} {l : List En} {s : St} {os : List Nat} (h : M2 q l s os) (I : Nat) (ho : os[I]? ≠ some 0) : sm (vb l os) (I + 1) = sm (vb l os) I ∧ sm (vn os) (I + 1) = sm (vn os) I := by
  rw [sm, sm]
  unfold vb vn
  rw [if_neg ho, if_neg ho]
  exact ⟨Int.add_zero _, Int.add_zero _⟩
theorem M2.take {q : Qt} {l : List En} {s : St} {os : List Nat} (h : M2 q l s os) (I : Nat) (hI : I < l.length) (ho : os[I]? = some 0) : sm (vb l os) (I + 1) = sm (vb l os) I + (l[I]).nb ∧ sm (vn os) (I + 1) = sm (vn os) I + 1 ∧ 0 ≤ (l[I]).nb ∧ sm (vb l os) I + (l[I]).nb ≤ q.B ∧ 0 ≤ sm (vb l os) I := by
  have e1 : sm (vb l os) (I + 1) = sm (vb l os) I + (l[I]).nb := by rw [sm]; congr 1; unfold vb; rw [if_pos ho, nbL_at hI]
  have e2 : sm (vn os) (I + 1) = sm (vn os) I + 1 := by rw [sm]; congr 1; unfold vn; rw [if_pos ho]
  have p0 := tkb_nb (h.ok I hI ho)
  rw [nbL_at hI] at p0
  have m1 := sm_mono (x := vb l os) (k := I + 1) (n := l.length) (fun k hk => (vb_pos h k hk).1) (by omega)
  have m0 := sm_nonneg (x := vb l os) (n := I) (fun k hk => (vb_pos h k (by omega)).1)
  have := h.b
  have := h.inq.b1
  exact ⟨e1, e2, p0, by omega, m0⟩
theorem M2.few {q : Qt} {l : List En} {s : St} {os : List Nat} (h : M2 q l s os) (I : Nat) (hI : I ≤ l.length) : 0 ≤ sm (vn os) I ∧ sm (vn os) I ≤ I ∧ 0 ≤ sm (vb l os) I ∧ sm (vb l os) I ≤ q.B := by
  have m0 := sm_nonneg (x := vn os) (n := I) (fun k hk => (vb_pos h k (by omega)).2)
  have m1 := sm_le (x := vn os) (y := fun _ => 1) (n := I) (fun k hk => by unfold vn; split <;> simp)
  rw [sm_one] at m1
  have m2 := sm_nonneg (x := vb l os) (n := I) (fun k hk => (vb_pos h k (by omega)).1)
  have m3 := sm_mono (x := vb l os) (k := I) (n := l.length) (fun k hk => (vb_pos h k hk).1) hI
  have := h.b
  have := h.inq.b1
  exact ⟨m0, m1, m2, by omega⟩
/-- The document's meter, entry by entry. -/
def stT (q : Qt) (l : List En) (i : Nat) : St := ⟨sm (tb q l) i, sm (tn q l) i⟩
theorem st_next {q : Qt} {l : List En} {i : Nat} (hi : i < l.length) (h : tkE q (stT q l i) l[i] ≠ 180) (h2 : tkE q (stT q l i) l[i] ≠ 182) : tkS q (stT q l i) l[i] = stT q l (i + 1) := by
  by_cases ht : tkE q (stT q l i) l[i] = 0
  · have hk : tkb q l i := ⟨hi, (tkE_zero.1 ht).1⟩
    unfold tkS; rw [if_pos ht]
    unfold stT
    simp only [sm]
    rw [(tb_yes hk).1, (tb_yes hk).2, nbL_at hi]
  · have hk : ¬ tkb q l i := fun ⟨_, hw⟩ => by
      unfold tkE at h h2 ht
      rw [hw] at h h2 ht
      by_cases h3 : q.E ≤ (stT q l i).n
      · rw [if_pos h3] at h; exact h rfl
      · rw [if_neg h3, if_neg (c := (0 : Nat) ≠ 0) (by decide)] at ht h2
        by_cases h4 : q.B - (stT q l i).b < (l[i]).nb
        · rw [if_pos h4] at h2; exact h2 rfl
        · rw [if_neg h4] at ht; exact ht rfl
    unfold tkS; rw [if_neg ht]
    unfold stT
    simp only [sm]
    rw [(tb_no hk).1, (tb_no hk).2, Int.add_zero, Int.add_zero]
theorem st_all {q : Qt} {l : List En} (h : (stT q l l.length).In q) : Hq q l := ⟨h.b1, h.n1⟩
theorem st_in {q : Qt} {l : List En} (h : Hq q l) (i : Nat) (hi : i ≤ l.length) : (stT q l i).In q := by
  have m1 := sm_mono (x := tb q l) (k := i) (n := l.length) (fun _ _ => (tb_pos q l _).1) hi
  have m2 := sm_mono (x := tn q l) (k := i) (n := l.length) (fun _ _ => (tb_pos q l _).2) hi
  have m3 := sm_nonneg (x := tb q l) (n := i) (fun _ _ => (tb_pos q l _).1)
  have m4 := sm_nonneg (x := tn q l) (n := i) (fun _ _ => (tb_pos q l _).2)
  exact ⟨m3, by have := h.1; show sm (tb q l) i ≤ q.B; omega, m4, by have := h.2; show sm (tn q l) i ≤ q.E; omega⟩
theorem st_tk {q : Qt} {l : List En} (h : Hq q l) {i : Nat} (hi : i < l.length) : (tkE q (stT q l i) l[i] = 0 ↔ tkb q l i) ∧ tkS q (stT q l i) l[i] = stT q l (i + 1) := by
  have m1 := sm_mono (x := tb q l) (k := i + 1) (n := l.length) (fun _ _ => (tb_pos q l _).1) (by omega)
  have m2 := sm_mono (x := tn q l) (k := i + 1) (n := l.length) (fun _ _ => (tb_pos q l _).2) (by omega)
  rw [sm] at m1 m2
  have key : tkE q (stT q l i) l[i] = 0 ↔ tkb q l i := by
    constructor
    · intro ht; exact ⟨hi, (tkE_zero.1 ht).1⟩
    · intro hk
      rw [(tb_yes hk).1, nbL_at hi] at m1
      rw [(tb_yes hk).2] at m2
      obtain ⟨_, hw⟩ := hk
      exact tkE_zero.2 ⟨hw, by show sm (tn q l) i < q.E; have := h.2; omega, by show (l[i]).nb ≤ q.B - sm (tb q l) i; have := h.1; omega⟩
  refine ⟨key, ?_⟩
  by_cases ht : tkb q l i
  · unfold tkS; rw [if_pos (key.2 ht)]
    unfold stT
    simp only [sm]
    rw [(tb_yes ht).1, (tb_yes ht).2, nbL_at hi]
  · unfold tkS; rw [if_neg (fun h0 => ht (key.1 h0))]
    unfold stT
    simp only [sm]
    rw [(tb_no ht).1, (tb_no ht).2, Int.add_zero, Int.add_zero]
end Go.Proofs.Ytfjjgjkgicabjaa

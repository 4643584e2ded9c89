import Derived.Test.YtffhpoilifgcdaaDoorVaf
import Derived.Lib.ItoaNum
import Derived.Test.YtffhpoilifgcdaaDoorVah
namespace Go.Proofs.YtffhpoilifgcdaaDoor
open Go.RowKit
set_option linter.unusedVariables false
/-! ### Decimal digits -/
def dgt (n : Nat) : List By := if h : n < 10 then [BitVec.ofNat 8 (48 + n)] else dgt (n / 10) ++ [BitVec.ofNat 8 (48 + n % 10)]
termination_by n
decreasing_by omega
theorem dgt_small {n : Nat} (h : n < 10) : dgt n = [BitVec.ofNat 8 (48 + n)] := by rw [dgt, dif_pos h]
theorem dgt_big {n : Nat} (h : ¬ n < 10) : dgt n = dgt (n / 10) ++ [BitVec.ofNat 8 (48 + n % 10)] := by rw [dgt, dif_neg h]
theorem u8_ofN (n : Nat) (h : n < 256) : u8 (BitVec.ofNat 8 n) = UInt8.ofNat n := by
  unfold u8
  rw [BitVec.toNat_ofNat, Nat.mod_eq_of_lt h]
theorem dgt_lib (n : Nat) : Lib.decDigits n = (dgt n).map u8 := by
  induction n using Nat.strongRecOn with
  | _ n ih =>
    by_cases h : n < 10
    · rw [Lib.decDigits, dif_pos h, dgt_small h, List.map_cons, List.map_nil, u8_ofN _ (by omega)]
    · rw [Lib.decDigits, dif_neg h, dgt_big h, List.map_append, ih (n / 10) (by omega), List.map_cons, List.map_nil, u8_ofN _ (by omega)]
theorem dgt_len (n : Nat) : (dgt n).length = Lib.nDigits n := by
  induction n using Nat.strongRecOn with
  | _ n ih =>
    by_cases h : n < 10
    · rw [dgt_small h, Lib.nDigits_small h]; rfl
    · rw [dgt_big h, Lib.nDigits_big h, List.length_append, ih (n / 10) (by omega)]; rfl
/-- A digit. -/
def isDg (c : By) : Prop := 48 ≤ c.toNat ∧ c.toNat ≤ 57
theorem isDg_of (d : Nat) (h : d < 10) : isDg (BitVec.ofNat 8 (48 + d)) ∧ (BitVec.ofNat 8 (48 + d)).toNat = 48 + d := by
  unfold isDg
  rw [BitVec.toNat_ofNat, Nat.mod_eq_of_lt (by omega)]
  omega
theorem dgt_digits (n : Nat) : ∀ c ∈ dgt n, isDg c := by
  induction n using Nat.strongRecOn with
  | _ n ih =>
    by_cases h : n < 10
    · rw [dgt_small h]
      intro c hc
      rw [List.mem_singleton] at hc
      subst hc
      exact (isDg_of n h).1
    · rw [dgt_big h]
      intro c hc
      rw [List.mem_append, List.mem_singleton] at hc
      rcases hc with hc | rfl
      · exact ih (n / 10) (by omega) c hc
      · exact (isDg_of (n % 10) (by omega)).1
/-- What digits spell. -/
def vlu (n : Nat) (l : List By) : Nat := l.foldl (fun a c => a * 10 + (c.toNat - 48)) n
theorem vlu_app (n : Nat) (l m : List By) : vlu n (l ++ m) = vlu (vlu n l) m := by simp [vlu]
theorem dgt_val (n : Nat) : vlu 0 (dgt n) = n := by
  induction n using Nat.strongRecOn with
  | _ n ih =>
    by_cases h : n < 10
    · rw [dgt_small h]
      simp only [vlu, List.foldl_cons, List.foldl_nil, (isDg_of n h).2]
      omega
    · rw [dgt_big h, vlu_app, ih (n / 10) (by omega)]
      simp only [vlu, List.foldl_cons, List.foldl_nil, (isDg_of (n % 10) (by omega)).2]
      omega
theorem dgt_head (n : Nat) (h : 0 < n) : ∃ c r, dgt n = c :: r ∧ c ≠ 48#8 := by
  induction n using Nat.strongRecOn with
  | _ n ih =>
    by_cases hn : n < 10
    · refine ⟨_, [], dgt_small hn, ?_⟩
      intro e
      have := (isDg_of n hn).2
      rw [e] at this
      have e2 : (48#8 : By).toNat = 48 := rfl
      omega
    · obtain ⟨c, r, h1, h2⟩ := ih (n / 10) (by omega) (by omega)
      exact ⟨c, r ++ [BitVec.ofNat 8 (48 + n % 10)], by rw [dgt_big hn, h1]; rfl, h2⟩
theorem vlu_lt (l : List By) (h : ∀ c ∈ l, isDg c) (n k : Nat) (hn : n < 10 ^ k) : vlu n l < 10 ^ (k + l.length) := by
  induction l generalizing n k with
  | nil => simpa [vlu] using hn
  | cons c r ih =>
    have hc := h c (by simp)
    unfold isDg at hc
    have hp : 10 ^ (k + 1) = 10 * 10 ^ k := by rw [Nat.pow_succ, Nat.mul_comm]
    have := ih (fun x hx => h x (by simp [hx])) (n * 10 + (c.toNat - 48)) (k + 1) (by omega)
    simp only [vlu, List.foldl_cons] at this ⊢
    rw [List.length_cons, show k + (r.length + 1) = k + 1 + r.length by omega]
    exact this
/-- Digits without zeros ahead are a number's own. -/
theorem dgt_uniq (l : List By) (hd : ∀ c ∈ l, isDg c) (hz : ∀ c t, l = c :: t → c ≠ 48#8) (hl : l ≠ []) : l = dgt (vlu 0 l) := by
  obtain ⟨n, hn⟩ : ∃ n, n = l.length := ⟨_, rfl⟩
  induction n generalizing l with
  | zero => exact absurd (List.length_eq_zero_iff.1 hn.symm) hl
  | succ n ih =>
    obtain ⟨m, c, rfl⟩ : ∃ m c, l = m ++ [c] := ⟨l.dropLast, l.getLast hl, (List.dropLast_concat_getLast hl).symm⟩
    have hc := hd c (by simp)
    unfold isDg at hc
    have hcn : BitVec.ofNat 8 (48 + (c.toNat - 48)) = c := by
      apply BitVec.eq_of_toNat_eq
      rw [BitVec.toNat_ofNat, Nat.mod_eq_of_lt (by omega)]
      omega
    rw [vlu_app]
    have hv : vlu (vlu 0 m) [c] = vlu 0 m * 10 + (c.toNat - 48) := rfl
    rw [hv]
    by_cases hm : m = []
    · subst hm
      have : vlu 0 ([] : List By) = 0 := rfl
      rw [this, dgt_small (by omega), Nat.zero_mul, Nat.zero_add, hcn]
      rfl
    · have e := ih m (fun x hx => hd x (by simp [hx])) (fun x t ht => hz x (t ++ [c]) (by rw [ht]; rfl)) hm (by simp at hn; exact hn)
      have hpos : 0 < vlu 0 m := by
        rcases Nat.eq_zero_or_pos (vlu 0 m) with h0 | h0
        · rw [h0, dgt_small (by decide)] at e
          exact absurd rfl (hz _ [c] (by rw [e]; rfl))
        · exact h0
      rw [dgt_big (by omega)]
      have e1 : (vlu 0 m * 10 + (c.toNat - 48)) / 10 = vlu 0 m := by omega
      have e2 : (vlu 0 m * 10 + (c.toNat - 48)) % 10 = c.toNat - 48 := by omega
      rw [e1, e2, ← e, hcn]
end Go.Proofs.YtffhpoilifgcdaaDoor

namespace Go.Proofs.YtffhpoilifgcdaaDoor
set_option linter.unusedVariables false
/-! ### A map's text, pure -/
def MX : Nat := 9223372036854775807
/-- A number and its line feed: the value, how many bytes, and why not. -/
def nr (n i : Nat) : List By → Nat × Nat × Nat
  | [] => (0, 0, 4)
  | x :: r => if x = 10#8 ∧ 0 < i then (n, i + 1, 0)
    else if x.toNat < 48 ∨ 57 < x.toNat ∨ (0 < i ∧ n = 0) ∨ (9223372036854775807 - (x.toNat - 48)) / 10 < n then (0, 0, 3)
    else nr (n * 10 + (x.toNat - 48)) (i + 1) r
theorem nr_nil (n i : Nat) : nr n i [] = (0, 0, 4) := rfl
theorem nr_lf (n i : Nat) (r : List By) (hi : 0 < i) : nr n i (10#8 :: r) = (n, i + 1, 0) := by rw [nr, if_pos ⟨rfl, hi⟩]
theorem nr_bad (n i : Nat) (x : By) (r : List By) (h1 : ¬ (x = 10#8 ∧ 0 < i)) (h2 : x.toNat < 48 ∨ 57 < x.toNat ∨ (0 < i ∧ n = 0) ∨ (9223372036854775807 - (x.toNat - 48)) / 10 < n) : nr n i (x :: r) = (0, 0, 3) := by rw [nr, if_neg h1, if_pos h2]
theorem nr_go (n i : Nat) (x : By) (r : List By) (h1 : ¬ (x = 10#8 ∧ 0 < i)) (h2 : ¬ (x.toNat < 48 ∨ 57 < x.toNat ∨ (0 < i ∧ n = 0) ∨ (9223372036854775807 - (x.toNat - 48)) / 10 < n)) : nr n i (x :: r) = nr (n * 10 + (x.toNat - 48)) (i + 1) r := by rw [nr, if_neg h1, if_neg h2]
theorem nr_errs (n i : Nat) (b : List By) : (nr n i b).2.2 = 0 ∨ (nr n i b = (0, 0, 3)) ∨ (nr n i b = (0, 0, 4)) := by
  induction b generalizing n i with
  | nil => exact .inr (.inr rfl)
  | cons x r ih =>
    by_cases h1 : x = 10#8 ∧ 0 < i
    · rw [h1.1, nr_lf _ _ _ h1.2]; exact .inl rfl
    · by_cases h2 : x.toNat < 48 ∨ 57 < x.toNat ∨ (0 < i ∧ n = 0) ∨ (9223372036854775807 - (x.toNat - 48)) / 10 < n
      · rw [nr_bad _ _ _ _ h1 h2]; exact .inr (.inl rfl)
      · rw [nr_go _ _ _ _ h1 h2]; exact ih _ _
theorem vlu_cons (n : Nat) (c : By) (t : List By) : vlu n (c :: t) = vlu (n * 10 + (c.toNat - 48)) t := by simp only [vlu, List.foldl_cons]
theorem vlu_nil (n : Nat) : vlu n [] = n := rfl
theorem vlu_ge (n : Nat) (l : List By) : n ≤ vlu n l := by
  induction l generalizing n with
  | nil => exact Nat.le_refl _
  | cons c t ih => rw [vlu_cons]; have := ih (n * 10 + (c.toNat - 48)); omega
theorem lf_no {c : By} (h : isDg c) : c ≠ 10#8 := fun e => by subst e; unfold isDg at h; simp at h
theorem nr_fwd (ds r : List By) (n i : Nat) (hd : ∀ c ∈ ds, isDg c) (h1 : 0 < i → 0 < n ∨ ds = []) (h0 : i = 0 → ds ≠ [] ∧ ∀ c t, ds = c :: t → c ≠ 48#8 ∨ t = []) (hv : vlu n ds ≤ 9223372036854775807) : nr n i (ds ++ 10#8 :: r) = (vlu n ds, i + ds.length + 1, 0) := by
  induction ds generalizing n i with
  | nil =>
    have hi : 0 < i := Nat.pos_of_ne_zero (fun e => (h0 e).1 rfl)
    rw [List.nil_append, nr_lf _ _ _ hi]; rfl
  | cons c t ih =>
    have hc : isDg c := hd c List.mem_cons_self
    have hc2 := hc
    unfold isDg at hc2
    rw [vlu_cons] at hv
    have hge := vlu_ge (n * 10 + (c.toNat - 48)) t
    rw [List.cons_append, nr_go _ _ _ _ (fun e => lf_no hc e.1) ?_, ih (n * 10 + (c.toNat - 48)) (i + 1) (fun x hx => hd x (List.mem_cons_of_mem _ hx)) ?_ (fun e => by omega) hv]
    · rw [vlu_cons, List.length_cons]
      congr 2
      omega
    · intro _
      by_cases hi : i = 0
      · rcases (h0 hi).2 c t rfl with e | e
        · left
          have : c.toNat ≠ 48 := fun e2 => e (BitVec.eq_of_toNat_eq (by rw [e2]; rfl))
          omega
        · exact .inr e
      · rcases h1 (by omega) with e | e
        · left; omega
        · cases e
    · rintro (e | e | ⟨e1, e2⟩ | e)
      · omega
      · omega
      · rcases h1 e1 with e | e
        · omega
        · cases e
      · have : n * 10 + (c.toNat - 48) ≤ 9223372036854775807 := by omega
        have : n ≤ (9223372036854775807 - (c.toNat - 48)) / 10 := by
          rw [Nat.le_div_iff_mul_le (by omega)]; omega
        omega
theorem nr_dgt (n : Nat) (hn : n ≤ 9223372036854775807) (r : List By) : nr 0 0 (dgt n ++ 10#8 :: r) = (n, (dgt n).length + 1, 0) := by
  have h := nr_fwd (dgt n) r 0 0 (dgt_digits n) (fun h => by omega) (fun _ => ⟨?_, fun c t e => ?_⟩) (by rw [dgt_val]; exact hn)
  · rw [h, dgt_val, Nat.zero_add]
  · intro e
    have := dgt_val n
    by_cases h0 : n < 10
    · rw [dgt_small h0] at e; cases e
    · rw [dgt_big h0] at e; exact absurd e (by simp)
  · by_cases h0 : n = 0
    · subst h0
      rw [dgt_small (by omega)] at e
      injection e with e1 e2
      exact .inr e2.symm
    · obtain ⟨c', r', e1, e2⟩ := dgt_head n (by omega)
      rw [e1] at e
      injection e with e3 e4
      subst e3
      exact .inl e2
theorem nr_inv (b : List By) (n i m k : Nat) (h : nr n i b = (m, k, 0)) (hn : n ≤ 9223372036854775807) : ∃ ds, k = i + ds.length + 1 ∧ b.take (ds.length + 1) = ds ++ [10#8] ∧ ds.length + 1 ≤ b.length ∧ (∀ c ∈ ds, isDg c) ∧ m = vlu n ds ∧ m ≤ 9223372036854775807 ∧ (0 < i ∧ n = 0 → ds = []) ∧ (i = 0 → ds ≠ []) := by
  induction b generalizing n i with
  | nil => rw [nr_nil] at h; cases h
  | cons x r ih =>
    by_cases h1 : x = 10#8 ∧ 0 < i
    · rw [h1.1, nr_lf _ _ _ h1.2] at h
      injection h with h3 h4
      injection h4 with h4 h5
      exact ⟨[], by simp; omega, by rw [h1.1]; rfl, by simp, (fun c hc => by cases hc), by rw [vlu_nil]; exact h3.symm, by omega, fun _ => rfl, fun e => by omega⟩
    · by_cases h2 : x.toNat < 48 ∨ 57 < x.toNat ∨ (0 < i ∧ n = 0) ∨ (9223372036854775807 - (x.toNat - 48)) / 10 < n
      · rw [nr_bad _ _ _ _ h1 h2] at h; cases h
      · rw [nr_go _ _ _ _ h1 h2] at h
        have hx : isDg x := ⟨by omega, by omega⟩
        have hx2 := hx
        unfold isDg at hx2
        have hnn : n * 10 + (x.toNat - 48) ≤ 9223372036854775807 := by
          have : n ≤ (9223372036854775807 - (x.toNat - 48)) / 10 := by omega
          rw [Nat.le_div_iff_mul_le (by omega)] at this
          omega
        obtain ⟨ds, e1, e2, e3, e4, e5, e6, e7, e8⟩ := ih _ _ h hnn
        refine ⟨x :: ds, by rw [List.length_cons]; omega, by rw [List.length_cons, List.take_succ_cons, e2]; rfl, by rw [List.length_cons, List.length_cons]; omega, fun c hc => ?_, by rw [vlu_cons]; exact e5, e6, fun ⟨a1, a2⟩ => absurd (.inr (.inr (.inl ⟨a1, a2⟩))) h2, fun _ => by simp⟩
        rcases List.mem_cons.1 hc with rfl | hc
        · exact hx
        · exact e4 c hc
theorem num_inv (b : List By) (m k : Nat) (h : nr 0 0 b = (m, k, 0)) : b.take k = dgt m ++ [10#8] ∧ k = (dgt m).length + 1 ∧ k ≤ b.length ∧ m ≤ 9223372036854775807 := by
  cases b with
  | nil => rw [nr_nil] at h; cases h
  | cons x r =>
    have h1 : ¬ (x = 10#8 ∧ 0 < 0) := fun e => absurd e.2 (Nat.lt_irrefl 0)
    by_cases h2 : x.toNat < 48 ∨ 57 < x.toNat ∨ (0 < 0 ∧ 0 = 0) ∨ (9223372036854775807 - (x.toNat - 48)) / 10 < 0
    · rw [nr_bad _ _ _ _ h1 h2] at h; cases h
    · rw [nr_go _ _ _ _ h1 h2] at h
      have hx : isDg x := ⟨by omega, by omega⟩
      have hx2 := hx
      unfold isDg at hx2
      obtain ⟨ds, e1, e2, e3, e4, e5, e6, e7, _⟩ := nr_inv r _ _ m k h (by omega)
      have hdm : x :: ds = dgt m := by
        by_cases hz : x = 48#8
        · have hds := e7 ⟨by omega, by subst hz; rfl⟩
          subst hds
          subst hz
          rw [e5, vlu_nil, dgt_small (by decide)]
          rfl
        · have := dgt_uniq (x :: ds) (fun c hc => by rcases List.mem_cons.1 hc with rfl | hc; exact hx; exact e4 c hc) (fun c t e => by injection e with e9 _; rw [← e9]; exact hz) (by simp)
          rw [this, vlu_cons, ← e5]
      have hl : (dgt m).length = ds.length + 1 := by rw [← hdm, List.length_cons]
      refine ⟨?_, by omega, by rw [List.length_cons]; omega, e6⟩
      rw [show k = (ds.length + 1) + 1 by omega, List.take_succ_cons, e2, ← hdm]
      rfl
theorem nr_lt (b : List By) (m k : Nat) (h : nr 0 0 b = (m, k, 0)) : k ≤ b.length ∧ 1 ≤ k := by
  have := num_inv b m k h
  omega
/-- One range at a place; why not: 3, 4. -/
def one1 (b : List By) (e p : Nat) : (Nat × Nat) × Nat × Nat :=
  let r1 := nr 0 0 (b.drop p)
  if r1.2.2 ≠ 0 then ((0, 0), 0, r1.2.2) else
  let r2 := nr 0 0 (b.drop (p + r1.2.1))
  if r2.2.2 ≠ 0 then ((0, 0), 0, r2.2.2) else
  if r1.1 < e ∨ 9223372036854775807 - r1.1 < r2.1 then ((0, 0), 0, 3) else ((r1.1, r1.1 + r2.1), p + r1.2.1 + r2.2.1, 0)
def rdA (b : List By) : Nat → Nat → Nat → List (Nat × Nat) → List (Nat × Nat) × Nat × Nat
  | 0, _, p, acc => (acc, p, 0)
  | k + 1, e, p, acc => if (one1 b e p).2.2 ≠ 0 then ([], 0, (one1 b e p).2.2) else rdA b k (one1 b e p).1.2 (one1 b e p).2.1 (acc ++ [(one1 b e p).1])
/-- The zeros behind. -/
def zrF (b : List By) : Nat → Nat → Nat × Nat
  | 0, p => (p, 0)
  | k + 1, p => if b.length ≤ p then (0, 4) else if b[p]? = some 0#8 then zrF b k (p + 1) else (0, 3)
def padN (p : Nat) : Nat := (512 - p % 512) % 512
theorem padN_zero {p : Nat} (h : p % 512 = 0) : padN p = 0 := by unfold padN; omega
theorem padN_succ {p : Nat} (h : p % 512 ≠ 0) : padN p = padN (p + 1) + 1 := by unfold padN; omega
def rdT (b : List By) : List (Nat × Nat) × Nat × Nat :=
  let r := nr 0 0 b
  if r.2.2 ≠ 0 then ([], 0, r.2.2) else
  if 65536 < r.1 then ([], 0, 2) else
  let s := rdA b r.1 0 r.2.1 []
  if s.2.2 ≠ 0 then ([], 0, s.2.2) else
  let z := zrF b (padN s.2.1) s.2.1
  if z.2 ≠ 0 then ([], 0, z.2) else (s.1, z.1, 0)
/-- What is put. -/
def lnT (n : Nat) : List By := dgt n ++ [10#8]
def rgT (x : Nat × Nat) : List By := lnT x.1 ++ lnT (x.2 - x.1)
def rgsT (l : List (Nat × Nat)) : List By := (l.map rgT).flatten
def bdT (l : List (Nat × Nat)) : List By := lnT l.length ++ rgsT l
def ptT (l : List (Nat × Nat)) : List By := bdT l ++ List.replicate (padN (bdT l).length) 0#8
theorem rgsT_cons (x : Nat × Nat) (l : List (Nat × Nat)) : rgsT (x :: l) = rgT x ++ rgsT l := by simp [rgsT]
theorem rgsT_snoc (l : List (Nat × Nat)) (x : Nat × Nat) : rgsT (l ++ [x]) = rgsT l ++ rgT x := by simp [rgsT]
/-- Ranges that can be, from e on. -/
def chn : Nat → List (Nat × Nat) → Prop
  | _, [] => True
  | e, x :: l => e ≤ x.1 ∧ x.1 ≤ x.2 ∧ x.2 ≤ 9223372036854775807 ∧ chn x.2 l
theorem chn_vlE (e : Nat) (l : List (Nat × Nat)) : chn e l ↔ vlE 9223372036854775807 e (rgL l) = true := by
  induction l generalizing e with
  | nil => simp [chn, rgL, vlE]
  | cons x l ih =>
    have e1 : rgL (x :: l) = ((x.1 : Int), (x.2 : Int)) :: rgL l := rfl
    rw [e1, vlE_cons, chn, ih]
    constructor
    · rintro ⟨h1, h2, h3, h4⟩; exact ⟨by show (e : Int) ≤ (x.1 : Int); omega, by show (x.1 : Int) ≤ (x.2 : Int); omega, by show (x.2 : Int) ≤ _; omega, h4⟩
    · rintro ⟨h1, h2, h3, h4⟩
      have h1' : (e : Int) ≤ (x.1 : Int) := h1
      have h2' : (x.1 : Int) ≤ (x.2 : Int) := h2
      have h3' : (x.2 : Int) ≤ 9223372036854775807 := h3
      exact ⟨by omega, by omega, by omega, h4⟩
/-- A map that can be is of such numbers. -/
theorem vlE_nat {s : Int} {e : Nat} {l : List Rg} (h : vlE s e l = true) : ∃ m : List (Nat × Nat), l = rgL m := by
  induction l generalizing e with
  | nil => exact ⟨[], rfl⟩
  | cons x l ih =>
    obtain ⟨h1, h2, h3, h4⟩ := vlE_cons.1 h
    have hx2 : x.2 = ((x.2.toNat : Nat) : Int) := by omega
    rw [hx2] at h4
    obtain ⟨m, rfl⟩ := ih h4
    refine ⟨(x.1.toNat, x.2.toNat) :: m, ?_⟩
    have e1 : rgL ((x.1.toNat, x.2.toNat) :: m) = ((x.1.toNat : Int), (x.2.toNat : Int)) :: rgL m := rfl
    rw [e1]
    congr 1
    exact Prod.ext (by show x.1 = (x.1.toNat : Int); omega) (by show x.2 = (x.2.toNat : Int); omega)
theorem lnT_len (n : Nat) : (lnT n).length = (dgt n).length + 1 := by simp [lnT]
theorem lnT_cons (n : Nat) (r : List By) : lnT n ++ r = dgt n ++ 10#8 :: r := by simp [lnT]
theorem one1_fwd (b : List By) (e p : Nat) (x : Nat × Nat) (r : List By) (hb : b.drop p = rgT x ++ r) (h1 : e ≤ x.1) (h2 : x.1 ≤ x.2) (h3 : x.2 ≤ 9223372036854775807) : one1 b e p = (x, p + (rgT x).length, 0) := by
  have ha : nr 0 0 (b.drop p) = (x.1, (dgt x.1).length + 1, 0) := by
    rw [hb, rgT, List.append_assoc, lnT_cons]; exact nr_dgt _ (by omega) _
  have hd : b.drop (p + ((dgt x.1).length + 1)) = lnT (x.2 - x.1) ++ r := by
    rw [← List.drop_drop, hb, rgT, List.append_assoc, List.drop_left' (lnT_len x.1)]
  have hc : nr 0 0 (b.drop (p + ((dgt x.1).length + 1))) = (x.2 - x.1, (dgt (x.2 - x.1)).length + 1, 0) := by
    rw [hd, lnT_cons]; exact nr_dgt _ (by omega) _
  unfold one1
  simp only [ha, hc]
  rw [if_neg (by simp), if_neg (by simp), if_neg (by omega)]
  refine Prod.ext (Prod.ext rfl (by show x.1 + (x.2 - x.1) = x.2; omega)) (Prod.ext ?_ rfl)
  show p + ((dgt x.1).length + 1) + ((dgt (x.2 - x.1)).length + 1) = p + (rgT x).length
  rw [rgT, List.length_append, lnT_len, lnT_len]
  omega
theorem rdA_fwd (b : List By) (l : List (Nat × Nat)) (e p : Nat) (acc : List (Nat × Nat)) (r : List By) (hb : b.drop p = rgsT l ++ r) (hc : chn e l) : rdA b l.length e p acc = (acc ++ l, p + (rgsT l).length, 0) := by
  induction l generalizing e p acc with
  | nil => simp [rdA, rgsT]
  | cons x l ih =>
    rw [rgsT_cons, List.append_assoc] at hb
    obtain ⟨h1, h2, h3, h4⟩ := hc
    have ho := one1_fwd b e p x _ hb h1 h2 h3
    rw [List.length_cons, rdA, ho]
    rw [if_neg (by simp), ih x.2 (p + (rgT x).length) (acc ++ [x]) (by rw [← List.drop_drop, hb, List.drop_left' rfl]) h4, rgsT_cons, List.length_append]
    refine Prod.ext (by simp) (Prod.ext (by show p + (rgT x).length + (rgsT l).length = p + ((rgT x).length + (rgsT l).length); omega) rfl)
theorem zrF_fwd (b : List By) (k p : Nat) (r : List By) (hb : b.drop p = List.replicate k 0#8 ++ r) : zrF b k p = (p + k, 0) := by
  induction k generalizing p with
  | zero => rfl
  | succ k ih =>
    have hp : p < b.length := by
      rcases Nat.lt_or_ge p b.length with e | e
      · exact e
      · rw [List.drop_eq_nil_of_le e] at hb; simp [List.replicate_succ] at hb
    have h0 : b[p]? = some 0#8 := by
      have := congrArg (fun q => q[0]?) hb
      simpa [List.getElem?_drop, List.replicate_succ] using this
    rw [zrF, if_neg (by omega), if_pos h0, ih (p + 1) (by rw [← List.drop_drop, hb, List.replicate_succ, List.cons_append]; rfl)]
    refine Prod.ext (by show p + 1 + k = p + (k + 1); omega) rfl
/-- What is put is read. -/
theorem rdT_ptT (l : List (Nat × Nat)) (r : List By) (hl : l.length ≤ 65536) (hc : chn 0 l) : rdT (ptT l ++ r) = (l, (ptT l).length, 0) := by
  have hb : ptT l ++ r = dgt l.length ++ 10#8 :: (rgsT l ++ (List.replicate (padN (bdT l).length) 0#8 ++ r)) := by
    rw [ptT, bdT, List.append_assoc, List.append_assoc, lnT_cons]
  have h1 : nr 0 0 (ptT l ++ r) = (l.length, (dgt l.length).length + 1, 0) := by rw [hb]; exact nr_dgt _ (by omega) _
  have hd : (ptT l ++ r).drop ((dgt l.length).length + 1) = rgsT l ++ (List.replicate (padN (bdT l).length) 0#8 ++ r) := by
    rw [hb, ← lnT_cons, List.drop_left' (lnT_len _)]
  have h2 := rdA_fwd (ptT l ++ r) l 0 _ [] _ hd hc
  have hbl : (dgt l.length).length + 1 + (rgsT l).length = (bdT l).length := by rw [bdT, List.length_append, lnT_len]
  rw [hbl] at h2
  have h3 := zrF_fwd (ptT l ++ r) (padN (bdT l).length) (bdT l).length r (by
    have e : (ptT l ++ r).drop (bdT l).length = ((ptT l ++ r).drop ((dgt l.length).length + 1)).drop (rgsT l).length := by rw [List.drop_drop, hbl]
    rw [e, hd, List.drop_left' rfl])
  unfold rdT
  simp only [h1, h2, h3]
  rw [if_neg (by simp), if_neg (by omega), if_neg (by simp), if_neg (by simp)]
  refine Prod.ext rfl (Prod.ext ?_ rfl)
  show _ = (ptT l).length
  rw [ptT, List.length_append, List.length_replicate]
theorem one1_inv (b : List By) (e p : Nat) (x : Nat × Nat) (q : Nat) (hp : p ≤ b.length) (h : one1 b e p = (x, q, 0)) : e ≤ x.1 ∧ x.1 ≤ x.2 ∧ x.2 ≤ 9223372036854775807 ∧ p ≤ q ∧ q ≤ b.length ∧ b.drop p = rgT x ++ b.drop q ∧ q = p + (rgT x).length := by
  unfold one1 at h
  simp only at h
  by_cases h1 : (nr 0 0 (b.drop p)).2.2 ≠ 0
  · rw [if_pos h1] at h; injection h with _ h; injection h with _ h; exact absurd h h1
  · rw [if_neg h1] at h
    by_cases h2 : (nr 0 0 (b.drop (p + (nr 0 0 (b.drop p)).2.1))).2.2 ≠ 0
    · rw [if_pos h2] at h; injection h with _ h; injection h with _ h; exact absurd h h2
    · rw [if_neg h2] at h
      obtain ⟨n1, k1, e1⟩ : ∃ n1 k1, nr 0 0 (b.drop p) = (n1, k1, 0) := ⟨_, _, Prod.ext rfl (Prod.ext rfl (Classical.not_not.1 h1))⟩
      rw [e1] at h2 h
      obtain ⟨n2, k2, e2⟩ : ∃ n2 k2, nr 0 0 (b.drop (p + k1)) = (n2, k2, 0) := ⟨_, _, Prod.ext rfl (Prod.ext rfl (Classical.not_not.1 h2))⟩
      rw [e2] at h
      simp only at h
      by_cases h3 : n1 < e ∨ 9223372036854775807 - n1 < n2
      · rw [if_pos h3] at h; injection h with _ h; injection h with _ h; cases h
      · rw [if_neg h3] at h
        injection h with hx h
        injection h with hq _
        have i1 := num_inv _ _ _ e1
        have i2 := num_inv _ _ _ e2
        rw [List.length_drop] at i1 i2
        subst hx
        have hrt : rgT (n1, n1 + n2) = lnT n1 ++ lnT n2 := by rw [rgT]; show lnT n1 ++ lnT (n1 + n2 - n1) = _; rw [Nat.add_sub_cancel_left]
        have hl : (rgT (n1, n1 + n2)).length = k1 + k2 := by rw [hrt, List.length_append, lnT_len, lnT_len]; omega
        refine ⟨by show e ≤ n1; omega, by show n1 ≤ n1 + n2; omega, by show n1 + n2 ≤ _; omega, by omega, by omega, ?_, by rw [hl]; omega⟩
        rw [hrt]
        have t1 : (b.drop p).take k1 = lnT n1 := i1.1
        have t2 : (b.drop (p + k1)).take k2 = lnT n2 := i2.1
        rw [← t1, ← t2, List.append_assoc, ← hq]
        conv => lhs; rw [← List.take_append_drop k1 (b.drop p), List.drop_drop]
        congr 1
        conv => lhs; rw [← List.take_append_drop k2 (b.drop (p + k1)), List.drop_drop]
theorem rdA_inv (b : List By) (k e p : Nat) (acc L : List (Nat × Nat)) (q : Nat) (hp : p ≤ b.length) (h : rdA b k e p acc = (L, q, 0)) : ∃ l, L = acc ++ l ∧ l.length = k ∧ chn e l ∧ p ≤ q ∧ q ≤ b.length ∧ b.drop p = rgsT l ++ b.drop q ∧ q = p + (rgsT l).length := by
  induction k generalizing e p acc with
  | zero =>
    rw [rdA] at h
    injection h with h1 h2
    injection h2 with h2 _
    subst h2
    exact ⟨[], by rw [List.append_nil]; exact h1.symm, rfl, trivial, Nat.le_refl _, hp, rfl, rfl⟩
  | succ k ih =>
    rw [rdA] at h
    by_cases h1 : (one1 b e p).2.2 ≠ 0
    · rw [if_pos h1] at h; injection h with _ h; injection h with _ h; exact absurd h h1
    · rw [if_neg h1] at h
      obtain ⟨x, p', e1⟩ : ∃ x p', one1 b e p = (x, p', 0) := ⟨_, _, Prod.ext rfl (Prod.ext rfl (Classical.not_not.1 h1))⟩
      rw [e1] at h
      obtain ⟨a1, a2, a3, a4, a5, a6, a7⟩ := one1_inv b e p x p' hp e1
      obtain ⟨l, b1, b2, b3, b4, b5, b6, b7⟩ := ih x.2 p' (acc ++ [x]) a5 h
      refine ⟨x :: l, by rw [b1]; simp, by rw [List.length_cons, b2], ⟨a1, a2, a3, b3⟩, by omega, b5, ?_, by rw [rgsT_cons, List.length_append]; omega⟩
      rw [rgsT_cons, List.append_assoc, ← b6, ← a6]
theorem zrF_inv (b : List By) (k p q : Nat) (hp : p ≤ b.length) (h : zrF b k p = (q, 0)) : q = p + k ∧ q ≤ b.length ∧ b.drop p = List.replicate k 0#8 ++ b.drop q := by
  induction k generalizing p with
  | zero =>
    rw [zrF] at h
    injection h with h _
    subst h
    exact ⟨rfl, hp, rfl⟩
  | succ k ih =>
    rw [zrF] at h
    by_cases h1 : b.length ≤ p
    · rw [if_pos h1] at h; injection h with _ h; cases h
    · rw [if_neg h1] at h
      by_cases h2 : b[p]? = some 0#8
      · rw [if_pos h2] at h
        obtain ⟨e1, e2, e3⟩ := ih (p + 1) (by omega) h
        refine ⟨by omega, e2, ?_⟩
        obtain ⟨hp2, h3⟩ := List.getElem?_eq_some_iff.1 h2
        rw [List.drop_eq_getElem_cons hp2, h3, e3, List.replicate_succ]
        rfl
      · rw [if_neg h2] at h; injection h with _ h; cases h
/-- What was read is put. -/
theorem rdT_inv (b : List By) (l : List (Nat × Nat)) (q : Nat) (h : rdT b = (l, q, 0)) : l.length ≤ 65536 ∧ chn 0 l ∧ q ≤ b.length ∧ b.take q = ptT l := by
  unfold rdT at h
  simp only at h
  by_cases h1 : (nr 0 0 b).2.2 ≠ 0
  · rw [if_pos h1] at h; injection h with _ h; injection h with _ h; exact absurd h h1
  · rw [if_neg h1] at h
    obtain ⟨n1, k1, e1⟩ : ∃ n1 k1, nr 0 0 b = (n1, k1, 0) := ⟨_, _, Prod.ext rfl (Prod.ext rfl (Classical.not_not.1 h1))⟩
    rw [e1] at h
    simp only at h
    by_cases h2 : 65536 < n1
    · rw [if_pos h2] at h; injection h with _ h; injection h with _ h; cases h
    · rw [if_neg h2] at h
      by_cases h3 : (rdA b n1 0 k1 []).2.2 ≠ 0
      · rw [if_pos h3] at h; injection h with _ h; injection h with _ h; exact absurd h h3
      · rw [if_neg h3] at h
        obtain ⟨L, q1, e2⟩ : ∃ L q1, rdA b n1 0 k1 [] = (L, q1, 0) := ⟨_, _, Prod.ext rfl (Prod.ext rfl (Classical.not_not.1 h3))⟩
        rw [e2] at h
        simp only at h
        by_cases h4 : (zrF b (padN q1) q1).2 ≠ 0
        · rw [if_pos h4] at h; injection h with _ h; injection h with _ h; exact absurd h h4
        · rw [if_neg h4] at h
          injection h with h5 h6
          injection h6 with h6 _
          have i1 := num_inv b n1 k1 e1
          obtain ⟨l', b1, b2, b3, b4, b5, b6, b7⟩ := rdA_inv b n1 0 k1 [] L q1 (by omega) e2
          rw [List.nil_append] at b1
          have e5 : l' = l := b1.symm.trans h5
          subst e5
          obtain ⟨z1, z2, z3⟩ := zrF_inv b (padN q1) q1 q b5 (Prod.ext h6 (Classical.not_not.1 h4))
          have hk : b.take k1 = lnT l'.length := by rw [b2]; exact i1.1
          have hbd : (bdT l').length = q1 := by rw [bdT, List.length_append, lnT_len, b2]; omega
          refine ⟨by omega, b3, z2, ?_⟩
          have hb : b = ptT l' ++ b.drop q := by
            conv => lhs; rw [← List.take_append_drop k1 b]
            rw [hk, b6, z3, ptT, hbd, bdT]
            simp
          have hpl : (ptT l').length = q := by rw [ptT, List.length_append, List.length_replicate, hbd]; omega
          conv => lhs; rw [hb]
          exact List.take_left' hpl
end Go.Proofs.YtffhpoilifgcdaaDoor

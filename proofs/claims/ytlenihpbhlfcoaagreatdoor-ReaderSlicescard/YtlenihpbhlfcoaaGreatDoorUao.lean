import Derived.Test.YtlenihpbhlfcoaaGreatDoorUad
import Derived.Lib.ItoaNum
set_option maxHeartbeats 8000000
set_option maxRecDepth 100000
set_option linter.unusedSimpArgs false
set_option linter.unusedVariables false
namespace Go.Proofs.YtlenihpbhlfcoaaGreatDoor
abbrev Rg := Int × Int
def vlE (s : Int) : Int → List Rg → Bool
 | _, [] => true
 | e, x :: l => decide (e ≤ x.1) && (decide (x.1 ≤ x.2) && (decide (x.2 ≤ s) && vlE s x.2 l))
def vld (l : List Rg) (s : Int) : Bool := decide (0 ≤ s) && (decide (l.length ≤ 65536) && vlE s 0 l)
theorem vlE_cons {s e : Int} {x : Rg} {l : List Rg} : vlE s e (x :: l) = true ↔ e ≤ x.1 ∧ x.1 ≤ x.2 ∧ x.2 ≤ s ∧ vlE s x.2 l = true := by
 rw [vlE, Bool.and_eq_true, Bool.and_eq_true, Bool.and_eq_true, decide_eq_true_iff, decide_eq_true_iff, decide_eq_true_iff]
theorem vlE_bad {s e : Int} {x : Rg} {l : List Rg} (h : ¬ (e ≤ x.1 ∧ x.1 ≤ x.2 ∧ x.2 ≤ s)) : vlE s e (x :: l) = false := by
 cases hv : vlE s e (x :: l) with
 | false => rfl
 | true => have := vlE_cons.1 hv; exact absurd ⟨this.1, this.2.1, this.2.2.1⟩ h
theorem vlE_step {s e : Int} {x : Rg} {l : List Rg} (h1 : e ≤ x.1) (h2 : x.1 ≤ x.2) (h3 : x.2 ≤ s) : vlE s e (x :: l) = vlE s x.2 l := by
 rw [vlE, decide_eq_true h1, decide_eq_true h2, decide_eq_true h3, Bool.true_and, Bool.true_and, Bool.true_and]
theorem vld_iff {l : List Rg} {s : Int} : vld l s = true ↔ 0 ≤ s ∧ l.length ≤ 65536 ∧ vlE s 0 l = true := by
 rw [vld, Bool.and_eq_true, Bool.and_eq_true, decide_eq_true_iff, decide_eq_true_iff]
theorem vld_neg {l : List Rg} {s : Int} (h : ¬ 0 ≤ s) : vld l s = false := by rw [vld, decide_eq_false h]; rfl
theorem vld_long {l : List Rg} {s : Int} (h : ¬ l.length ≤ 65536) : vld l s = false := by rw [vld, decide_eq_false h, Bool.false_and, Bool.and_false]
theorem vld_else {l : List Rg} {s : Int} (h1 : 0 ≤ s) (h2 : l.length ≤ 65536) : vld l s = vlE s 0 l := by rw [vld, decide_eq_true h1, decide_eq_true h2]; rfl
theorem vlE_all {s e : Int} {l : List Rg} (h : vlE s e l = true) (he : 0 ≤ e) : ∀ x ∈ l, 0 ≤ x.1 ∧ e ≤ x.1 ∧ x.1 ≤ x.2 ∧ x.2 ≤ s := by
 induction l generalizing e with
 | nil => simp
 | cons y l ih =>
  obtain ⟨h1, h2, h3, h4⟩ := vlE_cons.1 h;intro x hx;rcases List.mem_cons.1 hx with rfl | hx
  ·exact ⟨by omega, h1, h2, h3⟩
  ·have := ih h4 (by omega) x hx;exact ⟨this.1, by omega, this.2.2⟩
theorem vlE_drop {s e : Int} {l : List Rg} (h : vlE s e l = true) (he : 0 ≤ e) (i : Nat) : ∃ e', 0 ≤ e' ∧ vlE s e' (l.drop i) = true := by
 induction i generalizing l e with
 | zero => exact ⟨e, he, h⟩
 | succ i ih =>
  cases l with
  | nil => exact ⟨0, by omega, rfl⟩
  | cons y l =>
   obtain ⟨h1, h2, h3, h4⟩ := vlE_cons.1 h;exact ih h4 (by omega)
def hld (l : List Rg) : Int := (l.map (fun x => x.2 - x.1)).sum
theorem hld_nil : hld [] = 0 := rfl
theorem hld_cons (x : Rg) (l : List Rg) : hld (x :: l) = (x.2 - x.1) + hld l := by simp [hld]
theorem hld_snoc (l : List Rg) (x : Rg) : hld (l ++ [x]) = hld l + (x.2 - x.1) := by simp [hld]
theorem hld_app (l m : List Rg) : hld (l ++ m) = hld l + hld m := by simp [hld]
theorem hld_le {s e : Int} {l : List Rg} (h : vlE s e l = true) (he : e ≤ s) : 0 ≤ hld l ∧ hld l ≤ s - e := by
 induction l generalizing e with
 | nil => rw [hld_nil]; omega
 | cons x l ih =>
  obtain ⟨h1, h2, h3, h4⟩ := vlE_cons.1 h;have := ih h4 h3;rw [hld_cons]; omega
theorem hld_part {s : Int} {l : List Rg} (h : vlE s 0 l = true) (hs : 0 ≤ s) (i : Nat) : 0 ≤ hld (l.take i) ∧ hld (l.take i) ≤ hld l ∧ hld l ≤ s := by
 obtain ⟨e', h1, h2⟩ := vlE_drop h (Int.le_refl _) i;have a := hld_le h hs;have b : hld l = hld (l.take i) + hld (l.drop i) := by rw [← hld_app, List.take_append_drop]
 have hnn : ∀ m : List Rg, (∀ x ∈ m, x.1 ≤ x.2) → 0 ≤ hld m := fun m => by
  induction m with
  | nil => intro _; rw [hld_nil]; omega
  | cons x m ih =>
   intro hm;have := ih (fun y hy => hm y (List.mem_cons_of_mem _ hy));have := hm x List.mem_cons_self;rw [hld_cons]; omega
 have hall := vlE_all h (Int.le_refl _);have c := hnn (l.take i) (fun x hx => (hall x (List.mem_of_mem_take hx)).2.2.1);have d := hnn (l.drop i) (fun x hx => (hall x (List.mem_of_mem_drop hx)).2.2.1);omega
def pc (b : List By) (x : Rg) : List By := (b.drop x.1.toNat).take (x.2.toNat - x.1.toNat)
def lay (o : List By) (f : Nat) (d : List By) : List By := o.take f ++ d ++ o.drop (f + d.length)
theorem lay_len (o : List By) (f : Nat) (d : List By) (h : f + d.length ≤ o.length) : (lay o f d).length = o.length := by
 unfold lay;simp only [List.length_append, List.length_take, List.length_drop];omega
def spr : List By → List By → List Rg → List By
 | o, _, [] => o
 | o, d, x :: l => spr (lay o x.1.toNat (d.take (x.2 - x.1).toNat)) (d.drop (x.2 - x.1).toNat) l
def sprd (d : List By) (l : List Rg) (s : Int) : List By := spr (List.replicate s.toNat 0#8) d l
def okS (d : List By) (l : List Rg) (s : Int) : Bool := decide (s ≤ 4194304) && (vld l s && decide (hld l = d.length))
theorem spr_snoc (o d : List By) (l : List Rg) (x : Rg) : spr o d (l ++ [x]) = lay (spr o d l) x.1.toNat ((d.drop (l.map (fun y => (y.2 - y.1).toNat)).sum).take (x.2 - x.1).toNat) := by
 induction l generalizing o d with
 | nil => simp [spr]
 | cons y l ih =>
  rw [List.cons_append, spr, ih, spr];simp [List.drop_drop]
theorem sumN_hld (l : List Rg) (h : ∀ x ∈ l, x.1 ≤ x.2) : (((l.map (fun y => (y.2 - y.1).toNat)).sum : Nat) : Int) = hld l := by
 induction l with
 | nil => rfl
 | cons x l ih =>
  have hx := h x List.mem_cons_self;rw [List.map_cons, List.sum_cons, hld_cons, Int.natCast_add, ih (fun y hy => h y (List.mem_cons_of_mem _ hy))];omega
theorem spr_len (o d : List By) (l : List Rg) (h : ∀ x ∈ l, 0 ≤ x.1 ∧ x.1 ≤ x.2 ∧ x.2 ≤ o.length) : (spr o d l).length = o.length := by
 induction l generalizing o d with
 | nil => rfl
 | cons x l ih =>
  have hx := h x List.mem_cons_self;have hl : (lay o x.1.toNat (d.take (x.2 - x.1).toNat)).length = o.length := lay_len _ _ _ (by rw [List.length_take]; omega);rw [spr, ih _ _ (fun y hy => by rw [hl]; exact h y (List.mem_cons_of_mem _ hy)), hl]
def rgL (l : List (Nat × Nat)) : List Rg := l.map (fun x => ((x.1 : Int), (x.2 : Int)))
theorem rgL_len (l : List (Nat × Nat)) : (rgL l).length = l.length := by simp [rgL]
theorem rgL_snoc (l : List (Nat × Nat)) (x : Nat × Nat) : rgL (l ++ [x]) = rgL l ++ [((x.1 : Int), (x.2 : Int))] := by simp [rgL]
end Go.Proofs.YtlenihpbhlfcoaaGreatDoor
namespace Go.Proofs.YtlenihpbhlfcoaaGreatDoor
open Go.RowKit
def fNv (b : List By) : Int := if 128 ≤ (b.headD 0).toNat then binN b else (octN b : Nat)
def fEv (b : List By) : Nat := if 128 ≤ (b.headD 0).toNat then binE b else octE b
theorem numA_nv (b : List By) : numA b = .tuple #[.int .i64 (fNv b), .int .i64 (fEv b : Nat)] := by
 unfold numA fNv fEv;split
 ·rfl
 ·rfl
theorem fEv_zero (b : List By) (h : fEv b ≠ 0) : fNv b = 0 := by
 unfold fEv at h;unfold fNv;split
 ·rename_i h1;rw [if_pos h1] at h;unfold binE at h;unfold binN;split
  ·rename_i h2;rw [if_pos h2] at h;split
   ·rename_i h3;rw [if_pos h3] at h;exact absurd rfl h
   ·rfl
  ·rfl
 ·rename_i h1;rw [if_neg h1] at h;unfold octE at h;unfold octN;split
  ·rename_i h2;rw [if_pos h2] at h;split
   ·rename_i h3;rw [if_pos h3] at h;exact absurd rfl h
   ·rfl
  ·rfl
theorem fNv_le (b : List By) : fNv b ≤ 9223372036854775807 := by
 unfold fNv;split
 ·unfold binN;split
  ·split
   ·rename_i h;unfold inI at h;simp at h;omega
   ·decide
  ·decide
 ·unfold octN;split
  ·split
   ·rename_i h;unfold mx at h;omega
   ·decide
  ·decide
def szN (b : List By) : Nat × Nat := if fEv b = 0 ∧ fNv b < 0 then (0, 3) else ((fNv b).toNat, fEv b)
theorem szN_bad (b : List By) (h : (szN b).2 ≠ 0) : (szN b).1 = 0 := by
 unfold szN at h ⊢;split
 ·rfl
 ·rename_i h1;rw [if_neg h1] at h;simp only at h ⊢;rw [fEv_zero b h];rfl
theorem szN_le (b : List By) : (szN b).1 ≤ 9223372036854775807 := by
 have := fNv_le b;unfold szN;split
 ·decide
 ·simp only; omega
def one2 (s : List By) : (Nat × Nat) × Nat :=
 if (szN (s.take 12)).2 ≠ 0 then ((0, 0), (szN (s.take 12)).2) else
 if (szN (s.drop 12)).2 ≠ 0 then ((0, 0), (szN (s.drop 12)).2) else
 if 9223372036854775807 - (szN (s.take 12)).1 < (szN (s.drop 12)).1 then ((0, 0), 3) else (((szN (s.take 12)).1, (szN (s.take 12)).1 + (szN (s.drop 12)).1), 0)
def z24 : List By := List.replicate 24 0#8
def rdO (R : List By) : Nat → Nat → List (Nat × Nat) → List (Nat × Nat) × Nat
 | 0, _, acc => (acc, 0)
 | n + 1, at_, acc => if (R.drop at_).take 24 = z24 then (acc, 0) else if (one2 ((R.drop at_).take 24)).2 ≠ 0 then ([], (one2 ((R.drop at_).take 24)).2) else rdO R n (at_ + 24) (acc ++ [(one2 ((R.drop at_).take 24)).1])
def dgt (n : Nat) : List By := if h : n < 10 then [BitVec.ofNat 8 (48 + n)] else dgt (n / 10) ++ [BitVec.ofNat 8 (48 + n % 10)]
termination_by n
decreasing_by omega
theorem dgt_small {n : Nat} (h : n < 10) : dgt n = [BitVec.ofNat 8 (48 + n)] := by rw [dgt, dif_pos h]
theorem dgt_big {n : Nat} (h : ¬ n < 10) : dgt n = dgt (n / 10) ++ [BitVec.ofNat 8 (48 + n % 10)] := by rw [dgt, dif_neg h]
def isDg (c : By) : Prop := 48 ≤ c.toNat ∧ c.toNat ≤ 57
def vlu (n : Nat) (l : List By) : Nat := l.foldl (fun a c => a * 10 + (c.toNat - 48)) n
theorem vlu_app (n : Nat) (l m : List By) : vlu n (l ++ m) = vlu (vlu n l) m := by simp [vlu]
theorem dgt_uniq (l : List By) (hd : ∀ c ∈ l, isDg c) (hz : ∀ c t, l = c :: t → c ≠ 48#8) (hl : l ≠ []) : l = dgt (vlu 0 l) := by
 obtain ⟨n, hn⟩ : ∃ n, n = l.length := ⟨_, rfl⟩
 induction n generalizing l with
 | zero => exact absurd (List.length_eq_zero_iff.1 hn.symm) hl
 | succ n ih =>
  obtain ⟨m, c, rfl⟩ : ∃ m c, l = m ++ [c] := ⟨l.dropLast, l.getLast hl, (List.dropLast_concat_getLast hl).symm⟩;have hc := hd c (by simp);unfold isDg at hc;have hcn : BitVec.ofNat 8 (48 + (c.toNat - 48)) = c := by
   apply BitVec.eq_of_toNat_eq
   rw [BitVec.toNat_ofNat, Nat.mod_eq_of_lt (by omega)];omega
  rw [vlu_app];have hv : vlu (vlu 0 m) [c] = vlu 0 m * 10 + (c.toNat - 48) := rfl;rw [hv];by_cases hm : m = []
  ·subst hm;have : vlu 0 ([] : List By) = 0 := rfl;rw [this, dgt_small (by omega), Nat.zero_mul, Nat.zero_add, hcn];rfl
  ·have e := ih m (fun x hx => hd x (by simp [hx])) (fun x t ht => hz x (t ++ [c]) (by rw [ht]; rfl)) hm (by simp at hn; exact hn);have hpos : 0 < vlu 0 m := by
    rcases Nat.eq_zero_or_pos (vlu 0 m) with h0 | h0
    ·rw [h0, dgt_small (by decide)] at e;exact absurd rfl (hz _ [c] (by rw [e]; rfl))
    ·exact h0
   rw [dgt_big (by omega)];have e1 : (vlu 0 m * 10 + (c.toNat - 48)) / 10 = vlu 0 m := by omega
   have e2 : (vlu 0 m * 10 + (c.toNat - 48)) % 10 = c.toNat - 48 := by omega
   rw [e1, e2, ← e, hcn]
end Go.Proofs.YtlenihpbhlfcoaaGreatDoor
namespace Go.Proofs.YtlenihpbhlfcoaaGreatDoor
def nr (n i : Nat) : List By → Nat × Nat × Nat
 | [] => (0, 0, 4)
 | x :: r => if x = 10#8 ∧ 0 < i then (n, i + 1, 0)
  else if x.toNat < 48 ∨ 57 < x.toNat ∨ (0 < i ∧ n = 0) ∨ (9223372036854775807 - (x.toNat - 48)) / 10 < n then (0, 0, 3)
  else nr (n * 10 + (x.toNat - 48)) (i + 1) r
theorem nr_nil (n i : Nat) : nr n i [] = (0, 0, 4) := rfl
theorem nr_lf (n i : Nat) (r : List By) (hi : 0 < i) : nr n i (10#8 :: r) = (n, i + 1, 0) := by rw [nr, if_pos ⟨rfl, hi⟩]
theorem nr_bad (n i : Nat) (x : By) (r : List By) (h1 : ¬ (x = 10#8 ∧ 0 < i)) (h2 : x.toNat < 48 ∨ 57 < x.toNat ∨ (0 < i ∧ n = 0) ∨ (9223372036854775807 - (x.toNat - 48)) / 10 < n) : nr n i (x :: r) = (0, 0, 3) := by rw [nr, if_neg h1, if_pos h2]
theorem nr_go (n i : Nat) (x : By) (r : List By) (h1 : ¬ (x = 10#8 ∧ 0 < i)) (h2 : ¬ (x.toNat < 48 ∨ 57 < x.toNat ∨ (0 < i ∧ n = 0) ∨ (9223372036854775807 - (x.toNat - 48)) / 10 < n)) : nr n i (x :: r) = nr (n * 10 + (x.toNat - 48)) (i + 1) r := by rw [nr, if_neg h1, if_neg h2]
theorem vlu_cons (n : Nat) (c : By) (t : List By) : vlu n (c :: t) = vlu (n * 10 + (c.toNat - 48)) t := by simp only [vlu, List.foldl_cons]
theorem vlu_nil (n : Nat) : vlu n [] = n := rfl
theorem nr_inv (b : List By) (n i m k : Nat) (h : nr n i b = (m, k, 0)) (hn : n ≤ 9223372036854775807) : ∃ ds, k = i + ds.length + 1 ∧ b.take (ds.length + 1) = ds ++ [10#8] ∧ ds.length + 1 ≤ b.length ∧ (∀ c ∈ ds, isDg c) ∧ m = vlu n ds ∧ m ≤ 9223372036854775807 ∧ (0 < i ∧ n = 0 → ds = []) ∧ (i = 0 → ds ≠ []) := by
 induction b generalizing n i with
 | nil => rw [nr_nil] at h; cases h
 | cons x r ih =>
  by_cases h1 : x = 10#8 ∧ 0 < i
  ·rw [h1.1, nr_lf _ _ _ h1.2] at h;injection h with h3 h4;injection h4 with h4 h5;exact ⟨[], by simp; omega, by rw [h1.1]; rfl, by simp, (fun c hc => by cases hc), by rw [vlu_nil]; exact h3.symm, by omega, fun _ => rfl, fun e => by omega⟩
  ·by_cases h2 : x.toNat < 48 ∨ 57 < x.toNat ∨ (0 < i ∧ n = 0) ∨ (9223372036854775807 - (x.toNat - 48)) / 10 < n
   ·rw [nr_bad _ _ _ _ h1 h2] at h; cases h
   ·rw [nr_go _ _ _ _ h1 h2] at h;have hx : isDg x := ⟨by omega, by omega⟩;have hx2 := hx;unfold isDg at hx2;have hnn : n * 10 + (x.toNat - 48) ≤ 9223372036854775807 := by
     have : n ≤ (9223372036854775807 - (x.toNat - 48)) / 10 := by omega
     rw [Nat.le_div_iff_mul_le (by omega)] at this;omega
    obtain ⟨ds, e1, e2, e3, e4, e5, e6, e7, e8⟩ := ih _ _ h hnn;refine ⟨x :: ds, by rw [List.length_cons]; omega, by rw [List.length_cons, List.take_succ_cons, e2]; rfl, by rw [List.length_cons, List.length_cons]; omega, fun c hc => ?_, by rw [vlu_cons]; exact e5, e6, fun ⟨a1, a2⟩ => absurd (.inr (.inr (.inl ⟨a1, a2⟩))) h2, fun _ => by simp⟩;rcases List.mem_cons.1 hc with rfl | hc
    ·exact hx
    ·exact e4 c hc
theorem num_inv (b : List By) (m k : Nat) (h : nr 0 0 b = (m, k, 0)) : b.take k = dgt m ++ [10#8] ∧ k = (dgt m).length + 1 ∧ k ≤ b.length ∧ m ≤ 9223372036854775807 := by
 cases b with
 | nil => rw [nr_nil] at h; cases h
 | cons x r =>
  have h1 : ¬ (x = 10#8 ∧ 0 < 0) := fun e => absurd e.2 (Nat.lt_irrefl 0)
  by_cases h2 : x.toNat < 48 ∨ 57 < x.toNat ∨ (0 < 0 ∧ 0 = 0) ∨ (9223372036854775807 - (x.toNat - 48)) / 10 < 0
  ·rw [nr_bad _ _ _ _ h1 h2] at h; cases h
  ·rw [nr_go _ _ _ _ h1 h2] at h;have hx : isDg x := ⟨by omega, by omega⟩;have hx2 := hx;unfold isDg at hx2;obtain ⟨ds, e1, e2, e3, e4, e5, e6, e7, _⟩ := nr_inv r _ _ m k h (by omega);have hdm : x :: ds = dgt m := by
    by_cases hz : x = 48#8
    ·have hds := e7 ⟨by omega, by subst hz; rfl⟩;subst hds;subst hz;rw [e5, vlu_nil, dgt_small (by decide)];rfl
    ·have := dgt_uniq (x :: ds) (fun c hc => by rcases List.mem_cons.1 hc with rfl | hc; exact hx; exact e4 c hc) (fun c t e => by injection e with e9 _; rw [← e9]; exact hz) (by simp);rw [this, vlu_cons, ← e5]
   have hl : (dgt m).length = ds.length + 1 := by rw [← hdm, List.length_cons]
   refine ⟨?_, by omega, by rw [List.length_cons]; omega, e6⟩;rw [show k = (ds.length + 1) + 1 by omega, List.take_succ_cons, e2, ← hdm];rfl
def one1 (b : List By) (e p : Nat) : (Nat × Nat) × Nat × Nat :=
 let r1 := nr 0 0 (b.drop p)
 if r1.2.2 ≠ 0 then ((0, 0), 0, r1.2.2) else
 let r2 := nr 0 0 (b.drop (p + r1.2.1))
 if r2.2.2 ≠ 0 then ((0, 0), 0, r2.2.2) else
 if r1.1 < e ∨ 9223372036854775807 - r1.1 < r2.1 then ((0, 0), 0, 3) else ((r1.1, r1.1 + r2.1), p + r1.2.1 + r2.2.1, 0)
def rdA (b : List By) : Nat → Nat → Nat → List (Nat × Nat) → List (Nat × Nat) × Nat × Nat
 | 0, _, p, acc => (acc, p, 0)
 | k + 1, e, p, acc => if (one1 b e p).2.2 ≠ 0 then ([], 0, (one1 b e p).2.2) else rdA b k (one1 b e p).1.2 (one1 b e p).2.1 (acc ++ [(one1 b e p).1])
def zrF (b : List By) : Nat → Nat → Nat × Nat
 | 0, p => (p, 0)
 | k + 1, p => if b.length ≤ p then (0, 4) else if b[p]? = some 0#8 then zrF b k (p + 1) else (0, 3)
def padN (p : Nat) : Nat := (512 - p % 512) % 512
theorem padN_zero {p : Nat} (h : p % 512 = 0) : padN p = 0 := by unfold padN; omega
theorem padN_succ {p : Nat} (h : p % 512 ≠ 0) : padN p = padN (p + 1) + 1 := by unfold padN; omega
def rdT (b : List By) : List (Nat × Nat) × Nat × Nat :=
 let r := nr 0 0 b
 if r.2.2 ≠ 0 then ([], 0, r.2.2) else
 if 65536 < r.1 then ([], 0, 2) else
 let s := rdA b r.1 0 r.2.1 []
 if s.2.2 ≠ 0 then ([], 0, s.2.2) else
 let z := zrF b (padN s.2.1) s.2.1
 if z.2 ≠ 0 then ([], 0, z.2) else (s.1, z.1, 0)
def lnT (n : Nat) : List By := dgt n ++ [10#8]
def rgT (x : Nat × Nat) : List By := lnT x.1 ++ lnT (x.2 - x.1)
def rgsT (l : List (Nat × Nat)) : List By := (l.map rgT).flatten
def bdT (l : List (Nat × Nat)) : List By := lnT l.length ++ rgsT l
def ptT (l : List (Nat × Nat)) : List By := bdT l ++ List.replicate (padN (bdT l).length) 0#8
theorem rgsT_cons (x : Nat × Nat) (l : List (Nat × Nat)) : rgsT (x :: l) = rgT x ++ rgsT l := by simp [rgsT]
def chn : Nat → List (Nat × Nat) → Prop
 | _, [] => True
 | e, x :: l => e ≤ x.1 ∧ x.1 ≤ x.2 ∧ x.2 ≤ 9223372036854775807 ∧ chn x.2 l
theorem lnT_len (n : Nat) : (lnT n).length = (dgt n).length + 1 := by simp [lnT]
theorem one1_inv (b : List By) (e p : Nat) (x : Nat × Nat) (q : Nat) (hp : p ≤ b.length) (h : one1 b e p = (x, q, 0)) : e ≤ x.1 ∧ x.1 ≤ x.2 ∧ x.2 ≤ 9223372036854775807 ∧ p ≤ q ∧ q ≤ b.length ∧ b.drop p = rgT x ++ b.drop q ∧ q = p + (rgT x).length := by
 unfold one1 at h;simp only at h;by_cases h1 : (nr 0 0 (b.drop p)).2.2 ≠ 0
 ·rw [if_pos h1] at h; injection h with _ h; injection h with _ h; exact absurd h h1
 ·rw [if_neg h1] at h;by_cases h2 : (nr 0 0 (b.drop (p + (nr 0 0 (b.drop p)).2.1))).2.2 ≠ 0
  ·rw [if_pos h2] at h; injection h with _ h; injection h with _ h; exact absurd h h2
  ·rw [if_neg h2] at h;obtain ⟨n1, k1, e1⟩ : ∃ n1 k1, nr 0 0 (b.drop p) = (n1, k1, 0) := ⟨_, _, Prod.ext rfl (Prod.ext rfl (Classical.not_not.1 h1))⟩;rw [e1] at h2 h;obtain ⟨n2, k2, e2⟩ : ∃ n2 k2, nr 0 0 (b.drop (p + k1)) = (n2, k2, 0) := ⟨_, _, Prod.ext rfl (Prod.ext rfl (Classical.not_not.1 h2))⟩;rw [e2] at h;simp only at h;by_cases h3 : n1 < e ∨ 9223372036854775807 - n1 < n2
   ·rw [if_pos h3] at h; injection h with _ h; injection h with _ h; cases h
   ·rw [if_neg h3] at h;injection h with hx h;injection h with hq _;have i1 := num_inv _ _ _ e1;have i2 := num_inv _ _ _ e2;rw [List.length_drop] at i1 i2;subst hx;have hrt : rgT (n1, n1 + n2) = lnT n1 ++ lnT n2 := by rw [rgT]; show lnT n1 ++ lnT (n1 + n2 - n1) = _; rw [Nat.add_sub_cancel_left]
    have hl : (rgT (n1, n1 + n2)).length = k1 + k2 := by rw [hrt, List.length_append, lnT_len, lnT_len]; omega
    refine ⟨by show e ≤ n1; omega, by show n1 ≤ n1 + n2; omega, by show n1 + n2 ≤ _; omega, by omega, by omega, ?_, by rw [hl]; omega⟩;rw [hrt];have t1 : (b.drop p).take k1 = lnT n1 := i1.1;have t2 : (b.drop (p + k1)).take k2 = lnT n2 := i2.1;rw [← t1, ← t2, List.append_assoc, ← hq]
    conv => lhs; rw [← List.take_append_drop k1 (b.drop p), List.drop_drop]
    congr 1
    conv => lhs; rw [← List.take_append_drop k2 (b.drop (p + k1)), List.drop_drop]
theorem rdA_inv (b : List By) (k e p : Nat) (acc L : List (Nat × Nat)) (q : Nat) (hp : p ≤ b.length) (h : rdA b k e p acc = (L, q, 0)) : ∃ l, L = acc ++ l ∧ l.length = k ∧ chn e l ∧ p ≤ q ∧ q ≤ b.length ∧ b.drop p = rgsT l ++ b.drop q ∧ q = p + (rgsT l).length := by
 induction k generalizing e p acc with
 | zero =>
  rw [rdA] at h;injection h with h1 h2;injection h2 with h2 _;subst h2;exact ⟨[], by rw [List.append_nil]; exact h1.symm, rfl, trivial, Nat.le_refl _, hp, rfl, rfl⟩
 | succ k ih =>
  rw [rdA] at h;by_cases h1 : (one1 b e p).2.2 ≠ 0
  ·rw [if_pos h1] at h; injection h with _ h; injection h with _ h; exact absurd h h1
  ·rw [if_neg h1] at h;obtain ⟨x, p', e1⟩ : ∃ x p', one1 b e p = (x, p', 0) := ⟨_, _, Prod.ext rfl (Prod.ext rfl (Classical.not_not.1 h1))⟩;rw [e1] at h;obtain ⟨a1, a2, a3, a4, a5, a6, a7⟩ := one1_inv b e p x p' hp e1;obtain ⟨l, b1, b2, b3, b4, b5, b6, b7⟩ := ih x.2 p' (acc ++ [x]) a5 h;refine ⟨x :: l, by rw [b1]; simp, by rw [List.length_cons, b2], ⟨a1, a2, a3, b3⟩, by omega, b5, ?_, by rw [rgsT_cons, List.length_append]; omega⟩;rw [rgsT_cons, List.append_assoc, ← b6, ← a6]
theorem zrF_inv (b : List By) (k p q : Nat) (hp : p ≤ b.length) (h : zrF b k p = (q, 0)) : q = p + k ∧ q ≤ b.length ∧ b.drop p = List.replicate k 0#8 ++ b.drop q := by
 induction k generalizing p with
 | zero =>
  rw [zrF] at h;injection h with h _;subst h;exact ⟨rfl, hp, rfl⟩
 | succ k ih =>
  rw [zrF] at h;by_cases h1 : b.length ≤ p
  ·rw [if_pos h1] at h; injection h with _ h; cases h
  ·rw [if_neg h1] at h;by_cases h2 : b[p]? = some 0#8
   ·rw [if_pos h2] at h;obtain ⟨e1, e2, e3⟩ := ih (p + 1) (by omega) h;refine ⟨by omega, e2, ?_⟩;obtain ⟨hp2, h3⟩ := List.getElem?_eq_some_iff.1 h2;rw [List.drop_eq_getElem_cons hp2, h3, e3, List.replicate_succ];rfl
   ·rw [if_neg h2] at h; injection h with _ h; cases h
theorem rdT_inv (b : List By) (l : List (Nat × Nat)) (q : Nat) (h : rdT b = (l, q, 0)) : l.length ≤ 65536 ∧ chn 0 l ∧ q ≤ b.length ∧ b.take q = ptT l := by
 unfold rdT at h;simp only at h;by_cases h1 : (nr 0 0 b).2.2 ≠ 0
 ·rw [if_pos h1] at h; injection h with _ h; injection h with _ h; exact absurd h h1
 ·rw [if_neg h1] at h;obtain ⟨n1, k1, e1⟩ : ∃ n1 k1, nr 0 0 b = (n1, k1, 0) := ⟨_, _, Prod.ext rfl (Prod.ext rfl (Classical.not_not.1 h1))⟩;rw [e1] at h;simp only at h;by_cases h2 : 65536 < n1
  ·rw [if_pos h2] at h; injection h with _ h; injection h with _ h; cases h
  ·rw [if_neg h2] at h;by_cases h3 : (rdA b n1 0 k1 []).2.2 ≠ 0
   ·rw [if_pos h3] at h; injection h with _ h; injection h with _ h; exact absurd h h3
   ·rw [if_neg h3] at h;obtain ⟨L, q1, e2⟩ : ∃ L q1, rdA b n1 0 k1 [] = (L, q1, 0) := ⟨_, _, Prod.ext rfl (Prod.ext rfl (Classical.not_not.1 h3))⟩;rw [e2] at h;simp only at h;by_cases h4 : (zrF b (padN q1) q1).2 ≠ 0
    ·rw [if_pos h4] at h; injection h with _ h; injection h with _ h; exact absurd h h4
    ·rw [if_neg h4] at h;injection h with h5 h6;injection h6 with h6 _;have i1 := num_inv b n1 k1 e1;obtain ⟨l', b1, b2, b3, b4, b5, b6, b7⟩ := rdA_inv b n1 0 k1 [] L q1 (by omega) e2;rw [List.nil_append] at b1;have e5 : l' = l := b1.symm.trans h5;subst e5;obtain ⟨z1, z2, z3⟩ := zrF_inv b (padN q1) q1 q b5 (Prod.ext h6 (Classical.not_not.1 h4));have hk : b.take k1 = lnT l'.length := by rw [b2]; exact i1.1
     have hbd : (bdT l').length = q1 := by rw [bdT, List.length_append, lnT_len, b2]; omega
     refine ⟨by omega, b3, z2, ?_⟩;have hb : b = ptT l' ++ b.drop q := by
      conv => lhs; rw [← List.take_append_drop k1 b]
      rw [hk, b6, z3, ptT, hbd, bdT];simp
     have hpl : (ptT l').length = q := by rw [ptT, List.length_append, List.length_replicate, hbd]; omega
     conv => lhs; rw [hb]
     exact List.take_left' hpl
end Go.Proofs.YtlenihpbhlfcoaaGreatDoor

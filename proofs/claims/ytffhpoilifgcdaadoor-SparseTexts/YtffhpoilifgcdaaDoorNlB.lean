import Derived.Test.YtffhpoilifgcdaaDoorNlA
namespace Go.Proofs.YtffhpoilifgcdaaDoor
set_option linter.unusedVariables false
/-! ### Valid, Join, Spread, pure -/
def vlE (s : Int) : Int → List Rg → Bool
  | _, [] => true
  | e, x :: l => decide (e ≤ x.1) && (decide (x.1 ≤ x.2) && (decide (x.2 ≤ s) && vlE s x.2 l))
def vld (l : List Rg) (s : Int) : Bool := decide (0 ≤ s) && (decide (l.length ≤ 65536) && vlE s 0 l)
theorem vlE_cons {s e : Int} {x : Rg} {l : List Rg} : vlE s e (x :: l) = true ↔ e ≤ x.1 ∧ x.1 ≤ x.2 ∧ x.2 ≤ s ∧ vlE s x.2 l = true := by
  rw [vlE, Bool.and_eq_true, Bool.and_eq_true, Bool.and_eq_true, decide_eq_true_iff, decide_eq_true_iff, decide_eq_true_iff]
theorem vlE_bad {s e : Int} {x : Rg} {l : List Rg} (h : ¬ (e ≤ x.1 ∧ x.1 ≤ x.2 ∧ x.2 ≤ s)) : vlE s e (x :: l) = false := by
  cases hv : vlE s e (x :: l) with
  | false => rfl
  | true => have := vlE_cons.1 hv; exact absurd ⟨this.1, this.2.1, this.2.2.1⟩ h
theorem vlE_step {s e : Int} {x : Rg} {l : List Rg} (h1 : e ≤ x.1) (h2 : x.1 ≤ x.2) (h3 : x.2 ≤ s) : vlE s e (x :: l) = vlE s x.2 l := by
  rw [vlE, decide_eq_true h1, decide_eq_true h2, decide_eq_true h3, Bool.true_and, Bool.true_and, Bool.true_and]
theorem vld_iff {l : List Rg} {s : Int} : vld l s = true ↔ 0 ≤ s ∧ l.length ≤ 65536 ∧ vlE s 0 l = true := by
  rw [vld, Bool.and_eq_true, Bool.and_eq_true, decide_eq_true_iff, decide_eq_true_iff]
theorem vld_neg {l : List Rg} {s : Int} (h : ¬ 0 ≤ s) : vld l s = false := by rw [vld, decide_eq_false h]; rfl
theorem vld_long {l : List Rg} {s : Int} (h : ¬ l.length ≤ 65536) : vld l s = false := by rw [vld, decide_eq_false h, Bool.false_and, Bool.and_false]
theorem vld_else {l : List Rg} {s : Int} (h1 : 0 ≤ s) (h2 : l.length ≤ 65536) : vld l s = vlE s 0 l := by rw [vld, decide_eq_true h1, decide_eq_true h2]; rfl
/-- Every range of such a map lies within. -/
theorem vlE_all {s e : Int} {l : List Rg} (h : vlE s e l = true) (he : 0 ≤ e) : ∀ x ∈ l, 0 ≤ x.1 ∧ e ≤ x.1 ∧ x.1 ≤ x.2 ∧ x.2 ≤ s := by
  induction l generalizing e with
  | nil => simp
  | cons y l ih =>
    obtain ⟨h1, h2, h3, h4⟩ := vlE_cons.1 h
    intro x hx
    rcases List.mem_cons.1 hx with rfl | hx
    · exact ⟨by omega, h1, h2, h3⟩
    · have := ih h4 (by omega) x hx
      exact ⟨this.1, by omega, this.2.2⟩
theorem vlE_drop {s e : Int} {l : List Rg} (h : vlE s e l = true) (he : 0 ≤ e) (i : Nat) : ∃ e', 0 ≤ e' ∧ vlE s e' (l.drop i) = true := by
  induction i generalizing l e with
  | zero => exact ⟨e, he, h⟩
  | succ i ih =>
    cases l with
    | nil => exact ⟨0, by omega, rfl⟩
    | cons y l =>
      obtain ⟨h1, h2, h3, h4⟩ := vlE_cons.1 h
      exact ih h4 (by omega)
def hld (l : List Rg) : Int := (l.map (fun x => x.2 - x.1)).sum
theorem hld_nil : hld [] = 0 := rfl
theorem hld_cons (x : Rg) (l : List Rg) : hld (x :: l) = (x.2 - x.1) + hld l := by simp [hld]
theorem hld_snoc (l : List Rg) (x : Rg) : hld (l ++ [x]) = hld l + (x.2 - x.1) := by simp [hld]
theorem hld_app (l m : List Rg) : hld (l ++ m) = hld l + hld m := by simp [hld]
theorem hld_le {s e : Int} {l : List Rg} (h : vlE s e l = true) (he : e ≤ s) : 0 ≤ hld l ∧ hld l ≤ s - e := by
  induction l generalizing e with
  | nil => rw [hld_nil]; omega
  | cons x l ih =>
    obtain ⟨h1, h2, h3, h4⟩ := vlE_cons.1 h
    have := ih h4 h3
    rw [hld_cons]; omega
theorem hld_part {s : Int} {l : List Rg} (h : vlE s 0 l = true) (hs : 0 ≤ s) (i : Nat) : 0 ≤ hld (l.take i) ∧ hld (l.take i) ≤ hld l ∧ hld l ≤ s := by
  obtain ⟨e', h1, h2⟩ := vlE_drop h (Int.le_refl _) i
  have a := hld_le h hs
  have b : hld l = hld (l.take i) + hld (l.drop i) := by rw [← hld_app, List.take_append_drop]
  have hnn : ∀ m : List Rg, (∀ x ∈ m, x.1 ≤ x.2) → 0 ≤ hld m := fun m => by
    induction m with
    | nil => intro _; rw [hld_nil]; omega
    | cons x m ih =>
      intro hm
      have := ih (fun y hy => hm y (List.mem_cons_of_mem _ hy))
      have := hm x List.mem_cons_self
      rw [hld_cons]; omega
  have hall := vlE_all h (Int.le_refl _)
  have c := hnn (l.take i) (fun x hx => (hall x (List.mem_of_mem_take hx)).2.2.1)
  have d := hnn (l.drop i) (fun x hx => (hall x (List.mem_of_mem_drop hx)).2.2.1)
  omega
/-- A range's bytes. -/
def pc (b : List By) (x : Rg) : List By := (b.drop x.1.toNat).take (x.2.toNat - x.1.toNat)
theorem pc_len (b : List By) (x : Rg) (h0 : 0 ≤ x.1) (h1 : x.1 ≤ x.2) (h2 : x.2 ≤ b.length) : ((pc b x).length : Int) = x.2 - x.1 := by
  unfold pc
  rw [List.length_take, List.length_drop]
  omega
def jn (b : List By) (l : List Rg) : List By := (l.map (pc b)).flatten
theorem jn_nil (b : List By) : jn b [] = [] := rfl
theorem jn_cons (b : List By) (x : Rg) (l : List Rg) : jn b (x :: l) = pc b x ++ jn b l := by simp [jn]
theorem jn_snoc (b : List By) (l : List Rg) (x : Rg) : jn b (l ++ [x]) = jn b l ++ pc b x := by simp [jn]
theorem jn_len (b : List By) (l : List Rg) (h : ∀ x ∈ l, 0 ≤ x.1 ∧ x.1 ≤ x.2 ∧ x.2 ≤ b.length) : ((jn b l).length : Int) = hld l := by
  induction l with
  | nil => rfl
  | cons x l ih =>
    have hx := h x List.mem_cons_self
    have := pc_len b x hx.1 hx.2.1 hx.2.2
    rw [jn_cons, hld_cons, List.length_append, Int.natCast_add, ih (fun y hy => h y (List.mem_cons_of_mem _ hy))]
    omega
/-- Bytes laid over others from f on. -/
def lay (o : List By) (f : Nat) (d : List By) : List By := o.take f ++ d ++ o.drop (f + d.length)
theorem lay_len (o : List By) (f : Nat) (d : List By) (h : f + d.length ≤ o.length) : (lay o f d).length = o.length := by
  unfold lay
  simp only [List.length_append, List.length_take, List.length_drop]
  omega
theorem lay_at (o : List By) (f : Nat) (d : List By) (h : f + d.length ≤ o.length) (j : Nat) : (lay o f d)[j]? = if f ≤ j ∧ j < f + d.length then d[j - f]? else o[j]? := by
  unfold lay
  by_cases h1 : j < f
  · rw [if_neg (by omega), List.append_assoc, List.getElem?_append_left (by rw [List.length_take]; omega), List.getElem?_take, if_pos h1]
  · by_cases h2 : j < f + d.length
    · rw [if_pos ⟨by omega, h2⟩, List.getElem?_append_left (by rw [List.length_append, List.length_take]; omega), List.getElem?_append_right (by rw [List.length_take]; omega), List.length_take, Nat.min_eq_left (by omega)]
    · rw [if_neg (by omega), List.getElem?_append_right (by rw [List.length_append, List.length_take]; omega), List.getElem?_drop, List.length_append, List.length_take, Nat.min_eq_left (by omega)]
      congr 1
      omega
def spr : List By → List By → List Rg → List By
  | o, _, [] => o
  | o, d, x :: l => spr (lay o x.1.toNat (d.take (x.2 - x.1).toNat)) (d.drop (x.2 - x.1).toNat) l
/-- What Spread answers, of a map that can be and as many bytes as it has. -/
def sprd (d : List By) (l : List Rg) (s : Int) : List By := spr (List.replicate s.toNat 0#8) d l
def okS (d : List By) (l : List Rg) (s : Int) : Bool := decide (s ≤ 4194304) && (vld l s && decide (hld l = d.length))
theorem spr_snoc (o d : List By) (l : List Rg) (x : Rg) : spr o d (l ++ [x]) = lay (spr o d l) x.1.toNat ((d.drop (l.map (fun y => (y.2 - y.1).toNat)).sum).take (x.2 - x.1).toNat) := by
  induction l generalizing o d with
  | nil => simp [spr]
  | cons y l ih =>
    rw [List.cons_append, spr, ih, spr]
    simp [List.drop_drop]
theorem sumN_hld (l : List Rg) (h : ∀ x ∈ l, x.1 ≤ x.2) : (((l.map (fun y => (y.2 - y.1).toNat)).sum : Nat) : Int) = hld l := by
  induction l with
  | nil => rfl
  | cons x l ih =>
    have hx := h x List.mem_cons_self
    rw [List.map_cons, List.sum_cons, hld_cons, Int.natCast_add, ih (fun y hy => h y (List.mem_cons_of_mem _ hy))]
    omega
theorem spr_len (o d : List By) (l : List Rg) (h : ∀ x ∈ l, 0 ≤ x.1 ∧ x.1 ≤ x.2 ∧ x.2 ≤ o.length) : (spr o d l).length = o.length := by
  induction l generalizing o d with
  | nil => rfl
  | cons x l ih =>
    have hx := h x List.mem_cons_self
    have hl : (lay o x.1.toNat (d.take (x.2 - x.1).toNat)).length = o.length := lay_len _ _ _ (by rw [List.length_take]; omega)
    rw [spr, ih _ _ (fun y hy => by rw [hl]; exact h y (List.mem_cons_of_mem _ hy)), hl]
/-! ### There and back -/
def rgL (l : List (Nat × Nat)) : List Rg := l.map (fun x => ((x.1 : Int), (x.2 : Int)))
theorem rgL_len (l : List (Nat × Nat)) : (rgL l).length = l.length := by simp [rgL]
theorem rgL_snoc (l : List (Nat × Nat)) (x : Nat × Nat) : rgL (l ++ [x]) = rgL l ++ [((x.1 : Int), (x.2 : Int))] := by simp [rgL]
theorem rgL_at (l : List (Nat × Nat)) (i : Nat) (h : i < l.length) : (rgL l)[i]? = some ((l[i].1 : Int), (l[i].2 : Int)) := by simp [rgL, h]
open Classical in
theorem spr_jn (b : List By) (l : List (Nat × Nat)) (o : List By) (ho : o.length = b.length) (h : ∀ x ∈ l, x.1 ≤ x.2 ∧ x.2 ≤ b.length) (j : Nat) : (spr o (jn b (rgL l)) (rgL l))[j]? = if Cov l j then b[j]? else o[j]? := by
  induction l generalizing o with
  | nil => rw [if_neg (cov_nil j)]; rfl
  | cons x l ih =>
    have hx := h x List.mem_cons_self
    have hp : (pc b ((x.1 : Int), (x.2 : Int))).length = x.2 - x.1 := by
      have := pc_len b ((x.1 : Int), (x.2 : Int)) (by show (0 : Int) ≤ (x.1 : Int); omega) (by show (x.1 : Int) ≤ (x.2 : Int); omega) (by show (x.2 : Int) ≤ _; omega)
      simp only at this
      omega
    have e1 : rgL (x :: l) = ((x.1 : Int), (x.2 : Int)) :: rgL l := rfl
    have e2 : ((x.2 : Int) - (x.1 : Int)).toNat = x.2 - x.1 := by omega
    rw [e1, jn_cons, spr]
    simp only [e2, Int.toNat_natCast]
    rw [List.take_left' hp, List.drop_left' hp]
    have hl : (lay o x.1 (pc b ((x.1 : Int), (x.2 : Int)))).length = b.length := by rw [lay_len _ _ _ (by rw [hp]; omega), ho]
    rw [ih _ hl (fun y hy => h y (List.mem_cons_of_mem _ hy)), lay_at o x.1 (pc b ((x.1 : Int), (x.2 : Int))) (by rw [hp]; omega), hp]
    by_cases hc : Cov l j
    · rw [if_pos hc, if_pos ((cov_cons x l j).2 (.inr hc))]
    · rw [if_neg hc]
      by_cases hj : x.1 ≤ j ∧ j < x.2
      · rw [if_pos (by omega), if_pos ((cov_cons x l j).2 (.inl hj))]
        unfold pc
        rw [List.getElem?_take]
        simp only [Int.toNat_natCast]
        rw [if_pos (by omega), List.getElem?_drop]
        congr 1
        omega
      · rw [if_neg (by omega), if_neg (fun e => by rcases (cov_cons x l j).1 e with e | e; exact hj e; exact hc e)]
theorem Fnd.round {b : List By} {n : Nat} {l : List (Nat × Nat)} (h : Fnd b n l) : sprd (jn b (rgL l)) (rgL l) b.length = b := by
  apply List.ext_getElem?
  intro j
  unfold sprd
  rw [spr_jn b l _ (by rw [List.length_replicate]; omega) (fun x hx => ⟨Nat.le_of_lt (h.each x hx).1, (h.each x hx).2⟩)]
  by_cases hc : Cov l j
  · rw [if_pos hc]
  · rw [if_neg hc]
    by_cases hj : j < b.length
    · have : InH b n j := Classical.byContradiction fun hn => hc ((h.mem j hj).2 hn)
      rw [this.zero, List.getElem?_replicate, if_pos (by omega)]
    · rw [List.getElem?_eq_none (by rw [List.length_replicate]; omega), List.getElem?_eq_none (by omega)]
theorem gaps_vlE (s : Nat) (e : Nat) (l : List (Nat × Nat)) (hg : Gaps l) (h : ∀ x ∈ l, e ≤ x.1 ∧ x.1 ≤ x.2 ∧ x.2 ≤ s) : vlE s e (rgL l) = true := by
  induction l generalizing e with
  | nil => rfl
  | cons x l ih =>
    have hx := h x List.mem_cons_self
    have gl := List.pairwise_cons.1 hg
    have e1 : rgL (x :: l) = ((x.1 : Int), (x.2 : Int)) :: rgL l := rfl
    rw [e1]
    refine vlE_cons.2 ⟨by show (e : Int) ≤ (x.1 : Int); omega, by show (x.1 : Int) ≤ (x.2 : Int); omega, by show (x.2 : Int) ≤ (s : Int); omega, ?_⟩
    exact ih x.2 gl.2 (fun y hy => by have := gl.1 y hy; have := h y (List.mem_cons_of_mem _ hy); omega)
theorem Fnd.vlE {b : List By} {n : Nat} {l : List (Nat × Nat)} (h : Fnd b n l) : _root_.Go.Proofs.YtffhpoilifgcdaaDoor.vlE b.length 0 (rgL l) = true := gaps_vlE b.length 0 l h.rise (fun x hx => by have := h.each x hx; omega)
theorem Fnd.vld {b : List By} {n : Nat} {l : List (Nat × Nat)} (h : Fnd b n l) : _root_.Go.Proofs.YtffhpoilifgcdaaDoor.vld (rgL l) b.length = decide (l.length ≤ 65536) := by
  by_cases hl : l.length ≤ 65536
  · rw [vld_else (by omega) (by rw [rgL_len]; exact hl), decide_eq_true hl]
    exact h.vlE
  · rw [vld_long (by rw [rgL_len]; exact hl), decide_eq_false hl]
theorem Fnd.hldj {b : List By} {n : Nat} {l : List (Nat × Nat)} (h : Fnd b n l) : hld (rgL l) = (jn b (rgL l)).length := by
  rw [jn_len b (rgL l) (fun x hx => by
    have := vlE_all h.vlE (Int.le_refl _) x hx
    exact ⟨this.1, this.2.2.1, this.2.2.2⟩)]
theorem Fnd.okS {b : List By} {n : Nat} {l : List (Nat × Nat)} (h : Fnd b n l) (h1 : l.length ≤ 65536) (h2 : b.length ≤ 4194304) : _root_.Go.Proofs.YtffhpoilifgcdaaDoor.okS (jn b (rgL l)) (rgL l) b.length = true := by
  unfold _root_.Go.Proofs.YtffhpoilifgcdaaDoor.okS
  rw [h.vld, decide_eq_true h1, decide_eq_true (by omega), decide_eq_true h.hldj]
  rfl
end Go.Proofs.YtffhpoilifgcdaaDoor

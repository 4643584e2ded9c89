import Derived.Test.YtoegbaenheeogaaNgD
namespace Go.Proofs.Ytoegbaenheeogaa
open Go.RowKit
set_option linter.unusedVariables false
/-! ### A sum, pure -/
theorem su_fold (l : List By) (n : Int) : l.foldl (fun n x => n + (x.toNat : Int)) n = n + su l := by
  induction l generalizing n with
  | nil => simp [su]
  | cons x l ih =>
    unfold su
    rw [List.foldl_cons, List.foldl_cons, ih, ih (0 + (x.toNat : Int))]; omega
theorem su_cons (x : By) (l : List By) : su (x :: l) = (x.toNat : Int) + su l := by
  show (x :: l).foldl _ 0 = _
  rw [List.foldl_cons, su_fold]; omega
theorem su_set (l : List By) (i : Nat) (h : i < l.length) (y : By) : su (l.set i y) = su l - (l[i].toNat : Int) + (y.toNat : Int) := by
  induction l generalizing i with
  | nil => simp at h
  | cons x l ih =>
    cases i with
    | zero => rw [List.set_cons_zero, su_cons, su_cons]; simp; omega
    | succ i =>
      rw [List.set_cons_succ, su_cons, su_cons, ih i (by simpa using h)]
      simp; omega
theorem blk_set_in (b : List By) (hb : b.length = 512) (i : Nat) (h1 : 148 ≤ i) (h2 : i < 156) (y : By) : blk (b.set i y) = blk b := by
  unfold blk
  rw [List.take_set, List.set_eq_of_length_le (by rw [List.length_take]; omega), List.drop_set_of_lt (by omega)]
theorem blk_set_out (b : List By) (hb : b.length = 512) (i : Nat) (hi : i < 512) (h : ¬ (148 ≤ i ∧ i < 156)) (y : By) : blk (b.set i y) = (blk b).set i y := by
  have hl := blk_length b hb
  have hl2 := blk_length (b.set i y) (by rw [List.length_set]; exact hb)
  apply List.ext_getElem
  · rw [List.length_set, hl, hl2]
  · intro k h1 h2
    rw [blk_at (b.set i y) (by rw [List.length_set]; exact hb) k (by omega) h1, List.getElem_set, List.getElem_set]
    rw [blk_at b hb k (by omega) (by omega)]
    by_cases hk : 148 ≤ k ∧ k < 156
    · rw [if_pos hk, if_pos hk, if_neg (by omega)]
    · rw [if_neg hk, if_neg hk]
theorem blk_psm (b : List By) (hb : b.length = 512) : blk (psm b) = blk b := by
  have h1 : (b.take 148).length = 148 := by rw [List.length_take]; omega
  have hd : (dgl b).length = 6 := ol_length _ _
  unfold blk
  congr 1
  · unfold psm
    rw [List.take_append_of_le_length (by omega), List.take_of_length_le (by omega)]
  · congr 1
    have e : psm b = (b.take 148 ++ (dgl b ++ [0#8, 32#8])) ++ b.drop 156 := by unfold psm; simp
    rw [e, List.drop_append, List.drop_eq_nil_of_le (by rw [List.length_append, List.length_append, h1, hd]; decide), List.length_append, List.length_append, h1, hd, List.nil_append]
    rfl
theorem fld_psm (b : List By) (hb : b.length = 512) : fld (psm b) = dgl b ++ [0#8, 32#8] := by
  have h1 : (b.take 148).length = 148 := by rw [List.length_take]; omega
  have hd : (dgl b).length = 6 := ol_length _ _
  unfold fld psm
  rw [List.drop_append, List.drop_eq_nil_of_le (by omega), h1, List.nil_append, Nat.sub_self, List.drop_zero, ← List.append_assoc, List.take_append_of_le_length (by rw [List.length_append, hd]; decide), List.take_of_length_le (by rw [List.length_append, hd]; decide)]
theorem oct_ol2 (n k : Nat) (r : List By) (hr : r.all isBz = true) (h : n / 8 ^ k = 0) (hm : n ≤ mx) (hk : 0 < k) : octN (ol n k ++ r) = n ∧ octE (ol n k ++ r) = 0 := by
  have hd : (ol n k ++ r).dropWhile isBl = ol n k ++ r := by
    obtain ⟨j, rfl⟩ : ∃ j, k = j + 1 := ⟨k - 1, by omega⟩
    rw [ol, List.cons_append, List.dropWhile_cons, if_neg (by rw [isD_bl _ (dg_isD _)]; decide)]
  have ht := tw_all (ol n k) r isD (ol_all n k) (fun x e => by
    have hx : isBz x = true := List.all_eq_true.1 hr x (List.mem_of_mem_head? e)
    cases hq : isD x with
    | false => rfl
    | true => rw [isD_bz x hq] at hx; cases hx)
  have e1 : dgs (ol n k ++ r) = ol n k := by unfold dgs; rw [hd, ht.1]
  have e2 : rst (ol n k ++ r) = r := by unfold rst; rw [hd, ht.2]
  have e4 := ol_fit n k h
  unfold octN octE
  rw [e1, e2, hr, e4, if_pos rfl, if_pos rfl, if_pos hm, if_pos hm]
  exact ⟨rfl, rfl⟩
/-- A record with its sum is good. -/
theorem chk_psm (b : List By) (hb : b.length = 512) : chk (psm b) = true := by
  obtain ⟨h1, h2⟩ := su_bound (blk b)
  rw [blk_length b hb] at h2
  have hz : (su (blk b)).toNat / 8 ^ 6 = 0 := (Nat.div_eq_zero_iff_lt (by decide)).2 (by have h8 : (8 : Nat) ^ 6 = 262144 := (by decide); omega)
  obtain ⟨q1, q2⟩ := oct_ol2 (su (blk b)).toNat 6 [0#8, 32#8] (by decide) hz (by rw [mx_eq]; omega) (by decide)
  unfold chk
  rw [fld_psm b hb, blk_psm b hb]
  have e1 : octE (dgl b ++ [0#8, 32#8]) = 0 := q2
  have e2 : octN (dgl b ++ [0#8, 32#8]) = (su (blk b)).toNat := q1
  rw [e1, e2, decide_eq_true rfl, decide_eq_true (by omega)]
  rfl
/-- One byte turned: the first sum is another one, but in the sum's field. -/
theorem sum_turned (x : List By) (hx : x.length = 512) (i : Nat) (hi : i < 512) (t : By) : decide (su (blk x) = su (blk (x.set i ((x[i]'(by omega)) ^^^ t)))) = decide (t = 0#8 ∨ (148 ≤ i ∧ i < 156)) := by
  apply decide_eq_decide.2
  by_cases hin : 148 ≤ i ∧ i < 156
  · rw [blk_set_in x hx i hin.1 hin.2]
    exact ⟨fun _ => .inr hin, fun _ => rfl⟩
  · rw [blk_set_out x hx i hi hin, su_set _ i (by rw [blk_length x hx]; exact hi), blk_at x hx i hi (by rw [blk_length x hx]; exact hi), if_neg hin]
    generalize x[i]'(by omega) = a
    constructor
    · intro h
      left
      have : (a ^^^ t).toNat = a.toNat := by omega
      have e := BitVec.eq_of_toNat_eq this
      have : a ^^^ (a ^^^ t) = a ^^^ a := by rw [e]
      rw [← BitVec.xor_assoc, BitVec.xor_self, BitVec.zero_xor] at this
      exact this
    · rintro (rfl | h)
      · simp
      · exact absurd h hin
end Go.Proofs.Ytoegbaenheeogaa

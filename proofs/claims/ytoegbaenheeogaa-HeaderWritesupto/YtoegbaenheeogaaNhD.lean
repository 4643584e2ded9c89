import Derived.Test.YtoegbaenheeogaaNhC
namespace Go.Proofs.Ytoegbaenheeogaa
open Go.RowKit
set_option linter.unusedVariables false
/-! ### One byte turned, pure -/
/-- The number that the first six bytes of the sum's field say, digit by digit. -/
def sd (l : List By) : Int := l.foldl (fun n x => n * 8 + (x.toNat : Int) - 48) 0
theorem sd_snoc (l : List By) (x : By) : sd (l ++ [x]) = sd l * 8 + (x.toNat : Int) - 48 := by unfold sd; rw [List.foldl_append]; rfl
theorem sd_fold (l : List By) (h : l.all isD = true) (n : Nat) : l.foldl (fun n x => n * 8 + (x.toNat : Int) - 48) (n : Int) = ((v8 n l : Nat) : Int) := by
  induction l generalizing n with
  | nil => rfl
  | cons x l ih =>
    rw [List.all_cons, Bool.and_eq_true] at h
    have hx : 48 ≤ x.toNat ∧ x.toNat ≤ 55 := of_decide_eq_true h.1
    rw [List.foldl_cons, v8_cons, ← ih h.2]
    congr 1
    omega
theorem sd_digits (l : List By) (h : l.all isD = true) : sd l = ((v8 0 l : Nat) : Int) := sd_fold l h 0
theorem fd_set_out (b : List By) (o n i : Nat) (y : By) (h : i < o ∨ o + n ≤ i) : fd (b.set i y) o n = fd b o n := by
  unfold fd
  rcases h with h | h
  · rw [List.drop_set_of_lt h]
  · rw [List.drop_set, if_neg (by omega), List.take_set, List.set_eq_of_length_le (by rw [List.length_take]; omega)]
theorem turned (h : Hr) (ok : h.Ok) (he : encE h = 0) (i : Nat) (hi : i < 512) (hn : ¬ (148 ≤ i ∧ i < 156)) (t : By) (ht : t ≠ 0#8) (x : By) (hx : (encR h)[i]? = some x) :
    decE ((encR h).set i (x ^^^ t)) = 131 ∨ ss (blk ((encR h).set i (x ^^^ t))) = sd (fd ((encR h).set i (x ^^^ t)) 148 6) := by
  have F := enc_fs h ok he
  have hR : encR h = psm (encL h).flatten := by unfold encR; rw [if_pos he]
  generalize hb0 : (encL h).flatten = b at *
  have hb : b.length = 512 := by rw [← hb0]; exact F.length
  have hl : (encR h).length = 512 := by rw [hR]; exact psm_length b hb
  have hxi : (encR h)[i]'(by omega) = x := (List.getElem?_eq_some_iff.1 hx).2
  have hst := sum_turned (encR h) hl i hi t
  rw [hxi] at hst
  rw [decide_eq_false (p := t = 0#8 ∨ (148 ≤ i ∧ i < 156)) (by rintro (q | q); exact ht q; exact hn q)] at hst
  have hne := of_decide_eq_false hst
  rw [hR, blk_psm b hb, ← hR] at hne
  generalize hr' : (encR h).set i (x ^^^ t) = r' at *
  have hfld : fld r' = dgl b ++ [0#8, 32#8] := by
    rw [← fld_psm b hb, ← hR, ← hr']
    exact fd_set_out (encR h) 148 8 i _ (by omega)
  obtain ⟨h1, h2⟩ := su_bound (blk b)
  rw [blk_length b hb] at h2
  have hz : (su (blk b)).toNat / 8 ^ 6 = 0 := (Nat.div_eq_zero_iff_lt (by decide)).2 (by have h8 : (8 : Nat) ^ 6 = 262144 := (by decide); omega)
  obtain ⟨q1, q2⟩ := oct_ol2 (su (blk b)).toNat 6 [0#8, 32#8] (by decide) hz (by rw [mx_eq]; omega) (by decide)
  have e1 : octE (fld r') = 0 := by rw [hfld]; exact q2
  have e2 : (octN (fld r') : Int) = su (blk b) := by
    rw [hfld]
    have : octN (dgl b ++ [0#8, 32#8]) = (su (blk b)).toNat := q1
    rw [this]; omega
  by_cases hc : chk r' = true
  · right
    have hss : su (blk b) = ss (blk r') := by
      unfold chk at hc
      rw [Bool.and_eq_true, Bool.or_eq_true] at hc
      rcases hc.2 with q | q
      · have := of_decide_eq_true q
        rw [e2] at this
        exact absurd this hne
      · have := of_decide_eq_true q
        rw [e2] at this
        exact this
    have hsix : fd r' 148 6 = ol (su (blk b)).toNat 6 := by
      have : fd r' 148 6 = (fld r').take 6 := by
        unfold fd fld
        rw [List.take_take]
        rfl
      rw [this, hfld]
      exact List.take_left' (ol_length _ _)
    rw [hsix, sd_digits _ (ol_all _ _), ol_fit _ _ hz, ← hss]
    omega
  · left
    unfold decE
    rw [if_neg hc]
/-! ### Three forms, pure -/
def plainH (h : Hr) (f : Nat) : Hr := { h with form := f, pfx := eS, user := eS, group := eS, major := 0, minor := 0 }
theorem plain_fm (h : Hr) (f : Nat) (hf : isF f) : (plainH h f).fm = f := by
  rcases hf with rfl | rfl | rfl <;> rfl
theorem fE_ge (f : Nat) : 257 ≤ fE f := by unfold fE; split; decide; split <;> decide
theorem po_pn (f : Nat) (x : Int) (n : Nat) (h : nE 1 x n = 0) : nE f x n = 0 ∧ nL f x n = nL 1 x n := by
  have h' : poE x n = 0 := h
  unfold nE nL
  by_cases hf : f = 3
  · rw [if_pos hf, if_pos hf, if_neg (by decide)]
    unfold pnE pnL
    rw [if_pos h', if_pos h']
    exact ⟨rfl, rfl⟩
  · rw [if_neg hf, if_neg hf, if_neg (by decide)]
    exact ⟨h', rfl⟩
theorem px_eS (n : Nat) (h1 : 1 ≤ n) (h2 : n ≤ 512) : pxE eS n = 0 := by
  unfold pxE
  rw [if_pos ⟨by omega, by omega, by decide⟩, if_pos (by show ((0 : Nat) : Int) ≤ _; omega)]
theorem nE_zero (f : Nat) : nE f 0 8 = 0 := by
  have h : nE 1 0 8 = 0 := by decide
  exact (po_pn f 0 8 h).1
theorem tFit_of {f o n : Nat} {s : ByteArray} (h : pxE s n = 0) : tFit f (o, n, s) = true := by
  unfold tFit
  rw [Bool.or_eq_true]
  exact .inr (decide_eq_true h)
theorem nFit_of {f o n : Nat} {x : Int} {bl : Bool} (h : nE f x n = 0) (h2 : 0 ≤ x ∨ bl = true) : nFit f (o, n, x, bl) = true := by
  unfold nFit
  simp only [Bool.or_eq_true, Bool.and_eq_true, decide_eq_true_eq]
  exact .inr ⟨h, h2⟩
theorem plain_forms (h : Hr) (f : Nat) (hf : isF f) (he : encE (plainH h 1) = 0) : encE (plainH h f) = 0 ∧ (encL (plainH h f)).take 6 = (encL (plainH h 1)).take 6 ∧ ((encL (plainH h f)).drop 7).take 2 = ((encL (plainH h 1)).drop 7).take 2 := by
  obtain ⟨h1, h2, h3, h4⟩ := enc_ok _ he
  rw [plain_fm h 1 (.inl rfl)] at h2 h4
  obtain ⟨hT, hN⟩ := fit_to _ _ h4
  have g := fE_ge f
  have c0 := (can_t _ 1 0 0 100 _ h2 rfl).1
  have c1 := (can_t _ 1 1 157 100 _ h2 rfl).1
  have t0 := tFit_has (hT 0 _ (by decide) rfl) (by decide)
  have t1 := tFit_has (hT 1 _ (by decide) rfl) (by decide)
  have n0 := nFit_has (hN 0 _ (by decide) rfl) (by decide)
  have n1 := nFit_has (hN 1 _ (by decide) rfl) (by decide)
  have n2 := nFit_has (hN 2 _ (by decide) rfl) (by decide)
  have n3 := nFit_has (hN 3 _ (by decide) rfl) (by decide)
  have n4 := nFit_has (hN 4 _ (by decide) rfl) (by decide)
  have zE : noZ eS = true := by decide
  have hcan : (plainH h f).can f = true := by
    unfold Hr.can Hr.ts Hr.ns
    simp only [List.all_cons, List.all_nil, Bool.and_true, tCan, nCan, Bool.and_eq_true, Bool.or_eq_true, decide_eq_true_eq]
    refine ⟨⟨⟨c0, .inr (by omega)⟩, ⟨c1, .inr (by omega)⟩, ⟨zE, .inl rfl⟩, ⟨zE, .inl rfl⟩, ⟨zE, .inl rfl⟩⟩, .inr (by omega), .inr (by omega), .inr (by omega), .inr (by omega), .inr (by omega), .inl rfl, .inl rfl⟩
  have hfit : (plainH h f).fit f = true := by
    unfold Hr.fit Hr.ts Hr.ns
    simp only [List.all_cons, List.all_nil, Bool.and_true, Bool.and_eq_true]
    exact ⟨⟨tFit_of t0, tFit_of t1, tFit_of (px_eS 32 (by decide) (by decide)), tFit_of (px_eS 32 (by decide) (by decide)), tFit_of (px_eS 155 (by decide) (by decide))⟩, nFit_of (po_pn f _ _ n0.1).1 n0.2, nFit_of (po_pn f _ _ n1.1).1 n1.2, nFit_of (po_pn f _ _ n2.1).1 n2.2, nFit_of (po_pn f _ _ n3.1).1 n3.2, nFit_of (po_pn f _ _ n4.1).1 n4.2, nFit_of (nE_zero f) (.inl (Int.le_refl 0)), nFit_of (nE_zero f) (.inl (Int.le_refl 0))⟩
  have hfm := plain_fm h f hf
  have hfm1 := plain_fm h 1 (.inl rfl)
  refine ⟨?_, ?_, ?_⟩
  · unfold encE
    have h3' : ¬ (plainH h f).typ = 0#8 := h3
    rw [hfm, if_pos ⟨by rcases hf with rfl | rfl | rfl <;> decide, hcan⟩, if_neg h3', if_pos hfit]
  · unfold encL
    rw [hfm, hfm1]
    have eTx : ∀ (k o n : Nat) (s : ByteArray), k < 5 → o < 257 → eT f 5 k o n s = eT 1 5 k o n s := fun k o n s q1 q2 => by
      unfold eT
      rw [if_pos ⟨q1, by omega⟩, if_pos ⟨q1, q2⟩]
    have eNx : ∀ (k o n : Nat) (x : Int), k < 7 → o < 257 → nE 1 x n = 0 → eN f 7 k o n x = eN 1 7 k o n x := fun k o n x q1 q2 q3 => by
      unfold eN
      rw [if_pos ⟨q1, by omega⟩, if_pos ⟨q1, q2⟩, (po_pn f x n q3).2]
    show [eT f 5 0 0 100 h.name, eN f 7 0 100 8 h.mode, eN f 7 1 108 8 h.uid, eN f 7 2 116 8 h.gid, eN f 7 3 124 12 h.size, eN f 7 4 136 12 h.time] = [eT 1 5 0 0 100 h.name, eN 1 7 0 100 8 h.mode, eN 1 7 1 108 8 h.uid, eN 1 7 2 116 8 h.gid, eN 1 7 3 124 12 h.size, eN 1 7 4 136 12 h.time]
    rw [eTx 0 0 100 _ (by decide) (by decide), eNx 0 100 8 h.mode (by decide) (by decide) n0.1, eNx 1 108 8 h.uid (by decide) (by decide) n1.1, eNx 2 116 8 h.gid (by decide) (by decide) n2.1, eNx 3 124 12 h.size (by decide) (by decide) n3.1, eNx 4 136 12 h.time (by decide) (by decide) n4.1]
  · unfold encL
    rw [hfm, hfm1]
    show [[h.typ], eT f 5 1 157 100 h.link] = [[h.typ], eT 1 5 1 157 100 h.link]
    have e : eT f 5 1 157 100 h.link = eT 1 5 1 157 100 h.link := by
      unfold eT
      rw [if_pos ⟨by decide, by omega⟩, if_pos ⟨by decide, by decide⟩]
    rw [e]
theorem flat_ahead (L : List (List By)) (F : Fs L) (i : Nat) (hi : i < 148) : L.flatten[i]? = (L.take 6).flatten[i]? := by
  have e : L.flatten = (L.take 6).flatten ++ (L.drop 6).flatten := by rw [← List.flatten_append, List.take_append_drop]
  rw [e, List.getElem?_append_left (by rw [F.off 6]; exact hi)]
theorem flat_mid (L : List (List By)) (F : Fs L) (i : Nat) (h1 : 156 ≤ i) (h2 : i < 257) : L.flatten[i]? = ((L.drop 7).take 2).flatten[i - 156]? := by
  have e : L.flatten = (L.take 7).flatten ++ (((L.drop 7).take 2).flatten ++ ((L.drop 7).drop 2).flatten) := by
    rw [← List.flatten_append, ← List.flatten_append, List.take_append_drop, List.take_append_drop]
  have o7 : (L.take 7).flatten.length = 156 := F.off 7
  have hw : ((L.drop 7).take 2).flatten.length = 101 := by
    rw [List.length_flatten, List.map_take, List.map_drop, F]; decide
  rw [e, List.getElem?_append_right (by omega), o7, List.getElem?_append_left (by omega)]
/-- What a plain header says is said alike by all three forms. -/
theorem plain_bytes (h : Hr) (f : Nat) (hf : isF f) (ok1 : (plainH h 1).Ok) (okf : (plainH h f).Ok) (he : encE (plainH h 1) = 0) : encE (plainH h f) = 0 ∧ ∀ i, (i < 148 ∨ (156 ≤ i ∧ i < 257)) → (encR (plainH h 1))[i]? = (encR (plainH h f))[i]? := by
  obtain ⟨e0, e1, e2⟩ := plain_forms h f hf he
  obtain ⟨r1, F1⟩ := encS_eq _ ok1 he
  obtain ⟨r2, F2⟩ := encS_eq _ okf e0
  refine ⟨e0, fun i hi => ?_⟩
  have tk : ∀ g : Hr, (encS g).take 6 = (encL g).take 6 := fun g => by
    unfold encS
    rw [List.take_set, List.set_eq_of_length_le (by rw [List.length_take]; omega)]
  have dk : ∀ g : Hr, (encS g).drop 7 = (encL g).drop 7 := fun g => by
    unfold encS
    rw [List.drop_set_of_lt (by omega)]
  rw [r1, r2]
  rcases hi with hi | hi
  · rw [flat_ahead _ F1 i hi, flat_ahead _ F2 i hi, tk, tk, e1]
  · rw [flat_mid _ F1 i hi.1 hi.2, flat_mid _ F2 i hi.1 hi.2, dk, dk, e2]
end Go.Proofs.Ytoegbaenheeogaa

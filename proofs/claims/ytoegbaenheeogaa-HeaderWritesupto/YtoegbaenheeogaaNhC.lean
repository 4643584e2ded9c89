import Derived.Test.YtoegbaenheeogaaNhB
namespace Go.Proofs.Ytoegbaenheeogaa
open Go.RowKit
set_option linter.unusedVariables false
/-! ### There and back, pure -/
theorem psm_pt (b : List By) (hb : b.length = 512) : psm b = pt b 148 (dgl b ++ [0#8, 32#8]) := by
  have hd : (dgl b ++ [0#8, 32#8]).length = 8 := by rw [List.length_append, show (dgl b).length = 6 from ol_length _ _]; rfl
  unfold psm pt
  rw [hd, List.append_assoc]
theorem nL_back (f : Nat) (x : Int) (n : Nat) (hx : i64 x) (h : nE f x n = 0) : nmN (nL f x n) = x ∧ nmE (nL f x n) = 0 := by
  have key : numA (nL f x n) = .tuple #[.int .i64 x, .int .i64 ((0 : Nat) : Int)] := by
    unfold nL nE at *
    by_cases hf : f = 3
    · rw [if_pos hf] at h ⊢
      exact (pnL_num x n hx.1 hx.2 h).1
    · rw [if_neg hf] at h ⊢
      have h2 := (po_ok x n h).1
      unfold numA
      rw [if_neg (by have := poL_head x n h2; omega)]
      exact poL_oct x n hx.2 h
  rw [numA_eq] at key
  injection key with key
  have key2 := congrArg Array.toList key
  simp only [List.cons.injEq, Value.int.injEq, true_and, and_true] at key2
  exact ⟨key2.1, by have := key2.2; omega⟩
theorem mg_length (f : Nat) : (mg f).length = 8 := by
  unfold mg
  split
  · rfl
  · split <;> rfl
def isF (f : Nat) : Prop := f = 1 ∨ f = 2 ∨ f = 3
theorem mgOf_eq (b : List By) (f : Nat) (hf : isF f) (h : fd b 257 8 = mg f) : mgOf b = f := by
  unfold mgOf
  rw [h]
  rcases hf with rfl | rfl | rfl <;> decide
theorem fm_of (h : Hr) (hz : h.fm ≠ 0) : isF h.fm ∧ h.form = h.fm := by
  unfold Hr.fm at *
  split
  · next q => exact ⟨.inl rfl, q⟩
  · next q =>
    rw [if_neg q] at hz
    split
    · next q2 => exact ⟨.inr (.inl rfl), q2⟩
    · next q2 =>
      rw [if_neg q2] at hz
      split
      · next q3 => exact ⟨.inr (.inr rfl), q3⟩
      · next q3 => rw [if_neg q3] at hz; exact absurd rfl hz
theorem enc_ok (h : Hr) (he : encE h = 0) : h.fm ≠ 0 ∧ h.can h.fm = true ∧ h.typ ≠ 0#8 ∧ h.fit h.fm = true := by
  unfold encE at he
  split at he
  · next q =>
    split at he
    · cases he
    · next q2 =>
      split at he
      · next q3 => exact ⟨q.1, q.2, q2, q3⟩
      · cases he
  · cases he
theorem can_t (h : Hr) (f k o n : Nat) (s : ByteArray) (H : h.can f = true) (hk : h.ts[k]? = some (o, n, s)) : noZ s = true ∧ (s = eS ∨ o < fE f) := by
  unfold Hr.can at H
  rw [Bool.and_eq_true, List.all_eq_true] at H
  have := H.1 _ (List.mem_of_getElem? hk)
  unfold tCan at this
  simpa only [Bool.and_eq_true, Bool.or_eq_true, decide_eq_true_eq] using this
theorem can_n (h : Hr) (f k o n : Nat) (x : Int) (bl : Bool) (H : h.can f = true) (hk : h.ns[k]? = some (o, n, x, bl)) : x = 0 ∨ o < fE f := by
  unfold Hr.can at H
  rw [Bool.and_eq_true, List.all_eq_true, List.all_eq_true] at H
  have := H.2 _ (List.mem_of_getElem? hk)
  unfold nCan at this
  simpa only [Bool.or_eq_true, decide_eq_true_eq] using this
/-- The fields of Encode's record, the sum's among them. -/
def encS (h : Hr) : List (List By) := (encL h).set 6 (dgl (encL h).flatten ++ [0#8, 32#8])
theorem enc_fs (h : Hr) (ok : h.Ok) (he : encE h = 0) : Fs (encL h) := by
  obtain ⟨h1, h2, h3, h4⟩ := enc_ok h he
  exact eL_fs h ok h.fm 5 7 _ _ rfl (mg_length _) (fit_to h _ h4).1 (fit_to h _ h4).2
theorem encS_eq (h : Hr) (ok : h.Ok) (he : encE h = 0) : encR h = (encS h).flatten ∧ Fs (encS h) := by
  have F := enc_fs h ok he
  have hd : Ws[6]? = some (dgl (encL h).flatten ++ [0#8, 32#8]).length := by rw [List.length_append, show (dgl (encL h).flatten).length = 6 from ol_length _ _]; rfl
  refine ⟨?_, F.set 6 _ hd⟩
  unfold encR
  rw [if_pos he, psm_pt _ F.length, F.pt 6 148 _ rfl hd]
  rfl
theorem fd_one (b : List By) (o : Nat) (x : By) (h : fd b o 1 = [x]) : b.getD o 0 = x := by
  unfold fd at h
  have := congrArg (·[0]?) h
  simp only [List.getElem?_take, List.getElem?_drop, List.getElem?_cons_zero] at this
  rw [List.getD_eq_getElem?_getD]
  simp at this
  rw [this]; rfl
theorem back_t (b : List By) (h : Hr) (f k o n : Nat) (s : ByteArray) (hk : h.ts[k]? = some (o, n, s)) (hc : h.can f = true) (hf : h.fit f = true) (hb : fd b o n = eT f 5 k o n s) : dT b f 5 k o n = s := by
  have h5 : k < 5 := (List.getElem?_eq_some_iff.1 hk).1
  unfold dT
  by_cases ho : o < fE f
  · rw [if_pos ⟨h5, ho⟩, hb]
    unfold eT
    rw [if_pos ⟨h5, ho⟩]
    exact (px_ok s n (tFit_has ((fit_to h f hf).1 k _ h5 hk) ho)).1
  · rw [if_neg (fun q => ho q.2)]
    rcases (can_t h f k o n s hc hk).2 with e | e
    · exact e.symm
    · exact absurd e ho
theorem back_n (b : List By) (h : Hr) (f k o n : Nat) (x : Int) (bl : Bool) (hx : i64 x) (hk : h.ns[k]? = some (o, n, x, bl)) (hc : h.can f = true) (hf : h.fit f = true) (hb : fd b o n = eN f 7 k o n x) : dN b f 7 k o n = x ∧ ¬ (o < fE f ∧ nbE b o n bl ≠ 0) := by
  have h5 : k < 7 := (List.getElem?_eq_some_iff.1 hk).1
  unfold dN
  by_cases ho : o < fE f
  · obtain ⟨q1, q2⟩ := nFit_has ((fit_to h f hf).2 k _ h5 hk) ho
    obtain ⟨r1, r2⟩ := nL_back f x n hx q1
    have e : fd b o n = nL f x n := by
      rw [hb]
      unfold eN
      rw [if_pos ⟨h5, ho⟩]
    rw [if_pos ⟨h5, ho⟩, e]
    refine ⟨r1, fun q => q.2 ?_⟩
    unfold nbE
    rw [e, r1, r2, if_pos rfl, if_pos q2]
  · rw [if_neg (fun q => ho q.2)]
    refine ⟨?_, fun q => ho q.1⟩
    rcases can_n h f k o n x bl hc hk with e | e
    · exact e.symm
    · exact absurd e ho
/-- What was written is read. -/
theorem back (h : Hr) (ok : h.Ok) (he : encE h = 0) : decE (encR h) = 0 ∧ decP (encR h) = 0 ∧ decH (encR h) = h := by
  obtain ⟨h1, h2, h3, h4⟩ := enc_ok h he
  obtain ⟨hf, hform⟩ := fm_of h h1
  obtain ⟨e1, F⟩ := encS_eq h ok he
  have hchk : chk (encR h) = true := by
    unfold encR
    rw [if_pos he]
    exact chk_psm _ (enc_fs h ok he).length
  have hmg : mgOf (encR h) = h.fm := mgOf_eq _ _ hf (by rw [e1, F.fd 9 257 8 rfl rfl]; rfl)
  have hz : h.fm ≠ 0 := h1
  have T0 := back_t (encR h) h h.fm 0 0 100 _ rfl h2 h4 (by rw [e1, F.fd 0 0 100 rfl rfl]; rfl)
  have T1 := back_t (encR h) h h.fm 1 157 100 _ rfl h2 h4 (by rw [e1, F.fd 8 157 100 rfl rfl]; rfl)
  have T2 := back_t (encR h) h h.fm 2 265 32 _ rfl h2 h4 (by rw [e1, F.fd 10 265 32 rfl rfl]; rfl)
  have T3 := back_t (encR h) h h.fm 3 297 32 _ rfl h2 h4 (by rw [e1, F.fd 11 297 32 rfl rfl]; rfl)
  have T4 := back_t (encR h) h h.fm 4 345 155 _ rfl h2 h4 (by rw [e1, F.fd 14 345 155 rfl rfl]; rfl)
  have N0 := back_n (encR h) h h.fm 0 100 8 _ _ ok.mode rfl h2 h4 (by rw [e1, F.fd 1 100 8 rfl rfl]; rfl)
  have N1 := back_n (encR h) h h.fm 1 108 8 _ _ ok.uid rfl h2 h4 (by rw [e1, F.fd 2 108 8 rfl rfl]; rfl)
  have N2 := back_n (encR h) h h.fm 2 116 8 _ _ ok.gid rfl h2 h4 (by rw [e1, F.fd 3 116 8 rfl rfl]; rfl)
  have N3 := back_n (encR h) h h.fm 3 124 12 _ _ ok.size rfl h2 h4 (by rw [e1, F.fd 4 124 12 rfl rfl]; rfl)
  have N4 := back_n (encR h) h h.fm 4 136 12 _ _ ok.time rfl h2 h4 (by rw [e1, F.fd 5 136 12 rfl rfl]; rfl)
  have N5 := back_n (encR h) h h.fm 5 329 8 _ _ ok.major rfl h2 h4 (by rw [e1, F.fd 12 329 8 rfl rfl]; rfl)
  have N6 := back_n (encR h) h h.fm 6 337 8 _ _ ok.minor rfl h2 h4 (by rw [e1, F.fd 13 337 8 rfl rfl]; rfl)
  have hty : tyOf (encR h) = h.typ := by
    have := fd_one (encR h) 156 h.typ (by rw [e1, F.fd 7 156 1 rfl rfl]; rfl)
    unfold tyOf
    rw [this, if_neg h3]
  have hsc : scN (encR h) h.fm nF = (0, 0) := by
    unfold nF
    simp only [scN]
    rw [if_neg N0.2, if_neg N1.2, if_neg N2.2, if_neg N3.2, if_neg N4.2, if_neg N5.2, if_neg N6.2]
  have hE : decE (encR h) = 0 := by
    unfold decE
    rw [if_pos hchk, hmg, if_neg hz, hsc]
  refine ⟨hE, ?_, ?_⟩
  · unfold decP
    rw [if_pos hchk, hmg, if_neg hz, hsc]
  · unfold decH
    rw [if_pos hE, hmg]
    unfold dH
    rw [T0, T1, T2, T3, T4, N0.1, N1.1, N2.1, N3.1, N4.1, N5.1, N6.1, hty, ← hform]
end Go.Proofs.Ytoegbaenheeogaa

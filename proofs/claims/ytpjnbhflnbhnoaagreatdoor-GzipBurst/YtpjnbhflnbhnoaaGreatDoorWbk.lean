import Derived.Test.YtpjnbhflnbhnoaaGreatDoorWbi
namespace Go.Proofs.YtpjnbhflnbhnoaaGreatDoor
open Go.RowKit
set_option linter.unusedVariables false
/-! ### More room changes nothing that came -/
def Mo {α : Type} (f f' : Rdr α) : Prop := ∀ t, f t = .bad 32 ∨ f' t = f t
theorem Mo.refl {α : Type} (f : Rdr α) : Mo f f := fun _ => .inr rfl
theorem Mo.bind {α β : Type} {f f' : Rdr α} {g g' : α → Rdr β} (hf : Mo f f') (hg : ∀ a, Mo (g a) (g' a)) : Mo (bindR f g) (bindR f' g') := fun t => by
  rcases hf t with h | h
  · exact .inl (bindR_bad h)
  · unfold bindR
    rw [h]
    cases f t with
    | bad e => exact .inr rfl
    | ok r => exact hg r.1 r.2
theorem Mo.ite {α : Type} {c : Prop} [Decidable c] {f g f' g' : Rdr α} (hf : Mo f f') (hg : Mo g g') : Mo (if c then f else g) (if c then f' else g') := by
  by_cases h : c
  · rw [if_pos h, if_pos h]; exact hf
  · rw [if_neg h, if_neg h]; exact hg
theorem Mo.need {α : Type} {m m' l n : Nat} (h : m ≤ m') {f : Rdr α} : Mo (if m - l < n then failR 32 else f) (if m' - l < n then failR 32 else f) := by
  by_cases h1 : m - l < n
  · rw [if_pos h1]; exact fun _ => .inl rfl
  · rw [if_neg h1, if_neg (by omega)]; exact Mo.refl _
theorem Mo.step {m m' : Nat} (h : m ≤ m') (s : Sx) : Mo (stepR m s) (stepR m' s) := by
  refine .ite ?_ (.ite (Mo.refl _) (.ite ?_ (Mo.refl _)))
  · exact .bind (Mo.refl _) fun _ => .bind (Mo.refl _) fun _ => .ite (.bind (Mo.refl _) fun _ => .bind (Mo.refl _) fun _ => .bind (Mo.refl _) fun _ => .ite (Mo.refl _) (Mo.need h)) (Mo.refl _)
  · exact .bind (Mo.refl _) fun _ => .ite (Mo.need h) (.ite (Mo.refl _) (.ite (.bind (Mo.refl _) fun _ => .bind (Mo.refl _) fun _ => .ite (Mo.refl _) (Mo.need h)) (Mo.refl _)))
theorem run_room {m m' : Nat} (h : m ≤ m') (s : Sx) (t : Bt) : (run m s t).2.2 ≠ 32 → run m' s t = run m s t := by
  refine run_ind (most := m) (P := fun s t r => r.2.2 ≠ 32 → run m' s t = r) ?_ ?_ ?_ s t
  · intro s t hm _; exact run_end hm
  · intro s t e hm hs he
    rcases Mo.step h s t with h1 | h1
    · rw [hs] at h1; injection h1 with h1; exact absurd h1 he
    · exact run_bad hm (h1.trans hs)
  · intro s t s' t' hm hs ih he
    rw [run_ok hm hs] at he ⊢
    rcases Mo.step h s t with h1 | h1
    · rw [hs] at h1; cases h1
    · rw [run_ok hm (h1.trans hs)]; exact ih he
/-! ### No error is 0 -/
def Nz {α : Type} (f : Rdr α) : Prop := ∀ t e, f t = .bad e → e ≠ 0
theorem Nz.ret {α : Type} (a : α) : Nz (retR a) := fun t e h => by cases h
theorem Nz.fail {α : Type} (e : Nat) (he : e ≠ 0) : Nz (failR e : Rdr α) := fun t e' h => by injection h with h; rw [← h]; exact he
theorem Nz.bind {α β : Type} {f : Rdr α} {g : α → Rdr β} (hf : Nz f) (hg : ∀ a, Nz (g a)) : Nz (bindR f g) := fun t e h => by
  unfold bindR at h
  cases hq : f t with
  | bad e' => rw [hq] at h; injection h with h; rw [← h]; exact hf t e' hq
  | ok r => rw [hq] at h; exact hg r.1 r.2 e h
theorem Nz.ite {α : Type} {c : Prop} [Decidable c] {f g : Rdr α} (hf : Nz f) (hg : Nz g) : Nz (if c then f else g) := by
  by_cases h : c
  · rw [if_pos h]; exact hf
  · rw [if_neg h]; exact hg
theorem Nz.take (k : Nat) : Nz (takeR k) := fun t e h => by
  unfold takeR at h
  split at h
  · injection h with h; omega
  · cases h
theorem Nz.align : Nz alignR := fun t e h => by cases h
theorem Nz.sym (ls : List Nat) : Nz (symR ls) := fun t e h => by
  by_cases hx : Cod ls ∧ ∃ i, Hits ls (rev 15 t.x) i
  · obtain ⟨hk, i, hi⟩ := hx
    rw [symR_hit hk hi] at h
    split at h
    · injection h with h; omega
    · cases h
  · rw [symR_none (fun i hk hi => hx ⟨hk, i, hi⟩)] at h
    injection h with h; omega
theorem Nz.endB (s : Sx) : Nz (endB s) := .ite (.bind .align fun _ => .ret _) (.ret _)
theorem Nz.fur (y g : Nat) : Nz (furR y g) := .ite (.ret _) (.bind (.take _) fun _ => .ret _)
theorem Nz.small (i k : Nat) (l : List Nat) : Nz (smallR i k l) := by
  induction k generalizing i l with
  | zero => exact .ret _
  | succ k ih => exact .bind (.take _) fun _ => ih _ _
theorem Nz.lens (sm : List Nat) (N k : Nat) (l : List Nat) : Nz (lensR sm N k l) := by
  induction k generalizing l with
  | zero => exact .ite (.fail _ (by decide)) (.ret _)
  | succ k ih => exact .ite (.bind (.sym _) fun _ => .ite (.ite (.fail _ (by decide)) (.bind (.take _) fun _ => ih _)) (.ite (.bind (.take _) fun _ => ih _) (.ite (.bind (.take _) fun _ => ih _) (ih _)))) (.ite (.fail _ (by decide)) (.ret _))
open Classical in
theorem Nz.own : Nz ownR := .bind (.take _) fun _ => .bind (.take _) fun _ => .bind (.take _) fun _ => .ite (.fail _ (by decide)) (.bind (.small _ _ _) fun _ => .ite (.fail _ (by decide)) (.bind (.lens _ _ _ _) fun _ => .ite (.ret _) (.fail _ (by decide))))
theorem Nz.step (most : Nat) (s : Sx) : Nz (stepR most s) := by
  refine .ite ?_ (.ite ?_ (.ite ?_ (.fail _ (by decide))))
  · exact .bind (.take _) fun _ => .bind (.take _) fun _ => .ite (.bind .align fun _ => .bind (.take _) fun _ => .bind (.take _) fun _ => .ite (.fail _ (by decide)) (.ite (.fail _ (by decide)) (.ite (.endB _) (.ret _)))) (.ite (.ret _) (.ite (.bind .own fun _ => .ret _) (.fail _ (by decide))))
  · exact .bind (.take _) fun _ => .ite (.endB _) (.ret _)
  · exact .bind (.sym _) fun _ => .ite (.ite (.fail _ (by decide)) (.ret _)) (.ite (.endB _) (.ite (.bind (.ite (.ret _) (.bind (.fur _ _) fun _ => .ret _)) fun _ => .bind (.bind (.sym _) fun _ => .ite (.fail _ (by decide)) (.bind (.fur _ _) fun _ => .ret _)) fun _ => .ite (.fail _ (by decide)) (.ite (.fail _ (by decide)) (.ret _))) (.fail _ (by decide))))
/-! ### What comes out is bounded -/
structure Iv (most : Nat) (t : Bt) (s : Sx) : Prop where
  ol : s.out.length ≤ most
  st : s.md = 1 → 1 ≤ s.sto ∧ s.sto ≤ most - s.out.length
  en : s.md = 3 → t.n % 8 = 0
/-- What a step adds. -/
def Ad (most : Nat) (t : Bt) (s : Sx) (t' : Bt) (s' : Sx) : Prop := Iv most t' s' ∧ s'.out.length + 129 * t'.n ≤ s.out.length + 129 * t.n ∧ ∃ m, s'.out = s.out ++ m
theorem endB_iv {most : Nat} {s s' : Sx} {t t' : Bt} (ho : s.out.length ≤ most) (h : endB s t = .ok (s', t')) : Iv most t' s' ∧ s'.out = s.out ∧ t'.n ≤ t.n := by
  have hd := Dec.endB s t s' t' h
  unfold endB at h
  split at h
  · obtain ⟨_, t1, q1, q2⟩ := bindR_ok h
    unfold alignR at q1
    injection q1 with q1
    injection q1 with _ q1
    injection q2 with q2
    injection q2 with q2 q3
    rw [← q2, ← q3]
    refine ⟨⟨ho, fun e => by simp at e, fun _ => ?_⟩, rfl, by rw [← q1]; simp⟩
    rw [← q1]; simp only; omega
  · injection h with h
    injection h with h h2
    rw [← h, ← h2]
    exact ⟨⟨ho, fun e => by simp at e, fun e => by simp at e⟩, rfl, Nat.le_refl _⟩
theorem lenR_258 {y x : Nat} {t t' : Bt} (h1 : 257 ≤ y) (h2 : y ≤ 285) (hq : lenR y t = .ok (x, t')) : x ≤ 258 := by
  unfold lenR at hq
  split at hq
  · injection hq with hq; injection hq with hq; omega
  · rename_i hne
    obtain ⟨a, t1, q1, q2⟩ := bindR_ok hq
    injection q2 with q2
    injection q2 with q2
    unfold furR at q1
    split at q1
    · injection q1 with q1; injection q1 with q1; omega
    · obtain ⟨a2, t2, q3, q4⟩ := bindR_ok q1
      injection q4 with q4
      injection q4 with q4
      have k1 := takeR_lt q3
      obtain ⟨k, hk⟩ : ∃ k, k = (y - 257) / 4 - 1 := ⟨_, rfl⟩
      rw [← hk] at q4 k1
      have hk5 : k ≤ 5 := by omega
      have k2 : 2 ^ k ≤ 2 ^ 5 := Nat.pow_le_pow_right (by decide) hk5
      have k3 : (4 + (y - 257) % 4) * 2 ^ k ≤ 7 * 2 ^ k := Nat.mul_le_mul_right _ (by omega)
      have k4 : (2 : Nat) ^ 5 = 32 := by decide
      omega
theorem copyN_pre (d n : Nat) (out : List By) : ∃ m, copyN d n out = out ++ m := by
  induction n with
  | zero => exact ⟨[], by simp [copyN]⟩
  | succ n ih =>
    obtain ⟨m, hm⟩ := ih
    rw [copyN_succ, hm]
    exact ⟨m ++ _, by rw [List.append_assoc]⟩
theorem step_ad {most : Nat} {s s' : Sx} {t t' : Bt} (hi : Iv most t s) (h : stepR most s t = .ok (s', t')) : Ad most t s t' s' := by
  have ho := hi.ol
  unfold stepR at h
  split at h
  · rename_i h0
    have hd := Dec.head most s t s' t' h
    obtain ⟨l, t1, q1, q2⟩ := bindR_ok h
    obtain ⟨k, t2, q3, q4⟩ := bindR_ok q2
    split at q4
    · obtain ⟨_, t3, q5, q6⟩ := bindR_ok q4
      obtain ⟨n, t4, q7, q8⟩ := bindR_ok q6
      obtain ⟨m, t5, q9, q10⟩ := bindR_ok q8
      split at q10
      · cases q10
      · split at q10
        · cases q10
        · split at q10
          · obtain ⟨e1, e2, e3⟩ := endB_iv (s := { s with lst := decide (l = 1), md := 1, sto := 0 }) ho q10
            exact ⟨e1, by rw [e2]; simp only; omega, [], by rw [e2]; simp⟩
          · rename_i g1 g2 g3
            have g2' : ¬ most - s.out.length < n := g2
            injection q10 with q10
            injection q10 with q10 q11
            rw [← q10]
            exact ⟨⟨ho, fun _ => ⟨by simp only; omega, by simp only; omega⟩, fun e => by simp at e⟩, by simp only; omega, [], by simp⟩
    · split at q4
      · injection q4 with q4
        injection q4 with q4 q5
        rw [← q4]
        exact ⟨⟨ho, fun e => by simp at e, fun e => by simp at e⟩, by simp only; omega, [], by simp⟩
      · split at q4
        · obtain ⟨c, t3, q5, q6⟩ := bindR_ok q4
          injection q6 with q6
          injection q6 with q6 q7
          rw [← q6]
          exact ⟨⟨ho, fun e => by simp at e, fun e => by simp at e⟩, by simp only; omega, [], by simp⟩
        · cases q4
  · split at h
    · rename_i h1
      obtain ⟨s1, s2⟩ := hi.st h1
      obtain ⟨x, t1, q1, q2⟩ := bindR_ok h
      have hn := takeR_n q1
      split at q2
      · obtain ⟨e1, e2, e3⟩ := endB_iv (s := { s with sto := 0, out := s.out ++ [BitVec.ofNat 8 x] }) (most := most) (by simp; omega) q2
        exact ⟨e1, by rw [e2]; simp; omega, _, by rw [e2]⟩
      · injection q2 with q2
        injection q2 with q2 q3
        rw [← q2, ← q3]
        exact ⟨⟨by simp; omega, fun _ => ⟨by simp only; omega, by simp; omega⟩, fun e => by simp only at e; omega⟩, by simp; omega, _, rfl⟩
    · split at h
      · rename_i h2
        have hds := Dec.symbol most s t s' t' h
        obtain ⟨y, t1, q1, q2⟩ := bindR_ok h
        have hd1 := Dec.sym s.la t y t1 q1
        split at q2
        · split at q2
          · cases q2
          · injection q2 with q2
            injection q2 with q2 q3
            rw [← q2]
            exact ⟨⟨by simp; omega, fun e => by simp only at e; omega, fun e => by simp only at e; omega⟩, by simp; omega, _, rfl⟩
        · split at q2
          · obtain ⟨e1, e2, e3⟩ := endB_iv ho q2
            exact ⟨e1, by rw [e2]; omega, [], by rw [e2]; simp⟩
          · split at q2
            · obtain ⟨n, t2, q3, q4⟩ := bindR_ok q2
              obtain ⟨d, t3, q5, q6⟩ := bindR_ok q4
              have hd2 := Dec.len y t1 n t2 q3
              have hd3 := Dec.dist s.lb t2 d t3 q5
              have hn := lenR_258 (by omega) (by assumption) q3
              split at q6
              · cases q6
              · split at q6
                · cases q6
                · injection q6 with q6
                  injection q6 with q6 q7
                  rw [← q6, ← q7]
                  exact ⟨⟨by rw [copyN_length]; omega, fun e => by simp only at e; omega, fun e => by simp only at e; omega⟩, by rw [copyN_length]; omega, copyN_pre d n s.out⟩
            · cases q2
      · cases h
theorem run_ad {most : Nat} (s : Sx) (t : Bt) : Iv most t s → Iv most (run most s t).2.1 (run most s t).1 ∧ (run most s t).1.out.length + 129 * (run most s t).2.1.n ≤ s.out.length + 129 * t.n ∧ (run most s t).2.1.n ≤ t.n ∧ ((run most s t).2.2 = 0 → (run most s t).1.md = 3 ∧ (s.md ≠ 3 → (run most s t).2.1.n < t.n)) ∧ ∃ m, (run most s t).1.out = s.out ++ m := by
  refine run_ind (most := most) (P := fun s t r => Iv most t s → Iv most r.2.1 r.1 ∧ r.1.out.length + 129 * r.2.1.n ≤ s.out.length + 129 * t.n ∧ r.2.1.n ≤ t.n ∧ (r.2.2 = 0 → r.1.md = 3 ∧ (s.md ≠ 3 → r.2.1.n < t.n)) ∧ ∃ m, r.1.out = s.out ++ m) ?_ ?_ ?_ s t
  · intro s t hm hi
    exact ⟨hi, Nat.le_refl _, Nat.le_refl _, fun _ => ⟨hm, fun h => absurd hm h⟩, [], by simp⟩
  · intro s t e hm hs hi
    exact ⟨hi, Nat.le_refl _, Nat.le_refl _, fun h => absurd h (Nz.step most s t e hs), [], by simp⟩
  · intro s t s' t' hm hs ih hi
    obtain ⟨a1, a2, m, a3⟩ := step_ad hi hs
    have hd := Dec.step most s t s' t' hs
    rw [run_ok hm hs]
    obtain ⟨b1, b2, b3, b4, m2, b5⟩ := ih a1
    refine ⟨b1, by omega, by omega, fun h => ⟨(b4 h).1, fun _ => by omega⟩, m ++ m2, by rw [b5, a3, List.append_assoc]⟩
theorem iv_ini (most : Nat) (t : Bt) : Iv most t ini := ⟨by simp [ini], fun e => by simp [ini] at e, fun e => by simp [ini] at e⟩
end Go.Proofs.YtpjnbhflnbhnoaaGreatDoor

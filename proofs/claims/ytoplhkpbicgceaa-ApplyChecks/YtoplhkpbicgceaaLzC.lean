import Derived.Test.YtoplhkpbicgceaaLzB
namespace Go.Proofs.Ytoplhkpbicgceaa
open Go.RowKit
set_option linter.unusedVariables false

/-! ### What the document says of blocks -/
/-- A number's further bytes: their sum, and how many they are. -/
def more : List By → Option (Nat × Nat)
  | [] => none
  | x :: r => if x.toNat = 255 then (match more r with | none => none | some (n, k) => some (n + 255, k + 1)) else some (x.toNat, 1)
/-- A number whose four bits are low. -/
def num (low : Nat) (r : List By) : Option (Nat × Nat) := if low = 15 then (match more r with | none => none | some (n, k) => some (n + 15, k)) else some (low, 0)
structure Tk (σ : Type) where
  room : σ → Nat → Bool
  plain : σ → List By → σ
  reaches : σ → Nat → Bool
  mat : σ → Nat → Nat → σ
  fin : σ → σ
inductive Pt (σ : Type) where
  | bad (at' why : Nat)
  | ok (r : List By) (s : σ)
inductive Rs (σ : Type) where
  | bad (at' why : Nat)
  | good (s : σ)
variable {σ : Type}
def plainS (T : Tk σ) (L low : Nat) (r : List By) (s : σ) : Pt σ :=
  match num low r with
  | none => .bad L 4
  | some (n, k) =>
    if T.room s n = false then .bad (L - (r.length - k)) 32
    else if r.length - k < n then .bad L 4
    else .ok (r.drop (k + n)) (T.plain s ((r.drop k).take n))
def matchS (T : Tk σ) (L low : Nat) (r : List By) (s : σ) : Pt σ :=
  match r with
  | b0 :: b1 :: r4 =>
    if b0.toNat + 256 * b1.toNat = 0 ∨ T.reaches s (b0.toNat + 256 * b1.toNat) = false then .bad (L - r.length) 30
    else match num low r4 with
      | none => .bad L 4
      | some (n, k) => if T.room s (n + 4) = false then .bad (L - r.length) 32 else .ok (r4.drop k) (T.mat s (b0.toNat + 256 * b1.toNat) (n + 4))
  | _ => .bad L 4
def scanS (T : Tk σ) (L : Nat) (r : List By) (s : σ) : Rs σ :=
  match r with
  | [] => .bad L 4
  | tok :: r1 =>
    match plainS T L (tok.toNat / 16) r1 s with
    | .bad a y => .bad a y
    | .ok r3 s1 =>
      if r3 = [] then (if tok.toNat % 16 = 0 then .good (T.fin s1) else .bad (L - (r1.length + 1)) 31)
      else match matchS T L (tok.toNat % 16) r3 s1 with
        | .bad a y => .bad a y
        | .ok r5 s2 => if h : r5.length < r1.length + 1 then scanS T L r5 s2 else .bad 0 0
termination_by r.length

theorem more_le {r : List By} {n k : Nat} (h : more r = some (n, k)) : 1 ≤ k ∧ k ≤ r.length ∧ n + 1 ≤ 255 * k := by
  induction r generalizing n k with
  | nil => simp [more] at h
  | cons x r ih =>
    simp only [more] at h
    split at h
    · cases hm : more r with
      | none => simp [hm] at h
      | some p =>
        obtain ⟨n', k'⟩ := p
        simp [hm] at h
        have := ih hm
        simp only [List.length_cons]; omega
    · simp at h
      have := x.isLt
      simp only [List.length_cons]; omega
theorem num_le {low : Nat} {r : List By} {n k : Nat} (h : num low r = some (n, k)) (hl : low ≤ 15) : k ≤ r.length ∧ n ≤ 15 + 255 * k := by
  unfold num at h
  split at h
  · cases hm : more r with
    | none => simp [hm] at h
    | some p =>
      obtain ⟨n', k'⟩ := p
      simp [hm] at h
      have := more_le hm
      omega
  · simp at h; omega
theorem plainS_ok {T : Tk σ} {L low : Nat} {r r3 : List By} {s s1 : σ} (h : plainS T L low r s = .ok r3 s1) : ∃ n k, num low r = some (n, k) ∧ T.room s n = true ∧ n ≤ r.length - k ∧ r3 = r.drop (k + n) ∧ s1 = T.plain s ((r.drop k).take n) := by
  unfold plainS at h
  cases hm : num low r with
  | none => simp [hm] at h
  | some p =>
    obtain ⟨n, k⟩ := p
    simp only [hm] at h
    split at h
    · cases h
    · split at h
      · cases h
      · rename_i h1 h2
        injection h with h3 h4
        exact ⟨n, k, rfl, by simpa using h1, by omega, h3.symm, h4.symm⟩
theorem plainS_le {T : Tk σ} {L low : Nat} {r r3 : List By} {s s1 : σ} (h : plainS T L low r s = .ok r3 s1) : r3.length ≤ r.length := by
  obtain ⟨n, k, _, _, _, rfl, _⟩ := plainS_ok h
  simp
theorem matchS_le {T : Tk σ} {L low : Nat} {r r5 : List By} {s s1 : σ} (h : matchS T L low r s = .ok r5 s1) : r5.length + 2 ≤ r.length := by
  unfold matchS at h
  split at h
  · split at h
    · cases h
    · split at h
      · cases h
      · split at h
        · cases h
        · injection h with h1 h2
          subst h1; simp
  · cases h
/-- One sequence, and then the others. -/
theorem scanS_cons (T : Tk σ) (L : Nat) (tok : By) (r1 : List By) (s : σ) : scanS T L (tok :: r1) s =
    match plainS T L (tok.toNat / 16) r1 s with
    | .bad a y => .bad a y
    | .ok r3 s1 =>
      if r3 = [] then (if tok.toNat % 16 = 0 then .good (T.fin s1) else .bad (L - (r1.length + 1)) 31)
      else match matchS T L (tok.toNat % 16) r3 s1 with
        | .bad a y => .bad a y
        | .ok r5 s2 => scanS T L r5 s2 := by
  rw [scanS]
  cases hp : plainS T L (tok.toNat / 16) r1 s with
  | bad a y => rfl
  | ok r3 s1 =>
    simp only
    split
    · rfl
    · cases hm : matchS T L (tok.toNat % 16) r3 s1 with
      | bad a y => rfl
      | ok r5 s2 =>
        have h1 := plainS_le hp
        have h2 := matchS_le hm
        simp only
        rw [dif_pos (by omega)]

/-! ### Copies -/
/-- Bytes behind which a match was done. -/
def cop (all : List By) (back : Nat) : Nat → List By
  | 0 => all
  | n + 1 => cop all back n ++ [(cop all back n).getD ((cop all back n).length - back) 0]
theorem cop_length (all : List By) (back n : Nat) : (cop all back n).length = all.length + n := by
  induction n with
  | zero => rfl
  | succ n ih => simp [cop, ih]; omega
/-- Each byte beyond is the one back places ahead of it. -/
structure Per (all : List By) (back : Nat) (X : List By) : Prop where
  pre : X.take all.length = all
  le : all.length ≤ X.length
  per : ∀ i, all.length ≤ i → i < X.length → X[i]? = X[i - back]?
theorem Per.refl (all : List By) (back : Nat) : Per all back all := ⟨by simp, Nat.le_refl _, fun i h1 h2 => by omega⟩
theorem Per.app {all : List By} {back : Nat} {X m : List By} (h : Per all back X) (hm : ∀ i, i < m.length → m[i]? = (X ++ m)[X.length + i - back]?) : Per all back (X ++ m) := by
  refine ⟨?_, ?_, ?_⟩
  · rw [List.take_append_of_le_length h.le]; exact h.pre
  · simp; have := h.le; omega
  · intro i h1 h2
    by_cases hi : i < X.length
    · rw [List.getElem?_append_left hi, List.getElem?_append_left (by omega)]
      exact h.per i h1 hi
    · rw [List.length_append] at h2
      rw [List.getElem?_append_right (by omega), hm (i - X.length) (by omega)]
      congr 1; omega
theorem Per.step {all : List By} {back : Nat} {X : List By} (h : Per all back X) (hb : 1 ≤ back) (hb2 : back ≤ all.length) : Per all back (X ++ [X.getD (X.length - back) 0]) := by
  refine h.app (fun i hi => ?_)
  have := h.le
  simp at hi; subst hi
  rw [List.getElem?_append_left (by omega)]
  simp [List.getD_eq_getElem?_getD, List.getElem?_eq_getElem (show X.length - back < X.length by omega)]
theorem per_cop (all : List By) (back : Nat) (hb : 1 ≤ back) (hb2 : back ≤ all.length) (n : Nat) : Per all back (cop all back n) := by
  induction n with
  | zero => exact Per.refl _ _
  | succ n ih => exact ih.step hb hb2
theorem Per.uniq {all : List By} {back : Nat} {X Y : List By} (h : Per all back X) (k : Per all back Y) (hl : X.length = Y.length) (hb : 1 ≤ back) (hb2 : back ≤ all.length) : X = Y := by
  apply List.ext_getElem?
  intro i
  induction i using Nat.strongRecOn with
  | ind i ih =>
    by_cases h1 : i < all.length
    · have e1 : (X.take all.length)[i]? = (Y.take all.length)[i]? := by rw [h.pre, k.pre]
      rw [List.getElem?_take, List.getElem?_take, if_pos h1, if_pos h1] at e1
      exact e1
    · by_cases h2 : i < X.length
      · rw [h.per i (by omega) h2, k.per i (by omega) (by omega)]
        exact ih (i - back) (by omega)
      · rw [List.getElem?_eq_none (by omega), List.getElem?_eq_none (by omega)]
theorem Per.cop {all : List By} {back : Nat} {X : List By} (h : Per all back X) (hb : 1 ≤ back) (hb2 : back ≤ all.length) (n : Nat) (hl : X.length = all.length + n) : X = cop all back n :=
  h.uniq (per_cop all back hb hb2 n) (by rw [cop_length, hl]) hb hb2
/-- What lies farther ahead plays no part. -/
theorem cop_far (x all : List By) (back n : Nat) (hb : 1 ≤ back) (hb2 : back ≤ all.length) : cop (x ++ all) back n = x ++ cop all back n := by
  symm
  have hp := per_cop all back hb hb2 n
  have hl := cop_length all back n
  refine Per.cop (all := x ++ all) ⟨?_, ?_, ?_⟩ hb (by simp; omega) n (by simp; omega)
  · rw [List.length_append, List.take_append, List.take_of_length_le (by omega), Nat.add_sub_cancel_left, hp.pre]
  · simp; omega
  · intro i h1 h2
    rw [List.length_append] at h1 h2
    rw [List.getElem?_append_right (by omega), List.getElem?_append_right (by omega), hp.per (i - x.length) (by omega) (by omega)]
    congr 1; omega
/-- Over and over the same. -/
theorem Per.times {all : List By} {back : Nat} {X : List By} (h : Per all back X) (j t : Nat) (h1 : all.length ≤ j + back) (h2 : j + t * back < X.length) (hb : 1 ≤ back) : X[j + t * back]? = X[j]? := by
  induction t with
  | zero => simp
  | succ t ih =>
    rw [Nat.add_mul, Nat.one_mul] at h2
    rw [← ih (by omega), h.per _ (by rw [Nat.add_mul, Nat.one_mul]; omega) (by rw [Nat.add_mul, Nat.one_mul]; omega)]
    congr 1; rw [Nat.add_mul, Nat.one_mul]; omega
/-- A player of sequences. -/
def pl (ahead : List By) (most : Nat) : Tk (List By) where
  room s n := decide (n + s.length ≤ most)
  plain s p := s ++ p
  reaches s b := decide (b ≤ ahead.length + s.length)
  mat s b n := (cop (ahead ++ s) b n).drop ahead.length
  fin s := s
theorem pl_mat (ahead : List By) (most : Nat) (s : List By) (b n : Nat) (hb : 1 ≤ b) (hr : b ≤ ahead.length + s.length) : ahead ++ (pl ahead most).mat s b n = cop (ahead ++ s) b n := by
  have hp := per_cop (ahead ++ s) b hb (by simp; omega) n
  show ahead ++ (cop (ahead ++ s) b n).drop ahead.length = _
  have h1 : (cop (ahead ++ s) b n).take ahead.length = ahead := by
    have := congrArg (List.take ahead.length) hp.pre
    rw [List.take_take, List.length_append, Nat.min_eq_left (by omega)] at this
    rw [this]; simp
  conv => lhs; lhs; rw [← h1]
  exact List.take_append_drop _ _
theorem pl_mat_length (ahead : List By) (most : Nat) (s : List By) (b n : Nat) : ((pl ahead most).mat s b n).length = s.length + n := by
  show ((cop (ahead ++ s) b n).drop ahead.length).length = _
  rw [List.length_drop, cop_length, List.length_append]; omega
/-- Decode, as the document has it. -/
def dec (b ahead : List By) (most : Int) : List By × Nat × Nat :=
  if most < 0 ∨ 4194304 < most then ([], 0, 1) else
    match scanS (pl ahead most.toNat) b.length b [] with
    | .bad a y => ([], a, y)
    | .good s => (s, 0, 0)
end Go.Proofs.Ytoplhkpbicgceaa

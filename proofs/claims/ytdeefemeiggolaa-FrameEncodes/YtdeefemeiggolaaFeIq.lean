import Derived.Test.YtdeefemeiggolaaFeHq
namespace Go.Proofs.Ytdeefemeiggolaa
open Go.RowKit
set_option linter.unusedVariables false
/-! ### What Lay lays is what Encode makes -/
theorem EncB.uniq {s : Shp} {plain : List By} {p : Nat} {x y : List By} (h : EncB s plain p x) (h' : EncB s plain p y) : x = y := by
  induction h generalizing y with
  | fin p hp =>
    cases h' with
    | fin _ _ => rfl
    | step _ bk rest h _ _ => omega
  | step p bk rest hp hE hr ih =>
    cases h' with
    | fin _ h => omega
    | step _ bk' rest' _ hE' hr' =>
      rw [hE.uniq hE', ih hr']
theorem tk_min (plain : List By) (p n : Nat) : tk plain p (min n (plain.length - p)) = tk plain p n := by
  unfold tk
  by_cases h : n ≤ plain.length - p
  · rw [Nat.min_eq_left h]
  · rw [Nat.min_eq_right (by omega), List.take_of_length_le (by rw [List.length_drop]; omega), List.take_of_length_le (by rw [List.length_drop]; omega)]
theorem layI_cons (sums : Bool) (plain : List By) (z : (Nat × Nat) × List By) (zs : List ((Nat × Nat) × List By)) (n : Nat) : layI sums plain (z :: zs) (n + 1) = blkOf sums (tk plain z.1.1 z.1.2) z.2 ++ layI sums plain zs n := by
  unfold layI; simp
theorem layI_encB (s : Shp) (plain : List By) (ps : List (Nat × Nat)) (bks : List (List By)) (p : Nat) (hps : Cuts plain.length (siz s) p ps plain.length) (hl : bks.length = ps.length) (hE : ∀ (i : Nat) (x : Nat × Nat) (bk : List By), ps[i]? = some x → bks[i]? = some bk → EncOf (tk plain x.1 x.2) (if s.alone = true then [] else plain.take x.1) bk) : EncB s plain p (layI s.bsum plain (ps.zip bks) ps.length) := by
  induction ps generalizing p bks with
  | nil =>
    have e : p = plain.length := hps
    have : layI s.bsum plain (([] : List (Nat × Nat)).zip bks) ([] : List (Nat × Nat)).length = [] := by unfold layI; simp
    rw [this]
    exact EncB.fin p (by omega)
  | cons x r ih =>
    cases bks with
    | nil => simp at hl
    | cons bk bs =>
      obtain ⟨h1, h2, h3, h4⟩ := hps
      have hE0 := hE 0 x bk (by simp) (by simp)
      have hE' : ∀ (i : Nat) (x' : Nat × Nat) (bk' : List By), r[i]? = some x' → bs[i]? = some bk' → EncOf (tk plain x'.1 x'.2) (if s.alone = true then [] else plain.take x'.1) bk' := fun i x' bk' a b => hE (i + 1) x' bk' (by simpa using a) (by simpa using b)
      rw [List.zip_cons_cons, List.length_cons, layI_cons]
      have e : tk plain x.1 x.2 = tk plain p (siz s) := by rw [h1, h3, tk_min]
      simp only
      rw [e]
      rw [e, h1] at hE0
      refine EncB.step p bk _ h2 hE0 ?_
      have hl' : bs.length = r.length := by simpa using hl
      by_cases hc : siz s ≤ plain.length - p
      · have e2 : p + x.2 = p + siz s := by rw [h3, Nat.min_eq_left hc]
        rw [e2] at h4
        exact ih bs _ h4 hl' hE'
      · have e2 : p + x.2 = plain.length := by rw [h3, Nat.min_eq_right (by omega)]; omega
        rw [e2] at h4
        cases r with
        | nil =>
          have : layI s.bsum plain (([] : List (Nat × Nat)).zip bs) ([] : List (Nat × Nat)).length = [] := by unfold layI; simp
          rw [this]
          exact EncB.fin _ (by omega)
        | cons y r' => have := h4.2.1; omega
end Go.Proofs.Ytdeefemeiggolaa

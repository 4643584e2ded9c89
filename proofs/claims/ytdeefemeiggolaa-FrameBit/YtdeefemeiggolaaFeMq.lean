import Derived.Test.YtdeefemeiggolaaFeLq
import Derived.Test.YtdeefemeiggolaaQo
namespace Go.Proofs.Ytdeefemeiggolaa
open Go.RowKit
set_option linter.unusedVariables false
/-! ### laid: a round -/
theorem Cuts.at0 {L sz : Nat} {ps : List (Nat × Nat)} {p q : Nat} (h : Cuts L sz p ps q) (x : Nat × Nat) (hx : ps[0]? = some x) : x.1 = p := by
  cases ps with
  | nil => simp at hx
  | cons y r => simp at hx; subst hx; exact h.1
theorem Cuts.next {L sz : Nat} {ps : List (Nat × Nat)} {p q : Nat} (h : Cuts L sz p ps q) (i : Nat) (x y : Nat × Nat) (hx : ps[i]? = some x) (hy : ps[i + 1]? = some y) : y.1 = x.1 + x.2 := by
  induction ps generalizing p i with
  | nil => simp at hx
  | cons z r ih =>
    obtain ⟨h1, h2, h3, h4⟩ := h
    cases i with
    | zero =>
      simp at hx; subst hx
      rw [h4.at0 y (by simpa using hy), h1]
    | succ i => exact ih h4 i (by simpa using hx) (by simpa using hy)
/-- What stands ahead of round i: the blocks so far. -/
def LdI (s : Shp) (plain : List By) (ps : List (Nat × Nat)) (w4 : World) (i : Nat) (v : Value) (wr : World) : Prop :=
  ∃ (K : Nat → Prop) (bks : List (List By)) (vals : List Value), (∀ k, K k → k < wr.heap.size) ∧ (∀ k, k < w4.heap.size → K k) ∧ MineV K v vals wr ∧ vals.length = i ∧ bks.length = i ∧
    (∀ (j : Nat) (bk : List By), bks[j]? = some bk → ∃ va vc, vals[j]? = some (.slice va bk.length vc) ∧ Sl (fun k => ¬ K k) (.slice va bk.length vc) bk wr ∧ bk.length ≤ 100000000) ∧
    (∀ (j : Nat) (x : Nat × Nat) (bk : List By), ps[j]? = some x → bks[j]? = some bk → EncOf (tk plain x.1 x.2) (if s.alone = true then [] else plain.take x.1) bk) ∧ Nw w4 wr
theorem LdI.start (s : Shp) (plain : List By) (ps : List (Nat × Nat)) (w4 : World) : LdI s plain ps w4 0 (.slice none 0 0) w4 :=
  ⟨fun k => k < w4.heap.size, [], [], fun k h => h, fun k h => h, .inl ⟨rfl, rfl⟩, rfl, rfl, fun j bk h => by simp at h, fun j x bk _ h => by simp at h, Fr.refl _ _⟩
set_option maxRecDepth 100000 in
theorem laid_step (s : Shp) (plain : List By) (ps : List (Nat × Nat)) (w4 wr V : World) (i lo : Nat) (la : Option Addr) (lc : Nat) (hI : LdI s plain ps w4 i (.slice la lo lc) wr) (hV : Nw wr V) (hi : i ≤ 1000000000) (x : Nat × Nat) (hx : ps[i]? = some x) (vx : Value) (hvx : Old w4 vx (tk plain x.1 x.2)) (hxl : (tk plain x.1 x.2).length ≤ 4194304) (va : Value) (hva : Old V va (if s.alone = true then [] else plain.take x.1)) (hal : plain.length ≤ 4194304) :
    ∃ g1 c1 W1, Hid (∀ ty, (Builtin.append_ #[22, 22] ty #[.slice (some ⟨V.heap.size, 0, none⟩) 0 0, vx]).run Try.prog (V.alloc (.cells #[] 5)) = .ok (.slice (some ⟨g1, 0, none⟩) (tk plain x.1 x.2).length c1) W1) ∧
      Hid (Calls Try.prog 25 #[.slice (some ⟨g1, 0, none⟩) (tk plain x.1 x.2).length c1, va] W1 fun e w3 => ∃ a3 l3 c3, e = .returned (.tuple #[.slice a3 l3 c3, .int .i64 0]) ∧ ∃ la' lc' W, Hid (∀ ty, (Builtin.append_ #[52, 52] ty #[.slice la lo lc, .slice (some ⟨w3.heap.size, 0, none⟩) 1 1]).run Try.prog (w3.alloc (.cells #[.slice a3 l3 c3] 22)) = .ok (.slice la' (lo + 1) lc') W) ∧ (∀ (q : Addr) (u : Value), w4.cell? q = some u → W.cell? q = some u) ∧ Hid (LdI s plain ps w4 (i + 1) (.slice la' (lo + 1) lc') W)) := by
  obtain ⟨K, bks, vals, hK, hK4, hM, hvl, hbl, hB, hE, hN⟩ := hI
  obtain ⟨g1, c1, W1, hap1, hO1, hg1, hN1⟩ := copyB V vx _ (Sl.later hvx (hN.trans hV)) (by omega)
  refine ⟨g1, c1, W1, hap1, ?_⟩
  show Calls _ _ _ _ _
  refine (Encode_any W1 _ va _ _ hO1.old (Sl.later hva hN1) hxl (by split <;> simp <;> omega)).mono ?_
  rintro e w3 ⟨a3, c3, b, rfl, hEb, hMb, hN3⟩
  refine ⟨a3, _, c3, rfl, ?_⟩
  have hb := hEb.bound
  have hr3 : Nw wr w3 := (hV.trans hN1).trans hN3
  have h43 : Nw w4 w3 := hN.trans hr3
  have hM' : MineV (fun k => K k ∨ (wr.heap.size ≤ k ∧ k < w3.heap.size)) (.slice la lo lc) vals w3 := by
    rcases hM with h | ⟨g, h1, h2⟩
    · exact .inl h
    · have := h2.lt
      exact .inr ⟨g, fun hk => by rcases hk with hk | hk; exact h1 hk; omega, h2.nw hr3⟩
  obtain ⟨v', W, m1, m2, m3⟩ := mineV_step (fun k => K k ∨ (wr.heap.size ≤ k ∧ k < w3.heap.size)) w3 (fun k hk => by
    rcases hk with hk | hk
    · have := hK k hk; have := hr3.size; omega
    · exact hk.2) _ _ hM' (by omega) (.slice a3 b.length c3) rfl
  obtain ⟨la', lc', e1, _, _⟩ := m2.form
  have hlo : lo = vals.length := by
    obtain ⟨_, _, e, _, _⟩ := hM.form
    injection e
  have e2 : (vals ++ [Value.slice a3 b.length c3]).length = lo + 1 := by rw [List.length_append, hlo]; rfl
  rw [e2] at e1
  subst e1
  have h4W : Nw w4 W := Fr.then h43 m3 (fun k hk => .inr (by
    by_cases h : k < w4.heap.size
    · exact absurd (.inl (hK4 k h)) hk
    · omega))
  refine ⟨la', lc', W, m1, fun q u hq => h4W.cell hq, ?_⟩
  refine ⟨fun k => K k ∨ (wr.heap.size ≤ k ∧ k < w3.heap.size), bks ++ [b], vals ++ [.slice a3 b.length c3], fun k hk => ?_, fun k hk => .inl (hK4 k hk), m2, by simp [hvl], by simp [hbl], fun j bk hj => ?_, fun j y bk hy hj => ?_, h4W⟩
  · have := m3.size
    have := hr3.size
    rcases hk with hk | hk
    · have := hK k hk; omega
    · omega
  · by_cases hji : j < bks.length
    · rw [List.getElem?_append_left hji] at hj
      obtain ⟨ua, uc, h1, h2, h3⟩ := hB j bk hj
      refine ⟨ua, uc, by rw [List.getElem?_append_left (by omega)]; exact h1, ?_, h3⟩
      exact ((h2.nw hr3).mono (fun k hk h => hk (.inl h))).kept m3 (fun k hk => hk)
    · rw [List.getElem?_append_right (by omega)] at hj
      have hj0 : j - bks.length = 0 := by
        have := (List.getElem?_eq_some_iff.1 hj).1
        simp at this; omega
      rw [hj0] at hj
      simp at hj
      subst hj
      refine ⟨a3, c3, by rw [List.getElem?_append_right (by omega), show j - vals.length = 0 by omega]; rfl, ?_, by omega⟩
      refine Sl.kept ?_ m3 (fun k hk => hk)
      rcases hMb with ⟨h1, h2⟩ | ⟨gb, h1, h2⟩
      · injection h1 with h1 h3 h4
        exact .inl ⟨a3, by rw [h2, h4]; rfl, h2⟩
      · have := h2.lt
        have := (hV.trans hN1).size
        exact .inr ⟨gb, fun hk => hk (.inr ⟨by omega, by omega⟩), h2.slb⟩
  · by_cases hji : j < bks.length
    · rw [List.getElem?_append_left hji] at hj
      exact hE j y bk hy hj
    · rw [List.getElem?_append_right (by omega)] at hj
      have hj0 : j - bks.length = 0 := by
        have := (List.getElem?_eq_some_iff.1 hj).1
        simp at this; omega
      rw [hj0] at hj
      simp at hj
      subst hj
      have : j = i := by omega
      subst this
      rw [hx] at hy
      obtain rfl := Option.some.inj hy
      exact hEb
end Go.Proofs.Ytdeefemeiggolaa

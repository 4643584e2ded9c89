import Derived.Test.YtdeefemeiggolaaFeEq
namespace Go.Proofs.Ytdeefemeiggolaa
open Go.RowKit
set_option linter.unusedVariables false
/-! ### The document's Lay -/
theorem Cuts.uniq {L sz : Nat} {ps ps' : List (Nat × Nat)} {p : Nat} (h : Cuts L sz p ps L) (h' : Cuts L sz p ps' L) : ps = ps' := by
  induction ps generalizing p ps' with
  | nil =>
    have e : p = L := h
    cases ps' with
    | nil => rfl
    | cons y r => have := h'.2.1; omega
  | cons x r ih =>
    cases ps' with
    | nil => have e : p = L := h'; have := h.2.1; omega
    | cons y r' =>
      obtain ⟨h1, h2, h3, h4⟩ := h
      obtain ⟨k1, k2, k3, k4⟩ := h'
      have e : x = y := Prod.ext (h1.trans k1.symm) (h3.trans k3.symm)
      subst e
      rw [ih h4 k4]
theorem Cuts.get {L sz : Nat} {ps : List (Nat × Nat)} {p q : Nat} (h : Cuts L sz p ps q) (i : Nat) (x : Nat × Nat) (hx : ps[i]? = some x) : x.1 < L ∧ x.2 = min sz (L - x.1) := by
  induction ps generalizing p i with
  | nil => simp at hx
  | cons y r ih =>
    obtain ⟨h1, h2, h3, h4⟩ := h
    cases i with
    | zero => simp at hx; subst hx; exact ⟨by omega, by rw [h3, h1]⟩
    | succ i => exact ih h4 i (by simpa using hx)
/-- The blocks of the first pieces. -/
def layI (sums : Bool) (plain : List By) (zs : List ((Nat × Nat) × List By)) (i : Nat) : List By := ((zs.take i).map (fun z => blkOf sums (tk plain z.1.1 z.1.2) z.2)).flatten
theorem layI_succ (sums : Bool) (plain : List By) (zs : List ((Nat × Nat) × List By)) (i : Nat) (z : (Nat × Nat) × List By) (h : zs[i]? = some z) : layI sums plain zs (i + 1) = layI sums plain zs i ++ blkOf sums (tk plain z.1.1 z.1.2) z.2 := by
  unfold layI
  obtain ⟨hi, e⟩ := List.getElem?_eq_some_iff.1 h
  rw [List.take_succ_eq_append_getElem hi, e]
  simp
/-- One block. -/
theorem lay_round (K : Nat → Prop) (w0 wr : World) (hK : ∀ k, K k → k < w0.heap.size) (hF : Fr (fun k => ¬ K k) w0 wr) (v7 : Value) (acc : List By) (hM : Mine K v7 acc wr) (hacc : acc.length ≤ 100000000000000) (vx : Value) (bts : List By) (hx : Sl (fun k => ¬ K k) vx bts w0) (hbl : bts.length ≤ 1000000000) (num : Nat) (hnum : num < 4294967296) (S : World → Prop) (hS : ∀ V, Fr (fun k => ¬ K k) w0 V → S V) :
    Hid (Calls Try.prog 28 #[.int .u64 num, .int .i64 4] wr fun e w1 => ∃ a l c, e = .returned (.slice a l c) ∧ ∃ a3 l3 c3 W3, Hid (∀ ty, (Builtin.append_ #[22, 22] ty #[v7, .slice a l c]).run Try.prog w1 = .ok (.slice a3 l3 c3) W3) ∧ ∃ a4 l4 c4 W4, Hid (∀ ty, (Builtin.append_ #[22, 22] ty #[.slice a3 l3 c3, vx]).run Try.prog W3 = .ok (.slice a4 l4 c4) W4) ∧ S W4 ∧ Hid (Mine K (.slice a4 l4 c4) (acc ++ lows num 4 ++ bts) W4 ∧ Fr (fun k => ¬ K k) w0 W4) ∧
      Hid (Calls Try.prog 45 #[.int .u32 0, vx] W4 fun e w5 => ∃ q : Nat, e = .returned (.int .u32 q) ∧ q < 4294967296 ∧ Hid (Calls Try.prog 28 #[.int .u64 q, .int .i64 4] w5 fun e w6 => ∃ a6 l6 c6, e = .returned (.slice a6 l6 c6) ∧ ∃ a8 l8 c8 W8, Hid (∀ ty, (Builtin.append_ #[22, 22] ty #[.slice a4 l4 c4, .slice a6 l6 c6]).run Try.prog w6 = .ok (.slice a8 l8 c8) W8) ∧ Hid (Mine K (.slice a8 l8 c8) (acc ++ lows num 4 ++ bts ++ lows (sm bts) 4) W8 ∧ Fr (fun k => ¬ K k) w0 W8)))) := by
  show Calls _ _ _ _ _
  refine (dlow_any wr num 4 (by omega) (by decide)).mono ?_
  rintro e w1 ⟨a, l, c, rfl, hM1, hN1⟩
  refine ⟨a, l, c, rfl, ?_⟩
  have hF1 : Fr (fun k => ¬ K k) w0 w1 := hF.trans hN1.any
  have hK1 : ∀ {V}, Fr (fun k => ¬ K k) w0 V → ∀ k, K k → k < V.heap.size := fun hV k hk => Nat.lt_of_lt_of_le (hK k hk) hV.size
  obtain ⟨v3, W3, hap3, hM3, hF3⟩ := mine_app K w1 (hK1 hF1) _ _ (hM.nw hN1) _ _ (hM1.old.mono (fun _ h => h.elim)) (by rw [lows_length]; omega)
  obtain ⟨a3, c3, rfl, _, _⟩ := hM3.sl.form
  refine ⟨a3, _, c3, W3, hap3, ?_⟩
  have hF3' := hF1.trans hF3
  have hx3 : Sl (fun k => ¬ K k) vx bts W3 := hx.kept hF3' (fun _ h => h)
  obtain ⟨v4, W4, hap4, hM4, hF4⟩ := mine_app K W3 (hK1 hF3') _ _ hM3 _ _ (hx3.mono (fun _ h => h.elim)) (by rw [List.length_append, lows_length]; omega)
  obtain ⟨a4, c4, rfl, _, _⟩ := hM4.sl.form
  have hF4' := hF3'.trans hF4
  refine ⟨a4, _, c4, W4, hap4, hS _ hF4', ⟨hM4, hF4'⟩, ?_⟩
  show Calls _ _ _ _ _
  have hx4 : Old W4 vx bts := (hx.kept hF4' (fun _ h => h)).mono (fun k hk hKk => by have := hK1 hF4' k hKk; omega)
  refine (rsum32_any 0#32 _ bts W4 hx4).mono ?_
  rintro e w5 ⟨rfl, hN5⟩
  refine ⟨sm bts, rfl, sm_lt bts, ?_⟩
  show Calls _ _ _ _ _
  have hF5 := hF4'.trans hN5.any
  refine (dlow_any w5 (sm bts) 4 (by have := sm_lt bts; omega) (by decide)).mono ?_
  rintro e w6 ⟨a6, l6, c6, rfl, hM6, hN6⟩
  refine ⟨a6, l6, c6, rfl, ?_⟩
  have hF6 := hF5.trans hN6.any
  obtain ⟨v8, W8, hap8, hM8, hF8⟩ := mine_app K w6 (hK1 hF6) _ _ ((hM4.nw hN5).nw hN6) _ _ (hM6.old.mono (fun _ h => h.elim)) (by rw [List.length_append, List.length_append, lows_length, lows_length]; omega)
  obtain ⟨a8, c8, rfl, _, _⟩ := hM8.sl.form
  exact ⟨a8, _, c8, W8, hap8, hM8, hF6.trans hF8⟩
end Go.Proofs.Ytdeefemeiggolaa

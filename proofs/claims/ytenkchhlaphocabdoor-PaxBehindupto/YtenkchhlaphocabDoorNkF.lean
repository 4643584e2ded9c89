import Derived.Test.YtenkchhlaphocabDoorNkC
namespace Go.Proofs.YtenkchhlaphocabDoor
open Go.RowKit
set_option linter.unusedVariables false
/-! ### PaxBack -/
theorem prs_wt (b : Bs) (p : Nat) (acc : List Pr) (hp : p ≤ b.length) (h : wtP acc ≤ 3 * p) : wtP (prs b p acc).1 ≤ 3 * b.length := by
  induction hk : b.length - p using Nat.strongRecOn generalizing p acc with
  | _ k ih =>
    by_cases hlt : p < b.length
    · cases hr : rc1 (b.drop p) with
      | bad n e => rw [prs_bad b p acc hlt n e hr]; simp [wtP]
      | ok x n =>
        have h5 := rc1_ok hr
        rw [List.length_drop] at h5
        rw [prs_ok b p acc hlt x n hr]
        refine ih (b.length - (p + n)) (by omega) (p + n) (acc ++ [x]) (by omega) ?_ rfl
        unfold wtP at h ⊢
        rw [List.map_append, List.sum_append]
        simp only [List.map_cons, List.map_nil, List.sum_cons, List.sum_nil]
        omega
    · rw [prs_end b p acc hlt]
      show wtP acc ≤ _
      omega
theorem prE_zero {l : List Pr} (h : prE l = 0) : ∀ x ∈ l, canP x = true ∧ lng x ≠ 0 := by
  unfold prE at h
  split at h
  · rename_i h1
    split at h
    · rename_i h2
      exact fun x hx => ⟨h1 x hx, h2 x hx⟩
    · cases h
  · cases h
theorem prE_of {l : List Pr} (h : ∀ x ∈ l, canP x = true ∧ lng x ≠ 0) : prE l = 0 := by
  unfold prE
  rw [if_pos (fun x hx => (h x hx).1), if_pos (fun x hx => (h x hx).2)]
theorem prE_le (l : List Pr) : prE l ≤ 141 := by
  unfold prE
  split
  · split <;> decide
  · decide
/-- What Parse answers, by its three parts. -/
theorem parse_at {X : Nat → Prop} (w : World) (v : Value) (b : List By) (hb : Sl X v b w) (hn : b.length ≤ 1000000000) (l : List Pr) (p e : Nat) (hr : prs b 0 [] = (l, p, e)) :
    Calls Tryd.prog 5 #[v] w fun en V => ∃ a c, en = .returned (.tuple #[.slice a l.length c, .int .i64 (p : Nat), .int .i64 (e : Nat)]) ∧ Hid (Nw w V ∧ SlR RP (fun k => k < w.heap.size) (.slice a l.length c) l V) := by
  obtain ⟨a', c', rfl, _, _⟩ := hb.form
  refine (parse_any w a' b.length c' b hb hn).mono ?_
  rintro en V ⟨u, rfl, H⟩
  rw [hr] at H ⊢
  obtain ⟨h1, og, h2, h3⟩ := H.out
  obtain ⟨a, c, rfl, _, _⟩ := h2.form
  exact ⟨a, c, rfl, h1, (h2.slr rpOk).mono (fun k hk h => by have := h3 k h; omega)⟩
theorem print_at {X : Nat → Prop} (w : World) (hE : Env w) (v : Value) (l : List Pr) (hl : SlR RP X v l w) (hw : wtP l ≤ 100000000) : Calls Tryd.prog 7 #[v] w (PrA w l) := by
  obtain ⟨a, c, rfl, _⟩ := hl.form
  exact print_any w hE a l.length c l hl hw
/-- A copy of bytes, a copy of pairs. -/
theorem copyB (w : World) (v : Value) (b : Bs) (hb : Sl (fun _ => False) v b w) (hn : b.length ≤ 1000000000) : ∃ v' W, Hid (∀ ty, (Builtin.append_ #[22, 22] ty #[.slice (some ⟨w.heap.size, 0, none⟩) 0 0, v]).run Tryd.prog (w.alloc (.cells #[] 5)) = .ok v' W) ∧ Nw w W ∧ Sl (fun _ => False) v' b W := by
  have hN0 : Nw w (w.alloc (.cells #[] 5)) := (Fr.refl _ _).alloc _
  obtain ⟨v', g', W, a1, o1, f1, d1⟩ := app_any _ _ _ [] (Ow.empty w) v b (hb.nw hN0) (by simp; omega)
  exact ⟨v', W, a1, hN0.then f1 (fun i hi => .inr (by omega)), .inr ⟨g', fun h => h, o1.slb⟩⟩
theorem copyP (w : World) (v : Value) (l : List Pr) (hb : SlR RP (fun _ => False) v l w) (hn : l.length ≤ 100000000) : ∃ v' W, Hid (∀ ty, (Builtin.append_ #[24, 24] ty #[.slice (some ⟨w.heap.size, 0, none⟩) 0 0, v]).run Tryd.prog (w.alloc (.cells #[] 33)) = .ok v' W) ∧ Nw w W ∧ SlR RP (fun _ => False) v' l W := by
  have hN0 : Nw w (w.alloc (.cells #[] 33)) := (Fr.refl _ _).alloc _
  obtain ⟨v', g', W, a1, o1, f1, d1⟩ := owR_app rpOk _ _ _ [] (OwR.empty (R := RP) w) v l (hb.nw hN0) (by simp only [RP, List.length_nil]; omega) (by simp; omega)
  exact ⟨v', W, a1, hN0.then f1 (fun i hi => .inr (by omega)), (o1.slr rpOk).anyP⟩
theorem wt_len (l : List Pr) : 12 * l.length ≤ wtP l := by
  induction l with
  | nil => simp [wtP]
  | cons x r ih =>
    unfold wtP at ih ⊢
    rw [List.map_cons, List.sum_cons, List.length_cons]
    omega
end Go.Proofs.YtenkchhlaphocabDoor

import Derived.Test.YtkpkiajehclbhaaVbf
namespace Go.Proofs.Ytkpkiajehclbhaa
open Go.RowKit
set_option linter.unusedVariables false
/-! ### Purses of coins -/
abbrev Coin := Nat × Bool
def isS (x : Coin) : Bool := !x.2
/-- Each symbol's coin and the pairs, the cheapest first; of one cost the symbol's. -/
def mg : List Nat → List Nat → List Coin
  | [], ps => ps.map (fun p => (p, true))
  | c :: cs, ps => (ps.takeWhile (fun p => decide (p < c))).map (fun p => (p, true)) ++ (c, false) :: mg cs (ps.dropWhile (fun p => decide (p < c)))
/-- By twos. -/
def pr : List Nat → List Nat
  | a :: b :: r => (a + b) :: pr r
  | _ => []
def cost (l : List Coin) : List Nat := l.map Prod.fst
theorem mg_length (cs ps : List Nat) : (mg cs ps).length = cs.length + ps.length := by
  induction cs generalizing ps with
  | nil => simp [mg]
  | cons c cs ih =>
    have h : (ps.takeWhile (fun p => decide (p < c))).length + (ps.dropWhile (fun p => decide (p < c))).length = ps.length := by
      rw [← List.length_append, List.takeWhile_append_dropWhile]
    simp only [mg, List.length_append, List.length_map, List.length_cons, ih]
    omega
theorem mg_singles (cs ps : List Nat) : cost ((mg cs ps).filter isS) = cs := by
  induction cs generalizing ps with
  | nil => simp [mg, cost, isS, List.filter_map, Function.comp_def]
  | cons c cs ih =>
    simp only [mg, List.filter_append, cost, List.map_append]
    rw [List.filter_eq_nil_iff.2 (by simp [isS])]
    have := ih (ps.dropWhile (fun p => decide (p < c)))
    unfold cost at this
    simp [isS] at this ⊢
    exact this
theorem mg_pairs (cs ps : List Nat) : cost ((mg cs ps).filter (fun x => !isS x)) = ps := by
  induction cs generalizing ps with
  | nil => simp [mg, cost, isS, List.filter_map, Function.comp_def]
  | cons c cs ih =>
    simp only [mg, List.filter_append, cost, List.map_append]
    have := ih (ps.dropWhile (fun p => decide (p < c)))
    unfold cost at this
    rw [List.filter_eq_self.2 (by simp [isS])]
    simp only [isS, List.filter_cons, Bool.not_false, Bool.not_true, Bool.false_eq_true, if_false] at this ⊢
    rw [this, List.map_map]
    have e : (Prod.fst ∘ fun p : Nat => (p, true)) = id := rfl
    rw [e, List.map_id, List.takeWhile_append_dropWhile]
theorem mem_mg (cs ps : List Nat) (x : Coin) (h : x ∈ mg cs ps) : (x.2 = false ∧ x.1 ∈ cs) ∨ (x.2 = true ∧ x.1 ∈ ps) := by
  cases hx : x.2 with
  | false =>
    refine .inl ⟨rfl, ?_⟩
    rw [← mg_singles cs ps]
    exact List.mem_map.2 ⟨x, List.mem_filter.2 ⟨h, by simp [isS, hx]⟩, rfl⟩
  | true =>
    refine .inr ⟨rfl, ?_⟩
    rw [← mg_pairs cs ps]
    exact List.mem_map.2 ⟨x, List.mem_filter.2 ⟨h, by simp [isS, hx]⟩, rfl⟩
abbrev Inc (l : List Nat) : Prop := l.Pairwise (· ≤ ·)
theorem dropWhile_ge (c : Nat) (ps : List Nat) (h : Inc ps) : ∀ p ∈ ps.dropWhile (fun p => decide (p < c)), c ≤ p := by
  induction ps with
  | nil => simp
  | cons a r ih =>
    have h := List.pairwise_cons.1 h
    intro p hp
    rw [List.dropWhile_cons] at hp
    by_cases ha : a < c
    · simp [ha] at hp; exact ih h.2 p hp
    · simp [ha] at hp
      rcases hp with rfl | hp
      · omega
      · have := h.1 p hp; omega
theorem takeWhile_lt (c : Nat) (ps : List Nat) : ∀ p ∈ ps.takeWhile (fun p => decide (p < c)), p < c := by
  induction ps with
  | nil => simp
  | cons a r ih =>
    intro p hp
    rw [List.takeWhile_cons] at hp
    by_cases ha : a < c
    · simp [ha] at hp
      rcases hp with rfl | hp
      · exact ha
      · exact ih p hp
    · simp [ha] at hp
theorem mg_sorted (cs ps : List Nat) (h1 : Inc cs) (h2 : Inc ps) : (mg cs ps).Pairwise (fun a b => a.1 ≤ b.1) := by
  induction cs generalizing ps with
  | nil =>
    simp only [mg, List.pairwise_map]
    exact h2
  | cons c cs ih =>
    have h1 := List.pairwise_cons.1 h1
    have hd := dropWhile_ge c ps h2
    have htw := takeWhile_lt c ps
    have hsub1 : Inc (ps.takeWhile (fun p => decide (p < c))) := h2.sublist (List.takeWhile_sublist _)
    have hsub2 : Inc (ps.dropWhile (fun p => decide (p < c))) := h2.sublist (List.dropWhile_sublist _)
    have hm : ∀ x ∈ mg cs (ps.dropWhile (fun p => decide (p < c))), c ≤ x.1 := fun x hx => by
      rcases mem_mg _ _ x hx with ⟨_, h⟩ | ⟨_, h⟩
      · exact h1.1 _ h
      · exact hd _ h
    simp only [mg]
    rw [List.pairwise_append]
    refine ⟨by rw [List.pairwise_map]; exact hsub1, List.pairwise_cons.2 ⟨hm, ih _ h1.2 hsub2⟩, fun x hx y hy => ?_⟩
    rw [List.mem_map] at hx
    obtain ⟨p, hp, rfl⟩ := hx
    have := htw p hp
    rw [List.mem_cons] at hy
    rcases hy with rfl | hy
    · simp only; omega
    · have := hm y hy; simp only; omega
theorem mg_perm (cs ps : List Nat) : (cost (mg cs ps)).Perm (cs ++ ps) := by
  induction cs generalizing ps with
  | nil => simp [mg, cost, Function.comp_def]
  | cons c cs ih =>
    have h := ih (ps.dropWhile (fun p => decide (p < c)))
    unfold cost at h
    simp only [mg, cost, List.map_append, List.map_map, List.map_cons]
    have e : (Prod.fst ∘ fun p : Nat => (p, true)) = id := rfl
    rw [e, List.map_id]
    have h3 : (ps.takeWhile (fun p => decide (p < c)) ++ c :: (cs ++ ps.dropWhile (fun p => decide (p < c)))).Perm (c :: (cs ++ ps)) := by
      refine List.perm_middle.trans (List.Perm.cons _ ?_)
      rw [← List.append_assoc]
      have h4 : (ps.takeWhile (fun p => decide (p < c)) ++ cs ++ ps.dropWhile (fun p => decide (p < c))).Perm (cs ++ ps.takeWhile (fun p => decide (p < c)) ++ ps.dropWhile (fun p => decide (p < c))) := List.Perm.append_right _ List.perm_append_comm
      refine h4.trans ?_
      rw [List.append_assoc, List.takeWhile_append_dropWhile]
    exact (List.Perm.append_left _ (List.Perm.cons _ h)).trans h3
theorem pr_length : ∀ l : List Nat, (pr l).length = l.length / 2
  | [] => by simp [pr]
  | [_] => by simp [pr]
  | a :: b :: r => by simp only [pr, List.length_cons, pr_length r]; omega
theorem pr_at : ∀ (l : List Nat) (y : Nat), 2 * y + 1 < l.length → (pr l).getD y 0 = l.getD (2 * y) 0 + l.getD (2 * y + 1) 0
  | [], y, h => by simp at h
  | [_], y, h => by simp at h
  | a :: b :: r, 0, h => by simp [pr]
  | a :: b :: r, y + 1, h => by
    have := pr_at r y (by simp at h; omega)
    simp only [pr, List.getD_cons_succ, show 2 * (y + 1) = 2 * y + 1 + 1 by omega]
    rw [this]
theorem pr_sum : ∀ (l : List Nat) (q : Nat), 2 * q ≤ l.length → ((pr l).take q).sum = (l.take (2 * q)).sum
  | l, 0, h => by simp
  | [], q + 1, h => by simp at h
  | [_], q + 1, h => by simp at h; omega
  | a :: b :: r, q + 1, h => by
    have := pr_sum r q (by simp at h; omega)
    simp only [pr, List.take_succ_cons, show 2 * (q + 1) = 2 * q + 1 + 1 by omega, List.sum_cons, this]
    omega
theorem pr_mem : ∀ (l : List Nat) (x : Nat), x ∈ pr l → (∀ y ∈ l, 0 < y) → 0 < x
  | [], x, h, _ => by simp [pr] at h
  | [_], x, h, _ => by simp [pr] at h
  | a :: b :: r, x, h, hp => by
    simp only [pr, List.mem_cons] at h
    rcases h with rfl | h
    · have := hp a (by simp); omega
    · exact pr_mem r x h (fun y hy => hp y (by simp [hy]))
theorem pr_ge : ∀ (l : List Nat) (x m : Nat), x ∈ pr l → (∀ y ∈ l, m ≤ y) → 2 * m ≤ x
  | [], x, m, h, _ => by simp [pr] at h
  | [_], x, m, h, _ => by simp [pr] at h
  | a :: b :: r, x, m, h, hp => by
    simp only [pr, List.mem_cons] at h
    rcases h with rfl | h
    · have := hp a (by simp); have := hp b (by simp); omega
    · exact pr_ge r x m h (fun y hy => hp y (by simp [hy]))
theorem pr_sorted : ∀ (l : List Nat), Inc l → Inc (pr l)
  | [], _ => by simp [pr]
  | [_], _ => by simp [pr]
  | a :: b :: r, h => by
    have h1 := List.pairwise_cons.1 h
    have h2 := List.pairwise_cons.1 h1.2
    simp only [pr]
    refine List.pairwise_cons.2 ⟨fun x hx => ?_, pr_sorted r h2.2⟩
    have h3 := pr_ge r x b hx (fun y hy => h2.1 y hy)
    have h4 := h1.1 b (by simp)
    omega
end Go.Proofs.Ytkpkiajehclbhaa

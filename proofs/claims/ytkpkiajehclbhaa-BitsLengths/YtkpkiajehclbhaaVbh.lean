import Derived.Test.YtkpkiajehclbhaaVbg
namespace Go.Proofs.Ytkpkiajehclbhaa
open Go.RowKit
set_option linter.unusedVariables false
/-- How many of the first t coins are a symbol's. -/
def sgl (t : Nat) (P : List Coin) : Nat := (P.take t).countP isS
/-- The purses. -/
def pu (cs : List Nat) : Nat → List Coin
  | 0 => mg cs []
  | i + 1 => mg cs (pr (cost (pu cs i)))
/-- How many symbols are told at each level, from the highest on. -/
def tells (cs : List Nat) : Nat → Nat → List Nat
  | 0, _ => []
  | i + 1, t => sgl t (pu cs i) :: tells cs i (2 * (t - sgl t (pu cs i)))
theorem filter_take (P : List Coin) (f : Coin → Bool) (t : Nat) : (P.take t).filter f = (P.filter f).take ((P.take t).countP f) := by
  have h : P.filter f = (P.take t).filter f ++ (P.drop t).filter f := by rw [← List.filter_append, List.take_append_drop]
  rw [h, List.countP_eq_length_filter, List.take_left]
theorem sum_parts (P : List Coin) : (cost P).sum = (cost (P.filter isS)).sum + (cost (P.filter (fun x => !isS x))).sum := by
  induction P with
  | nil => simp [cost]
  | cons x r ih =>
    unfold cost at ih ⊢
    rw [List.map_cons, List.sum_cons, ih]
    cases hx : isS x <;> simp [hx] <;> omega
theorem count_parts (P : List Coin) : P.countP isS + P.countP (fun x => !isS x) = P.length := by
  induction P with
  | nil => simp
  | cons x r ih =>
    rw [List.countP_cons, List.countP_cons, List.length_cons]
    cases hx : isS x <;> simp <;> omega
theorem sgl_le (t : Nat) (P : List Coin) : sgl t P ≤ t ∧ sgl t P ≤ (P.filter isS).length := by
  unfold sgl
  constructor
  · exact Nat.le_trans List.countP_le_length (by rw [List.length_take]; omega)
  · rw [← List.countP_eq_length_filter]
    exact List.Sublist.countP_le (List.take_sublist _ _)
theorem cost_length (P : List Coin) : (cost P).length = P.length := by simp [cost]
theorem cost_take (P : List Coin) (t : Nat) : cost (P.take t) = (cost P).take t := by simp [cost, List.map_take]
/-- What the first t of a purse are. -/
theorem take_mg (cs ps : List Nat) (t : Nat) (ht : t ≤ (mg cs ps).length) : ((cost (mg cs ps)).take t).sum = (cs.take (sgl t (mg cs ps))).sum + (ps.take (t - sgl t (mg cs ps))).sum ∧ t - sgl t (mg cs ps) ≤ ps.length ∧ sgl t (mg cs ps) ≤ cs.length := by
  have h1 := filter_take (mg cs ps) isS t
  have h2 := filter_take (mg cs ps) (fun x => !isS x) t
  have h3 := count_parts ((mg cs ps).take t)
  rw [List.length_take, Nat.min_eq_left ht] at h3
  have e1 := mg_singles cs ps
  have e2 := mg_pairs cs ps
  have hc : ((mg cs ps).take t).countP (fun x => !isS x) = t - sgl t (mg cs ps) := by unfold sgl; omega
  refine ⟨?_, ?_, ?_⟩
  · rw [← cost_take, sum_parts, h1, h2, cost_take, cost_take, e1, e2, hc]
    rfl
  · have h4 : ((mg cs ps).take t).countP (fun x => !isS x) ≤ (mg cs ps).countP (fun x => !isS x) := List.Sublist.countP_le (List.take_sublist _ _)
    rw [List.countP_eq_length_filter (l := mg cs ps), ← cost_length, e2, hc] at h4
    exact h4
  · have h4 := (sgl_le t (mg cs ps)).2
    rw [← cost_length, e1] at h4
    exact h4
theorem pu_zero (cs : List Nat) : pu cs 0 = cs.map (fun c => (c, false)) := by
  show mg cs [] = _
  induction cs with
  | nil => rfl
  | cons c cs ih => simp only [mg, List.takeWhile_nil, List.dropWhile_nil, List.map_nil, List.nil_append, List.map_cons, ih]
theorem sgl_zero (cs : List Nat) (t : Nat) (ht : t ≤ (pu cs 0).length) : sgl t (pu cs 0) = t := by
  have h := (take_mg cs [] t ht).2.1
  have h2 := (sgl_le t (mg cs [])).1
  show sgl t (mg cs []) = t
  simp at h
  omega
theorem pu_next (cs : List Nat) (i t : Nat) (ht : t ≤ (pu cs (i + 1)).length) : 2 * (t - sgl t (pu cs (i + 1))) ≤ (pu cs i).length := by
  have h := (take_mg cs _ t ht).2.1
  rw [pr_length, cost_length] at h
  show 2 * (t - sgl t (mg cs _)) ≤ _
  omega
/-- What is told costs what the coins cost. -/
theorem tells_cost (cs : List Nat) (i t : Nat) (ht : t ≤ (pu cs i).length) : ((tells cs (i + 1) t).map (fun s => (cs.take s).sum)).sum = ((cost (pu cs i)).take t).sum := by
  induction i generalizing t with
  | zero =>
    have h := take_mg cs [] t ht
    simp only [tells, List.map_cons, List.map_nil, List.sum_cons, List.sum_nil]
    have h1 := h.1
    simp only [List.take_nil, List.sum_nil] at h1
    exact h1.symm
  | succ i ih =>
    have h := take_mg cs _ t ht
    have hn := pu_next cs i t ht
    rw [tells, List.map_cons, List.sum_cons, ih _ hn]
    have h1 := h.1
    rw [pr_sum _ _ (by rw [cost_length]; exact hn)] at h1
    exact h1.symm
def worth : Nat → List Nat → Nat
  | 0, _ => 0
  | _, [] => 0
  | i + 1, s :: r => s * 2 ^ i + worth i r
theorem tells_worth (cs : List Nat) (i t : Nat) (ht : t ≤ (pu cs i).length) : worth (i + 1) (tells cs (i + 1) t) = t * 2 ^ i := by
  induction i generalizing t with
  | zero =>
    simp only [tells, worth, sgl_zero cs t ht]
    simp
  | succ i ih =>
    have hn := pu_next cs i t ht
    have hs := (sgl_le t (pu cs (i + 1))).1
    rw [tells, worth, ih _ hn, Nat.pow_succ]
    generalize sgl t (pu cs (i + 1)) = s at *
    obtain ⟨d, rfl⟩ : ∃ d, t = s + d := ⟨t - s, by omega⟩
    rw [Nat.add_sub_cancel_left, Nat.add_mul, Nat.mul_comm 2 d, Nat.mul_assoc, Nat.mul_comm (2 ^ i) 2]
theorem pu_inc (cs : List Nat) (h : Inc cs) : ∀ i, (pu cs i).Pairwise (fun a b => a.1 ≤ b.1) ∧ Inc (cost (pu cs i))
  | 0 => by
    have := mg_sorted cs [] h List.Pairwise.nil
    exact ⟨this, by unfold cost Inc; rw [List.pairwise_map]; exact this⟩
  | i + 1 => by
    have := mg_sorted cs _ h (pr_sorted _ (pu_inc cs h i).2)
    exact ⟨this, by unfold cost Inc; rw [List.pairwise_map]; exact this⟩
theorem pu_pos (cs : List Nat) (h : ∀ c ∈ cs, 0 < c) : ∀ i, ∀ x ∈ cost (pu cs i), 0 < x
  | 0, x, hx => by
    have := (mg_perm cs []).mem_iff.1 hx
    exact h x (by simpa using this)
  | i + 1, x, hx => by
    have := (mg_perm cs _).mem_iff.1 hx
    rw [List.mem_append] at this
    rcases this with hc | hc
    · exact h x hc
    · exact pr_mem _ x hc (pu_pos cs h i)
theorem inc_getD {l : List Nat} (h : Inc l) {i j : Nat} (hij : i ≤ j) (hj : j < l.length) : l.getD i 0 ≤ l.getD j 0 := by
  by_cases e : i = j
  · rw [e]; exact Nat.le_refl _
  · rw [getD_eq l i (by omega), getD_eq l j hj]
    exact List.pairwise_iff_getElem.1 h i j (by omega) hj (by omega)
/-- At each level no more symbols are told than at the one ahead. -/
theorem nested (cs : List Nat) (h : Inc cs) (hp : ∀ c ∈ cs, 0 < c) (i t : Nat) (ht : t ≤ (pu cs (i + 1)).length) : sgl (2 * (t - sgl t (pu cs (i + 1)))) (pu cs i) ≤ sgl t (pu cs (i + 1)) := by
  have hn := pu_next cs i t ht
  obtain ⟨_, q2, q3⟩ := take_mg cs (pr (cost (pu cs i))) t ht
  have hP : pu cs (i + 1) = mg cs (pr (cost (pu cs i))) := rfl
  rw [← hP] at q2 q3
  have hso := (pu_inc cs h (i + 1)).1
  generalize hs : sgl t (pu cs (i + 1)) = s at *
  generalize hq : t - s = q at *
  rcases Nat.lt_or_ge s (sgl (2 * q) (pu cs i)) with hlt | hge
  · exfalso
    -- the symbol s has a coin among the first 2 q of the purse ahead
    have hsing : cost ((pu cs i).filter isS) = cs := by cases i with
      | zero => exact mg_singles cs []
      | succ i => exact mg_singles cs _
    have hsk : s < cs.length := by
      have := (sgl_le (2 * q) (pu cs i)).2
      rw [← cost_length, hsing] at this
      omega
    have hin : cs.getD s 0 ∈ cost ((pu cs i).take (2 * q)) := by
      have e := filter_take (pu cs i) isS (2 * q)
      have hm : cs.getD s 0 ∈ cost (((pu cs i).take (2 * q)).filter isS) := by
        rw [e, cost_take, hsing]
        have h2 : (cs.take (sgl (2 * q) (pu cs i))).getD s 0 = cs.getD s 0 := by
          rw [List.getD_eq_getElem?_getD, List.getD_eq_getElem?_getD, List.getElem?_take, if_pos hlt]
        rw [← h2]
        exact mem_getD (by rw [List.length_take]; show s < min (sgl (2 * q) (pu cs i)) _; omega)
      unfold cost at hm ⊢
      obtain ⟨x, hx, hx2⟩ := List.mem_map.1 hm
      exact List.mem_map.2 ⟨x, (List.mem_filter.1 hx).1, hx2⟩
    rw [cost_take] at hin
    obtain ⟨x, hx1, hx2⟩ := List.mem_take_iff_getElem.1 hin
    rw [cost_length] at hx1
    have hxl : x < (cost (pu cs i)).length := by rw [cost_length]; omega
    have hxe : (cost (pu cs i)).getD x 0 = cs.getD s 0 := by rw [getD_eq _ x hxl]; exact hx2
    -- the pair that holds it costs more
    have hpos : ∀ y, y < (cost (pu cs i)).length → 0 < (cost (pu cs i)).getD y 0 := fun y hy => pu_pos cs hp i _ (mem_getD hy)
    have hy : 2 * (x / 2) + 1 < (cost (pu cs i)).length := by rw [cost_length]; omega
    have hpa := pr_at (cost (pu cs i)) (x / 2) hy
    have hbig : cs.getD s 0 < (pr (cost (pu cs i))).getD (x / 2) 0 := by
      rw [hpa]
      have p1 := hpos (2 * (x / 2)) (by omega)
      have p2 := hpos (2 * (x / 2) + 1) hy
      rcases Nat.mod_two_eq_zero_or_one x with e | e
      · rw [show 2 * (x / 2) = x by omega] at *; omega
      · rw [show 2 * (x / 2) + 1 = x by omega] at *; omega
    have hlast : (pr (cost (pu cs i))).getD (x / 2) 0 ≤ (pr (cost (pu cs i))).getD (q - 1) 0 := inc_getD (pr_sorted _ (pu_inc cs h i).2) (by omega) (by omega)
    -- the last pair lies among the first t, the symbol s does not
    have hA : (pr (cost (pu cs i))).getD (q - 1) 0 ∈ cost ((pu cs (i + 1)).take t) := by
      have e := filter_take (pu cs (i + 1)) (fun x => !isS x) t
      have hc : ((pu cs (i + 1)).take t).countP (fun x => !isS x) = q := by
        have h3 := count_parts ((pu cs (i + 1)).take t)
        rw [List.length_take, Nat.min_eq_left ht] at h3
        have : ((pu cs (i + 1)).take t).countP isS = s := hs
        omega
      have hm : (pr (cost (pu cs i))).getD (q - 1) 0 ∈ cost (((pu cs (i + 1)).take t).filter (fun x => !isS x)) := by
        rw [e, cost_take, hc, hP, mg_pairs]
        have h2 : ((pr (cost (pu cs i))).take q).getD (q - 1) 0 = (pr (cost (pu cs i))).getD (q - 1) 0 := by
          rw [List.getD_eq_getElem?_getD, List.getD_eq_getElem?_getD, List.getElem?_take, if_pos (by omega)]
        rw [← h2]
        exact mem_getD (by rw [List.length_take]; omega)
      unfold cost at hm ⊢
      obtain ⟨y, hy, hy2⟩ := List.mem_map.1 hm
      exact List.mem_map.2 ⟨y, (List.mem_filter.1 hy).1, hy2⟩
    have hB : cs.getD s 0 ∈ cost ((pu cs (i + 1)).drop t) := by
      have e : (pu cs (i + 1)).filter isS = ((pu cs (i + 1)).take t).filter isS ++ ((pu cs (i + 1)).drop t).filter isS := by rw [← List.filter_append, List.take_append_drop]
      have e2 : cs = cost (((pu cs (i + 1)).take t).filter isS) ++ cost (((pu cs (i + 1)).drop t).filter isS) := by
        conv => lhs; rw [← mg_singles cs (pr (cost (pu cs i))), ← hP, e]
        unfold cost; rw [List.map_append]
      have hl : (cost (((pu cs (i + 1)).take t).filter isS)).length = s := by
        rw [cost_length, ← List.countP_eq_length_filter]; exact hs
      have hm : cs.getD s 0 ∈ cost (((pu cs (i + 1)).drop t).filter isS) := by
        have h2 : cs.getD s 0 = (cost (((pu cs (i + 1)).drop t).filter isS)).getD 0 0 := by
          conv => lhs; rw [e2]
          rw [List.getD_eq_getElem?_getD, List.getD_eq_getElem?_getD, List.getElem?_append_right (by omega), hl, Nat.sub_self]
        rw [h2]
        have hlen := congrArg List.length e2
        rw [List.length_append, hl] at hlen
        exact mem_getD (by omega)
      unfold cost at hm ⊢
      obtain ⟨y, hy, hy2⟩ := List.mem_map.1 hm
      exact List.mem_map.2 ⟨y, (List.mem_filter.1 hy).1, hy2⟩
    have hcmp : (pr (cost (pu cs i))).getD (q - 1) 0 ≤ cs.getD s 0 := by
      unfold cost at hA hB
      obtain ⟨u, hu, hu2⟩ := List.mem_map.1 hA
      obtain ⟨v, hv, hv2⟩ := List.mem_map.1 hB
      have := hso
      rw [← List.take_append_drop t (pu cs (i + 1)), List.pairwise_append] at this
      have := this.2.2 u hu v hv
      unfold cost
      omega
    omega
  · exact hge
end Go.Proofs.Ytkpkiajehclbhaa

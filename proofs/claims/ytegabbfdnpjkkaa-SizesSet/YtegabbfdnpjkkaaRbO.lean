import Derived.Test.YtegabbfdnpjkkaaRbN
namespace Go.Proofs.Ytegabbfdnpjkkaa
set_option linter.unusedVariables false
set_option linter.unusedSimpArgs false

theorem cb_ok (x : Rg) (h : cb x = true) (hm : x.2 ≤ 9223372036854775807) (hlt : x.1 < x.2) : Ok1 x := by
  unfold cb at h
  simp only [Bool.and_eq_true, decide_eq_true_eq] at h
  exact ⟨h.1, hlt, hm⟩
theorem cb_eq (x : Rg) (h : cb x = true) (hlt : ¬ x.1 < x.2) : x.1 = x.2 := by
  unfold cb at h
  simp only [Bool.and_eq_true, decide_eq_true_eq] at h
  omega
theorem refAdd_good (L : List Rg) (x : Rg) (h : Good L) (hL : L.length ≤ 65536) (hm : x.2 ≤ 9223372036854775807) : Good (refAdd L x).1 ∧ (refAdd L x).1.length ≤ 65536 := by
  unfold refAdd
  split
  · rename_i hcb
    split
    · exact ⟨h, hL⟩
    · refine ⟨?_, by simp only; omega⟩
      unfold withLL
      split
      · rename_i hlt; exact (with_good L x (cb_ok x hcb hm hlt) h).1
      · exact h
  · exact ⟨h, hL⟩
theorem refCut_good (L : List Rg) (x : Rg) (h : Good L) (hL : L.length ≤ 65536) : Good (refCut L x).1 ∧ (refCut L x).1.length ≤ 65536 := by
  unfold refCut
  split
  · rename_i hcb
    split
    · exact ⟨h, hL⟩
    · refine ⟨?_, by simp only; omega⟩
      by_cases hlt : x.1 < x.2
      · exact wo_good L x hlt h
      · simp only; rw [wo_empty L x hlt h]; exact h
  · exact ⟨h, hL⟩
theorem Setted.same {br : Nat} {og : Option Nat} {L : List Rg} {w w' : World} (h : RngB br og L w) (hN : Nw w w') : Setted br og w w' L := ⟨og, RngB.nw h hN, hN.any, .inl rfl⟩

theorem ladd (br : Nat) (og : Option Nat) (L : List Rg) (x : Rg) (w : World) (h : RngB br og L w) (hG : Good L) (hL : L.length ≤ 65536) (hm : x.2 ≤ 9223372036854775807) :
    Calls Try.prog 24 #[.pointer (some ⟨br, 0, none⟩), rv x] w fun e w' => e = .returned (.int .i64 (refAdd L x).2) ∧ Setted br og w w' (refAdd L x).1 := by
  cases hcb : cb x with
  | false =>
    have hR : refAdd L x = (L, 12) := by unfold refAdd; rw [hcb]; rfl
    rw [hR]
    refine (add_bad br x w hcb).mono ?_
    rintro e w' ⟨rfl, hN⟩
    exact ⟨rfl, Setted.same h hN⟩
  | true =>
    by_cases hlt : x.1 < x.2
    · have hR : refAdd L x = (if 65536 < (withL L x).length then (L, 2) else (withL L x, 0)) := by unfold refAdd withLL; rw [hcb, if_pos rfl, if_pos hlt]
      rw [hR]
      refine (add_do br og L x w h hL hG.rises hG.ok hcb hlt).mono ?_
      rintro e w' ⟨i, j, hi, hj, hij, hh⟩
      have he := add_eq L x i j hG (cb_ok x hcb hm hlt) hi hj hij
      have hlen : (withL L x).length = L.length - (j - i) + 1 := by
        rw [← he]; have := hj.1; simp only [List.length_append, List.length_take, List.length_drop, List.length_cons, List.length_nil]; omega
      rw [he] at hh
      rcases hh with ⟨a, rfl, hN⟩ | ⟨a, rfl, hS⟩
      · rw [if_pos (by omega)]; exact ⟨rfl, Setted.same h hN⟩
      · rw [if_neg (by omega)]; exact ⟨rfl, hS⟩
    · have hR : refAdd L x = (L, 0) := by unfold refAdd withLL; rw [hcb, if_pos rfl, if_neg hlt, if_neg (by omega)]
      rw [hR]
      refine (add_empty br x w hcb (cb_eq x hcb hlt)).mono ?_
      rintro e w' ⟨rfl, hN⟩
      exact ⟨rfl, Setted.same h hN⟩
theorem lcut (br : Nat) (og : Option Nat) (L : List Rg) (x : Rg) (w : World) (h : RngB br og L w) (hG : Good L) (hL : L.length ≤ 65536) (hm : x.2 ≤ 9223372036854775807) :
    Calls Try.prog 22 #[.pointer (some ⟨br, 0, none⟩), rv x] w fun e w' => e = .returned (.int .i64 (refCut L x).2) ∧ Setted br og w w' (refCut L x).1 := by
  cases hcb : cb x with
  | false =>
    have hR : refCut L x = (L, 12) := by unfold refCut; rw [hcb]; rfl
    rw [hR]
    refine (cut_bad br x w hcb).mono ?_
    rintro e w' ⟨rfl, hN⟩
    exact ⟨rfl, Setted.same h hN⟩
  | true =>
    by_cases hlt : x.1 < x.2
    · have hR : refCut L x = (if 65536 < (wo L x).length then (L, 2) else (wo L x, 0)) := by unfold refCut; rw [hcb, if_pos rfl]
      rw [hR]
      refine (cut_do br og L x w h hL hG.rises hG.ok hcb hlt).mono ?_
      rintro e w' ⟨i, j, hi, hj, hij, hh⟩
      have he := cut_eq L x i j hG (cb_ok x hcb hm hlt) hi hj hij
      have hlen : (wo L x).length = L.length - (j - i) + (cutV L i j x).length := by
        rw [← he]; have := hj.1; simp only [List.length_append, List.length_take, List.length_drop, List.length_cons, List.length_nil]; omega
      rw [he] at hh
      rcases hh with ⟨a, rfl, hN⟩ | ⟨a, rfl, hS⟩
      · rw [if_pos (by omega)]; exact ⟨rfl, Setted.same h hN⟩
      · rw [if_neg (by omega)]; exact ⟨rfl, hS⟩
    · have hR : refCut L x = (L, 0) := by unfold refCut; rw [hcb, if_pos rfl, wo_empty L x hlt hG, if_neg (by omega)]
      rw [hR]
      refine (cut_empty br x w hcb (cb_eq x hcb hlt)).mono ?_
      rintro e w' ⟨rfl, hN⟩
      exact ⟨rfl, Setted.same h hN⟩
theorem lgaps (br : Nat) (og : Option Nat) (L : List Rg) (x : Rg) (w : World) (h : RngB br og L w) (hG : Good L) (hL : L.length ≤ 65536) (hm : x.2 ≤ 9223372036854775807) :
    Calls Try.prog 27 #[.pointer (some ⟨br, 0, none⟩), rv x] w fun e w' => WoRes (refGaps L x) w w' e := by
  cases hcb : cb x with
  | false =>
    have hR : refGaps L x = [] := by unfold refGaps; rw [if_neg (fun h => by rw [hcb] at h; cases h.1)]
    rw [hR]
    refine (gaps_bad br x w hcb).mono ?_
    rintro e w' ⟨rfl, hN⟩
    exact ⟨none, 0, rfl, none, .inl ⟨rfl, rfl, rfl⟩, (fun g hg => by cases hg), hN⟩
  | true =>
    refine (gaps_do br og L x w h hL hG.rises hcb).mono ?_
    rintro e w' ⟨k, b, c, R, hk, rfl, rfl, hN⟩
    rw [gaps_eq L x k hG hcb hm hk] at hN ⊢
    exact ⟨b, c, rfl, hN⟩
theorem lrgaps (lv : Value) (ol : Option Nat) (L : List Rg) (x : Rg) (w : World) (h : SVal lv ol L w) (hG : Good L) (hL : L.length ≤ 65536) (hm : x.2 ≤ 9223372036854775807) :
    Calls Try.prog 28 #[lv, rv x] w fun e w' => WoRes (refGaps L x) w w' e := by
  exact rgaps_any lv ol L x w h hL (fun hc hlt t ht => fold_len L x hG (cb_ok x hc hm hlt) hL t)
theorem lhas (br : Nat) (og : Option Nat) (L : List Rg) (x : Rg) (w : World) (h : RngB br og L w) (hG : Good L) (hL : L.length ≤ 65536) (hm : x.2 ≤ 9223372036854775807) :
    Calls Try.prog 32 #[.pointer (some ⟨br, 0, none⟩), rv x] w fun e w' => e = .returned (.bool (cb x && decide (refGaps L x = []))) ∧ Nw w w' := by
  cases hcb : cb x with
  | false => exact has_bad br x w hcb
  | true =>
    by_cases hlt : x.1 < x.2
    · refine (has_do br og L x w h hL hG.rises hcb hlt).mono ?_
      rintro e w' ⟨k, hk, rfl, hN⟩
      rw [has_eq L x k hG (cb_ok x hcb hm hlt) hk]
      exact ⟨rfl, hN⟩
    · have hR : refGaps L x = [] := by unfold refGaps; rw [if_neg (fun h => hlt h.2)]
      rw [hR]
      exact has_empty br x w hcb (cb_eq x hcb hlt)
end Go.Proofs.Ytegabbfdnpjkkaa

import Derived.Test.YtegabbfdnpjkkaaRanG
import Derived.Test.YtegabbfdnpjkkaaRanH
import Derived.Test.YtegabbfdnpjkkaaRanI
import Derived.Test.YtegabbfdnpjkkaaRanJ
namespace Go.Proofs.Ytegabbfdnpjkkaa
open Go.RowKit
set_option linter.unusedVariables false

theorem mid0_list (xs : List Rg) (n i j : Nat) (zs : List Rg) (hi : i < j) (hj : j < n) (hn : n ≤ xs.length) (hz : i + (n - j) + zs.length ≤ xs.length) :
    (spl (spl xs i ((xs.drop j).take (n - j))) (i + (n - j)) zs).take (i + (n - j)) = xs.take i ++ (xs.take n).drop j := by
  have l4 : ((xs.drop j).take (n - j)).length = n - j := by simp; omega
  have hl1 := spl_length xs i ((xs.drop j).take (n - j)) (by omega)
  have l3 : (xs.take i).length = i := by simp; omega
  apply List.ext_getElem?
  intro k
  rw [List.getElem?_take, get_spl _ _ _ (by omega), List.getElem?_append, l3]
  by_cases hk : k < i + (n - j)
  · rw [if_pos hk, if_pos hk, get_spl _ _ _ (by omega), l4]
    by_cases h1 : k < i
    · rw [if_pos h1, if_pos h1, List.getElem?_take, if_pos h1]
    · rw [if_neg h1, if_neg h1, if_pos hk, List.getElem?_take, if_pos (by omega), List.getElem?_drop, List.getElem?_drop, List.getElem?_take, if_pos (by omega)]
  · rw [if_neg hk, if_neg (by omega), List.getElem?_drop, List.getElem?_take, if_neg (by omega)]

set_option maxHeartbeats 4000000 in
set_option maxRecDepth 100000 in
theorem rep_mid0 (g n c i j : Nat) (xs : List Rg) (w : World) (h : RowB g xs w) (hi : i < j) (hj : j < n) (hnc : n ≤ c) (hc : xs.length = c) (hc63 : c ≤ maxLen) :
    Calls Try.prog 51 #[.slice (some ⟨g, 0, none⟩) n c, .int .i64 i, .int .i64 j, .slice none 0 0] w fun e w' => Rowed g w w' e (xs.take i ++ (xs.take n).drop j) := by
  unfold maxLen at hc63
  have hz1 : ¬ ((i : Int) = (j : Int)) := by omega
  have hz2 : ¬ ((j : Int) = (n : Int)) := by omega
  have hij : (i : Int) ≤ (j : Int) := by omega
  have hjn : (j : Int) ≤ (n : Int) := by omega
  have hnc' : (n : Int) ≤ (c : Int) := by omega
  have hcj : ¬ (c = j) := by omega
  have hci : ¬ (c = i) := by omega
  have hle : (i : Int) ≤ (i : Int) + ((n - j : Nat) : Int) := by omega
  have hw1 : IntKind.i64.wrap (i : Int) = (i : Int) := by rw [IntKind.wrap_i64]; omega
  obtain ⟨L, hL⟩ : ∃ L, L = xs.take i ++ (xs.take n).drop j := ⟨_, rfl⟩
  have HL : Hid _ := hL
  rw [← hL]
  clear hL
  go_enter Try.func51, Try.ntmps51
  go_wp2_with fail
  go_quiet (fail)
  have hcp0 := fun ty a n' c' => copy_zero (w.drewN nq) ty a n' c'
  obtain ⟨W1, hcp1, hR1, hF1, hK1⟩ := copy_step w (w.drewN (nq + 1)) g i (n - j) g j (n - j) (n - j) xs xs h h (by simp only [Nat.min_def]; split <;> omega) (by omega) (by omega) (fun k => k = g) (.inl rfl) ((Fr.refl _ _).drewN (nq + 1))
  have l4 : ((xs.drop j).take (n - j)).length = n - j := by simp; omega
  have hl1 := spl_length xs i ((xs.drop j).take (n - j)) (by omega)
  obtain ⟨W3, hcl, hR3, hF3⟩ := clear_step w W1 g (i + (n - j)) (n - (i + (n - j))) _ hR1 (by rw [hl1]; omega) (by omega) (fun k => k = g) (.inl rfl) hF1
  have hl3 := spl_length (spl xs i ((xs.drop j).take (n - j))) (i + (n - j)) (List.replicate (n - (i + (n - j))) ((0, 0) : Rg)) (by rw [hl1]; simp; omega)
  have hfin : ∀ e : Ending, e = .returned (.slice (some ⟨g, 0, none⟩) (i + (n - j)) c) → Rowed g w W3 e L := fun e he => by
    rw [HL.out]
    have hLl : (xs.take i ++ (xs.take n).drop j).length = i + (n - j) := by simp; omega
    exact Rowed.mk _ _ he hLl.symm (by rw [hl3, hl1, hc]) (by rw [hl3, hl1, hc]; exact hc63) (by rw [hl3, hl1, hLl]; omega) (by rw [hLl]; exact mid0_list xs n i j _ hi hj (by omega) (by simp; omega)) hR3 hF3 (.inl rfl)
  have FIN : Hid _ := hfin
  have hct : ¬ (c = i + (n - j)) := by omega
  have htl : (i : Int) + ((n - j : Nat) : Int) ≤ (n : Int) := by omega
  have htt : ((i : Int) + ((n - j : Nat) : Int)).toNat = i + (n - j) := by omega
  clear hfin hR1 hF1 hK1 hl1 l4 hR3 hF3 hl3
  go_wp2_with (at_builtin; refine wpList_copy_run _ rfl _ _ rfl _ _ rfl rfl (hcp0 _ _ _ _) ?_)
  go_region_law (refine step_copy_run rfl _ _ rfl (.slice (some ⟨g, i * 2, none⟩) (n - j) (c - i)) (.slice (some ⟨g, j * 2, none⟩) (n - j) (c - j)) (by simp [Act.eval, Act.put]) (by simp [Act.eval, Act.put]) (hcp1 _ _ _) ?_)
  go_wp2_with (at_builtin; refine wpList_clear_run _ rfl _ rfl _ rfl (hcl _ _) ?_)
  go_ret
  exact FIN.out _ rfl

/-- A slice of ranges: nil, or the row og from its head on. -/
def SVal (v : Value) (og : Option Nat) (L : List Rg) (w : World) : Prop :=
  (v = .slice none 0 0 ∧ og = none ∧ L = []) ∨ ∃ g xs, og = some g ∧ v = .slice (some ⟨g, 0, none⟩) L.length xs.length ∧ xs.length ≤ maxLen ∧ L.length ≤ xs.length ∧ xs.take L.length = L ∧ RowB g xs w
/-- What a call hands back that makes of the slice at og one of L. -/
def Made (og : Option Nat) (w w' : World) (e : Ending) (L : List Rg) : Prop :=
  ∃ v' og', e = .returned v' ∧ SVal v' og' L w' ∧ Fr (fun k => og = some k) w w' ∧ (og' = og ∨ ∃ g', og' = some g' ∧ w.heap.size ≤ g')
theorem Rowed.made {g : Nat} {w w' : World} {e : Ending} {L : List Rg} (h : Rowed g w w' e L) : Made (some g) w w' e L := by
  obtain ⟨g', xs', he, h1, h2, h3, h4, h5, h6⟩ := h
  refine ⟨_, some g', he, .inr ⟨g', xs', rfl, rfl, h1, h2, h3, h4⟩, h5.mono (fun i hi => .inl (by rw [hi])), ?_⟩
  rcases h6 with rfl | h6
  · exact .inl rfl
  · exact .inr ⟨g', rfl, h6⟩
theorem Rowed.madeN {w w' : World} {e : Ending} {L : List Rg} (h : Rowed w.heap.size w w' e L) : Made none w w' e L := by
  obtain ⟨g', xs', he, h1, h2, h3, h4, h5, h6⟩ := h
  refine ⟨_, some g', he, .inr ⟨g', xs', rfl, rfl, h1, h2, h3, h4⟩, h5.mono (fun i hi => .inr (by rw [hi]; exact Nat.le_refl _)), .inr ⟨g', rfl, ?_⟩⟩
  rcases h6 with rfl | h6
  · exact Nat.le_refl _
  · exact h6

theorem drop_take_drop (xs : List Rg) (n j : Nat) (L : List Rg) (h : xs.take n = L) : (xs.take n).drop j = L.drop j := by rw [h]
theorem take_of_take (xs L : List Rg) (i : Nat) (hi : i ≤ L.length) (h : xs.take L.length = L) : xs.take i = L.take i := by
  rw [← h, List.take_take, Nat.min_eq_left hi]

theorem rep_any (s v : Value) (og ov : Option Nat) (L V : List Rg) (i j : Nat) (w : World) (hs : SVal s og L w) (hv : SVal v ov V w) (hV : V = [] → v = .slice none 0 0) (hd : ∀ g, og = some g → ov ≠ some g) (hij : i ≤ j) (hj : j ≤ L.length) (hbig : (L.length + V.length) * 16 ≤ 140737488355328) :
    Calls Try.prog 51 #[s, .int .i64 i, .int .i64 j, v] w fun e w' => Made og w w' e (L.take i ++ V ++ L.drop j) := by
  rcases hs with ⟨rfl, rfl, rfl⟩ | ⟨g, xs, rfl, rfl, h1, h2, h3, h4⟩
  · have hj0 : j = 0 := by simpa using hj
    have hi0 : i = 0 := by omega
    subst hj0 hi0
    by_cases hVe : V = []
    · obtain rfl := hV hVe
      subst hVe
      refine (rep_nil0 w).mono ?_
      rintro e w' ⟨rfl, rfl⟩
      exact ⟨_, none, rfl, .inl ⟨rfl, rfl, rfl⟩, Fr.refl _ _, .inl rfl⟩
    · rcases hv with ⟨_, _, h0⟩ | ⟨gv, vs, rfl, rfl, k1, k2, k3, k4⟩
      · exact absurd h0 hVe
      · have := rep_nil gv V.length vs.length vs w k4 (by cases V with | nil => exact absurd rfl hVe | cons a r => simp) k2 (by simpa using hbig)
        rw [k3] at this
        simpa using this.mono fun e w' hr => hr.madeN
  · have eT := fun k hk => take_of_take xs L k hk h3
    have eD : ∀ k, (xs.take L.length).drop k = L.drop k := fun k => by rw [h3]
    by_cases hVe : V = []
    · obtain rfl := hV hVe
      subst hVe
      rw [List.append_nil]
      by_cases hij' : i = j
      · subst hij'
        refine (rep_same0 g L.length xs.length i w hj h2 h1).mono ?_
        rintro e w' ⟨rfl, rfl⟩
        rw [List.take_append_drop]
        exact ⟨_, some g, rfl, .inr ⟨g, xs, rfl, rfl, h1, h2, h3, h4⟩, Fr.refl _ _, .inl rfl⟩
      · by_cases hjn : j = L.length
        · subst hjn
          have := rep_tail0 g L.length xs.length i xs w h4 (by omega) h2 rfl h1
          rw [eT i (by omega)] at this
          rw [List.drop_length, List.append_nil]
          exact this.mono fun e w' hr => hr.made
        · have := rep_mid0 g L.length xs.length i j xs w h4 (by omega) (by omega) h2 rfl h1
          rw [eT i (by omega), eD] at this
          exact this.mono fun e w' hr => hr.made
    · rcases hv with ⟨_, _, h0⟩ | ⟨gv, vs, rfl, rfl, k1, k2, k3, k4⟩
      · exact absurd h0 hVe
      have hm : 0 < V.length := by cases V with | nil => exact absurd rfl hVe | cons a r => simp
      have hne : gv ≠ g := fun e => hd g rfl (by rw [e])
      by_cases hij' : i = j
      · subst hij'
        have := rep_same g L.length xs.length i gv V.length vs.length xs vs w h4 k4 hne hj hm h2 rfl h1 k2 hbig
        rw [eT i (by omega), eD, k3] at this
        exact this.mono fun e w' hr => hr.made
      · by_cases hjn : j = L.length
        · subst hjn
          have key : Calls Try.prog 51 #[.slice (some ⟨g, 0, none⟩) L.length xs.length, .int .i64 i, .int .i64 (L.length : Nat), .slice (some ⟨gv, 0, none⟩) V.length vs.length] w fun e w' => Rowed g w w' e (xs.take i ++ vs.take V.length) := by
            by_cases hc1 : i + V.length < L.length
            · exact rep_tail_clear g L.length xs.length i gv V.length vs.length xs vs w h4 k4 hne (by omega) hm hc1 h2 rfl h1 k2
            · by_cases hc2 : i + V.length ≤ xs.length
              · exact rep_tail_room g L.length xs.length i gv V.length vs.length xs vs w h4 k4 hne (by omega) hm (by omega) hc2 rfl h1 k2
              · exact rep_tail_grow g L.length xs.length i gv V.length vs.length xs vs w h4 k4 hne (by omega) hm h2 (by omega) rfl h1 k2 (by omega)
          rw [eT i (by omega), k3] at key
          rw [List.drop_length, List.append_nil]
          exact key.mono fun e w' hr => hr.made
        · have key : Calls Try.prog 51 #[.slice (some ⟨g, 0, none⟩) L.length xs.length, .int .i64 i, .int .i64 j, .slice (some ⟨gv, 0, none⟩) V.length vs.length] w fun e w' => Rowed g w w' e (xs.take i ++ vs.take V.length ++ (xs.take L.length).drop j) := by
            by_cases hc1 : i + V.length ≤ j
            · exact rep_mid_fit g L.length xs.length i j gv V.length vs.length xs vs w h4 k4 hne (by omega) (by omega) hm hc1 h2 rfl h1 k2
            · by_cases hc2 : i + V.length + (L.length - j) ≤ xs.length
              · exact rep_mid_exp g L.length xs.length i j gv V.length vs.length xs vs w h4 k4 hne (by omega) (by omega) hm (by omega) hc2 h2 rfl h1 k2
              · exact rep_mid_grow g L.length xs.length i j gv V.length vs.length xs vs w h4 k4 hne (by omega) (by omega) hm (by omega) h2 rfl h1 k2 (by omega)
          rw [eT i (by omega), k3, eD] at key
          exact key.mono fun e w' hr => hr.made
end Go.Proofs.Ytegabbfdnpjkkaa

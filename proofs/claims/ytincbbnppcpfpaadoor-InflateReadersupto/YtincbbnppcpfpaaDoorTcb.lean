import Derived.Test.YtincbbnppcpfpaaDoorTca
import Derived.Test.YtincbbnppcpfpaaDoorTax
namespace Go.Proofs.YtincbbnppcpfpaaDoor
open Go.RowKit
set_option linter.unusedVariables false
set_option maxHeartbeats 8000000 in
set_option maxRecDepth 100000 in
theorem gnone_any (w : World) (v : Value) (ls : List Nat) (h : SlR RI (fun _ => False) v (toI ls) w) (h15 : ∀ i, ls.getD i 0 ≤ 15) (hl : ls.length ≤ 320) : Calls Tryd.prog 51 #[v] w fun e w' => e = .returned (.bool (decide (sumL ls = 0))) ∧ w = w' := by
  obtain ⟨P, hP⟩ : ∃ P : Ending → World → Prop, P = fun e w' => e = .returned (.bool (decide (sumL ls = 0))) ∧ w = w' := ⟨_, rfl⟩
  rw [← hP]
  have HS : Hid (SlR RI (fun _ => False) v (toI ls) w) := h
  obtain ⟨a, c, rfl, hc, hc2, hca⟩ := h.form
  rw [toI_length] at hc HS ⊢
  have HF : Hid (P (.returned (.bool (decide (sumL ls = 0)))) w) := by
    show P _ _
    rw [hP]; exact ⟨rfl, rfl⟩
  clear hP h h15
  generalize hL : ls.length = L at *
  have hL' : Hid (ls.length = L) := hL
  clear hL
  go_enter Tryd.func51, Tryd.ntmps51
  go_wp2
  go_loopg [3] L (fun kx i wr => ∃ (I : Nat), I ≤ L ∧ L - I ≤ kx ∧ i = .int .i64 I ∧ wr = w ∧ Hid (sumL (ls.take I) = 0))
  case atStart => exact ⟨0, by omega, by omega, rfl, rfl, (by show sumL (ls.take 0) = 0; simp [sumL])⟩
  case round =>
    obtain ⟨I, hI, hkx, rfl, rfl, HI⟩ := hrel
    by_cases hlt : I < L
    · have hlt' : I < ls.length := by rw [hL'.out]; exact hlt
      obtain ⟨x, hx⟩ : ∃ x, x = ls.getD I 0 := ⟨_, rfl⟩
      have hxx : (toI ls)[I]? = some (x : Int) := by
        unfold toI
        rw [List.getElem?_map, List.getElem?_eq_getElem hlt', hx, List.getD_eq_getElem?_getD, List.getElem?_eq_getElem hlt']; rfl
      obtain ⟨g, o, rfl, _, hcell⟩ := ri_at HS.out I _ hxx
      have hz : (I : Int) < (L : Int) := by omega
      have hst := sumL_take ls I hlt'
      rw [HI.out, ← hx] at hst
      by_cases hp : x = 0
      · have HN : Hid (sumL (ls.take (I + 1)) = 0) := by show _ = _; omega
        rw [hp] at hcell
        clear hst HI HS HF hx hxx
        go_wp2_with fail
        go_roundg (L - (I + 1))
        case measure => omega
        case rel => exact ⟨I + 1, by omega, by omega, by first | rfl | (congr 1), rfl, HN⟩
      · have hs0 : sumL ls ≠ 0 := by
          have := sumL_at ls I
          omega
        rw [decide_eq_false hs0] at HF
        have hx0 : (0 : Int) < (x : Int) := by omega
        clear hst HI HS hx hxx
        go_wp2_with fail
        exact HF.out
    · obtain rfl : I = L := by omega
      have hz : ¬ (I : Int) < (I : Int) := by omega
      have hS : sumL ls = 0 := by
        have := HI.out
        rw [List.take_of_length_le (by rw [hL'.out]; exact Nat.le_refl _)] at this
        exact this
      rw [decide_eq_true hS] at HF
      clear HI HS hS
      go_wp2_with fail
      exact HF.out
open Classical in
noncomputable def goodD (ls : List Nat) (alone : Bool) : Bool := decide (Cod ls ∧ (room ls = 32768 ∨ (alone = true ∧ sumL ls = 1)))
def wrd (l : List Nat) : Nat := (l.filter (0 < ·)).length
theorem wrd_take (ls : List Nat) (I : Nat) (h : I < ls.length) : wrd (ls.take (I + 1)) = wrd (ls.take I) + if 0 < ls.getD I 0 then 1 else 0 := by
  unfold wrd
  rw [List.take_add_one, List.filter_append, List.length_append, List.getElem?_eq_getElem h, List.getD_eq_getElem?_getD, List.getElem?_eq_getElem h]
  congr 1
  simp only [Option.toList, Option.getD_some]
  by_cases h0 : 0 < ls[I]
  · simp [h0]
  · simp [h0]
theorem wrd_sum (ls : List Nat) : wrd ls ≤ sumL ls ∧ (wrd ls = 0 → sumL ls = 0) := by
  induction ls with
  | nil => simp [wrd, sumL]
  | cons a l ih =>
    simp only [wrd, sumL, List.foldr_cons, List.filter_cons] at ih ⊢
    by_cases h : 0 < a
    · simp only [h, decide_true, if_true, List.length_cons]; omega
    · simp only [h, decide_false]
      have : a = 0 := by omega
      subst this
      simpa using ih
set_option maxHeartbeats 8000000 in
set_option maxRecDepth 100000 in
theorem ggood_any (w : World) (v : Value) (ls : List Nat) (h : SlR RI (fun _ => False) v (toI ls) w) (hl : ls.length ≤ 320) (alone : Bool) : Calls Tryd.prog 50 #[v, .bool alone] w fun e w' => e = .returned (.bool (goodD ls alone)) ∧ w = w' := by
  obtain ⟨P, hP⟩ : ∃ P : Ending → World → Prop, P = fun e w' => e = .returned (.bool (goodD ls alone)) ∧ w = w' := ⟨_, rfl⟩
  rw [← hP]
  have HS : Hid (SlR RI (fun _ => False) v (toI ls) w) := h
  have HC : Hid (Calls Tryd.prog 59 #[v] w fun e w' => (∃ b q, e = .returned (.tuple #[.bool b, .bool q]) ∧ Hid ((b = true ↔ Cod ls) ∧ (Cod ls → q = decide (room ls = 32768)))) ∧ w = w') := by
    refine (scode_any w v _ h (by rw [toI_length]; omega)).mono ?_
    rintro e w' ⟨⟨b, q, rfl, h1, h2⟩, rfl⟩
    rw [isCode_iff] at h1 h2
    exact ⟨⟨b, q, rfl, h1, fun hk => by rw [h2 hk, (kraft_code ls hk).1]⟩, rfl⟩
  obtain ⟨a, c, rfl, hc, hc2, hca⟩ := h.form
  rw [toI_length] at hc HS HC ⊢
  have HF : Hid (P (.returned (.bool (goodD ls alone))) w) := by
    show P _ _
    rw [hP]; exact ⟨rfl, rfl⟩
  clear hP h
  generalize hL : ls.length = L at *
  have hL' : Hid (ls.length = L) := hL
  clear hL
  go_enter Tryd.func50, Tryd.ntmps50
  go_upto_region 2 with (first | (go_at_call 59; (with_reducible refine HC.out.mono ?_); rintro e w' ⟨⟨bb, q, rfl, HB⟩, rfl⟩))
  clear HC
  by_cases hk : Cod ls
  · obtain rfl : bb = true := HB.out.1.2 hk
    have hq := HB.out.2 hk
    by_cases hr : room ls = 32768
    · obtain rfl : q = true := by rw [hq]; exact decide_eq_true hr
      have hg : goodD ls alone = true := by unfold goodD; simp only [decide_eq_true_eq]; exact ⟨hk, .inl hr⟩
      rw [hg] at HF
      clear HB hk hq hr hg HS
      go_wp2_with fail
      exact HF.out
    · obtain rfl : q = false := by rw [hq]; exact decide_eq_false hr
      have hg : goodD ls alone = (alone && decide (sumL ls = 1)) := by
        unfold goodD
        cases alone <;> simp [hk, hr]
      rw [hg] at HF
      have HK : Hid (∀ i, ls.getD i 0 ≤ 15) := hk.each
      clear HB hk hq hr hg
      go_wp2_with fail
      go_loopg [7, 8, 9] L (fun kx n s i wr => ∃ (I : Nat), I ≤ L ∧ L - I ≤ kx ∧ n = .int .i64 (wrd (ls.take I)) ∧ s = .int .i64 (sumL (ls.take I)) ∧ i = .int .i64 I ∧ wr = w)
      case atStart => exact ⟨0, by omega, by omega, rfl, rfl, rfl, rfl⟩
      case round =>
        obtain ⟨I, hI, hkx, rfl, rfl, rfl, rfl⟩ := hrel
        by_cases hlt : I < L
        · have hlt' : I < ls.length := by rw [hL'.out]; exact hlt
          obtain ⟨x, hx⟩ : ∃ x, x = ls.getD I 0 := ⟨_, rfl⟩
          have hxx : (toI ls)[I]? = some (x : Int) := by
            unfold toI
            rw [List.getElem?_map, List.getElem?_eq_getElem hlt', hx, List.getD_eq_getElem?_getD, List.getElem?_eq_getElem hlt']; rfl
          obtain ⟨g, o, rfl, _, hcell⟩ := ri_at HS.out I _ hxx
          have hz : (I : Int) < (L : Int) := by omega
          have hst := sumL_take ls I hlt'
          have hwt := wrd_take ls I hlt'
          have hx15 := HK.out I
          have hsl := sumL_le ls HK.out I (by omega)
          have hwl := (wrd_sum (ls.take I)).1
          rw [← hx] at hst hwt hx15
          obtain ⟨S, hS⟩ : ∃ S, S = sumL (ls.take I) := ⟨_, rfl⟩
          obtain ⟨W, hW⟩ : ∃ W, W = wrd (ls.take I) := ⟨_, rfl⟩
          rw [← hS] at hst hsl hwl ⊢
          rw [← hW] at hwt hwl ⊢
          have hS1 : S ≤ 4800 := by omega
          by_cases hp : x = 0
          · rw [hp] at hst hwt hcell
            simp only [Nat.add_zero, Nat.lt_irrefl, if_false] at hst hwt
            have HN : Hid (sumL (ls.take (I + 1)) = S ∧ wrd (ls.take (I + 1)) = W) := ⟨hst, hwt⟩
            clear hst hwt HS HF hx hxx HK hsl hS hW
            go_wp2_with fail
            go_roundg (L - (I + 1))
            case measure => omega
            case rel => exact ⟨I + 1, by omega, by omega, by rw [HN.out.2], by rw [HN.out.1], by first | rfl | (congr 1), rfl⟩
          · rw [if_pos (by omega)] at hwt
            have HN : Hid (sumL (ls.take (I + 1)) = S + x ∧ wrd (ls.take (I + 1)) = W + 1) := ⟨hst, hwt⟩
            have hx0 : (0 : Int) < (x : Int) := by omega
            clear hst hwt HS HF hx hxx HK hsl hS hW
            go_wp2_with fail
            go_roundg (L - (I + 1))
            case measure => omega
            case rel => exact ⟨I + 1, by omega, by omega, by rw [HN.out.2]; first | rfl | (congr 1), by rw [HN.out.1]; first | rfl | (congr 1), by first | rfl | (congr 1), rfl⟩
        · obtain rfl : I = L := by omega
          have hz : ¬ (I : Int) < (I : Int) := by omega
          have htk : ls.take I = ls := List.take_of_length_le (by rw [hL'.out]; exact Nat.le_refl _)
          rw [htk]
          obtain ⟨w1, w2⟩ := wrd_sum ls
          generalize sumL ls = S at *
          generalize wrd ls = W at *
          cases alone with
          | false =>
            clear HS HK htk
            go_wp2_with fail
            exact HF.out
          | true =>
            by_cases hS : S = 1
            · obtain rfl : W = 1 := by omega
              subst hS
              clear HS HK htk
              go_wp2_with fail
              exact HF.out
            · rw [decide_eq_false hS] at HF
              have hs1 : ((S : Int) == 1) = false := by simp only [beq_eq_false_iff_ne, ne_eq]; omega
              by_cases hW : W = 1
              · subst hW
                clear HS HK htk hS
                go_wp2_with fail
                exact HF.out
              · have hw1 : ((W : Int) == 1) = false := by simp only [beq_eq_false_iff_ne, ne_eq]; omega
                clear HS HK htk hS hW
                go_wp2_with fail
                exact HF.out
  · obtain rfl : bb = false := by
      cases bb with
      | false => rfl
      | true => exact absurd (HB.out.1.1 rfl) hk
    have hg : goodD ls alone = false := by unfold goodD; simp only [decide_eq_false_iff_not]; exact fun e => hk e.1
    rw [hg] at HF
    clear HB hk hg HS
    go_wp2_with fail
    exact HF.out
end Go.Proofs.YtincbbnppcpfpaaDoor

import Derived.Test.YtenkchhlaphocaaGreatDoorNjJ
namespace Go.Proofs.YtenkchhlaphocaaGreatDoor
open Go.RowKit
set_option linter.unusedVariables false
/-! ### CutSuffix of a line feed; possible; first -/
/-- The last byte's own slice. -/
theorem sl_last {X : Nat → Prop} {a : Option Addr} {n c : Nat} {l : Bs} {w : World} (h : Sl X (.slice a n c) l w) (m : Nat) (hm : m < n) : ∃ g o, a = some ⟨g, o, none⟩ ∧ Sl X (.slice (some ⟨g, o + m, none⟩) (n - m) (c - m)) (l.drop m) w := by
  obtain ⟨hn, k1, k2⟩ := sl_len h
  rcases h with ⟨_, e, e2⟩ | ⟨g, hg, o, c', e, e1, e2, hr⟩
  · rw [e2] at hn; simp at hn; omega
  · injection e with ea en ec
    subst ec
    refine ⟨g, o, ea, .inr ⟨g, hg, o + m, c - m, ?_, ?_, by omega, hr.drop m⟩⟩
    · rw [List.length_drop, hn]
    · rw [List.length_drop, hn]; omega
theorem sl_take {X : Nat → Prop} {a : Option Addr} {n c : Nat} {l : Bs} {w : World} (h : Sl X (.slice a n c) l w) (m : Nat) (hm : m ≤ n) : Sl X (.slice a m c) (l.take m) w := by
  obtain ⟨hn, k1, k2⟩ := sl_len h
  rcases h with ⟨a', e, e2⟩ | ⟨g, hg, o, c', e, e1, e2, hr⟩
  · injection e with ea en ec
    subst en
    obtain rfl : m = 0 := by omega
    exact .inl ⟨a, by rw [ec], by rw [e2]; rfl⟩
  · injection e with ea en ec
    subst ec ea
    refine .inr ⟨g, hg, o, c, ?_, ?_, e2, hr.take m⟩
    · rw [List.length_take, Nat.min_eq_left (by omega)]
    · rw [List.length_take]; omega
set_option maxHeartbeats 4000000 in
set_option maxRecDepth 100000 in
theorem hasSuf_any {X Y : Nat → Prop} (w : World) (a : Option Addr) (n c : Nat) (l : Bs) (h1 : 1 ≤ n) (hl : Sl X (.slice a n c) l w) (a2 : Option Addr) (c2 : Nat) (hu : Sl Y (.slice a2 1 c2) [10#8] w) : Calls Tryz.prog 51 #[.slice a n c, .slice a2 1 c2] w fun e w' => e = .returned (.bool (decide (l[n - 1]? = some 10#8))) ∧ w = w' := by
  obtain ⟨P, hP⟩ : ∃ P : Ending → World → Prop, P = fun e w' => e = .returned (.bool (decide (l[n - 1]? = some 10#8))) ∧ w = w' := ⟨_, rfl⟩
  rw [← hP]
  have HF : Hid (P (.returned (.bool (decide (l[n - 1]? = some 10#8)))) w) := by rw [hP]; exact ⟨rfl, rfl⟩
  clear hP
  obtain ⟨hn, k1, k2⟩ := sl_len hl
  obtain ⟨g, o, rfl, hS⟩ := sl_last hl (n - 1) (by omega)
  have hd : l.drop (n - 1) = [l[n - 1]'(by omega)] := by
    rw [List.drop_eq_getElem_cons (by omega), List.drop_eq_nil_of_le (by omega)]
  have hdec : decide (l.drop (n - 1) = [10#8]) = decide (l[n - 1]? = some 10#8) := by
    rw [hd, List.getElem?_eq_getElem (by omega)]
    by_cases hq : l[n - 1]'(by omega) = 10#8
    · rw [hq]; rfl
    · rw [decide_eq_false, decide_eq_false]
      · intro e; injection e with e; exact hq e
      · intro e; injection e with e; exact hq e
  have HE := tHid (beq_any w _ _ _ _ hS hu)
  rw [hdec] at HE
  obtain ⟨c3, k3, k4⟩ := sl_len hu
  have e1 : n - (n - 1) = 1 := by omega
  rw [e1] at HE
  obtain ⟨m, rfl⟩ : ∃ m, n = m + 1 := ⟨n - 1, by omega⟩
  rw [Nat.add_sub_cancel] at HE HF
  have z1 : (1 : Int) ≤ ((m + 1 : Nat) : Int) := by omega
  have z2 : ((m + 1 : Nat) : Int) - 1 = (m : Int) := by omega
  have z3 : (m : Int) ≤ ((m + 1 : Nat) : Int) := by omega
  have z5 : m < c := by omega
  have z6 : ¬ c = m := by omega
  have z7 : ¬ c ≤ m := by omega
  have z8 : ((m + 1 : Nat) : Int) - (m : Int) = 1 := by omega
  have z9 : m + 1 - m = 1 := by omega
  clear hl hu hS hd hdec hn e1
  generalize decide (l[m]? = some 10#8) = B at *
  go_enter Tryz.func51, Tryz.ntmps51
  go_wp2_with (first | (go_at_call 82; with_reducible refine HE.out.mono ?_; rintro e w1 ⟨rfl, rfl⟩))
  first | exact HF.out | (go_ret; exact HF.out)
set_option maxHeartbeats 4000000 in
set_option maxRecDepth 100000 in
theorem cutSuf_any {X Y : Nat → Prop} (w : World) (a : Option Addr) (n c : Nat) (l : Bs) (h1 : 1 ≤ n) (hl : Sl X (.slice a n c) l w) (a2 : Option Addr) (c2 : Nat) (hu : Sl Y (.slice a2 1 c2) [10#8] w) : Calls Tryz.prog 37 #[.slice a n c, .slice a2 1 c2] w fun e w' => e = .returned (.tuple #[.slice a (if l[n - 1]? = some 10#8 then n - 1 else n) c, .bool (decide (l[n - 1]? = some 10#8))]) ∧ w = w' := by
  obtain ⟨P, hP⟩ : ∃ P : Ending → World → Prop, P = fun e w' => e = .returned (.tuple #[.slice a (if l[n - 1]? = some 10#8 then n - 1 else n) c, .bool (decide (l[n - 1]? = some 10#8))]) ∧ w = w' := ⟨_, rfl⟩
  rw [← hP]
  have HE := tHid (hasSuf_any w a n c l h1 hl a2 c2 hu)
  obtain ⟨hn, k1, k2⟩ := sl_len hl
  obtain ⟨c3, k3, k4⟩ := sl_len hu
  obtain ⟨m, rfl⟩ : ∃ m, n = m + 1 := ⟨n - 1, by omega⟩
  have z2 : ((m + 1 : Nat) : Int) - 1 = (m : Int) := by omega
  have z3 : (m : Int) ≤ ((m + 1 : Nat) : Int) := by omega
  have z4 : (m : Int) ≤ (c : Int) := by omega
  obtain ⟨g, o, rfl, _⟩ := sl_last hl 0 (by omega)
  by_cases hq : l[m + 1 - 1]? = some 10#8
  · rw [decide_eq_true hq] at HE
    have HF : Hid (P (.returned (.tuple #[.slice (some ⟨g, o, none⟩) m c, .bool true])) w) := by rw [hP, if_pos hq, decide_eq_true hq]; exact ⟨rfl, rfl⟩
    clear hP hl hu hq hn
    go_enter Tryz.func37, Tryz.ntmps37
    go_wp2_with (first | (go_at_call 51; with_reducible refine HE.out.mono ?_; rintro e w1 ⟨rfl, rfl⟩))
    first | exact HF.out | (go_ret; exact HF.out)
  · rw [decide_eq_false hq] at HE
    have HF : Hid (P (.returned (.tuple #[.slice (some ⟨g, o, none⟩) (m + 1) c, .bool false])) w) := by rw [hP, if_neg hq, decide_eq_false hq]; exact ⟨rfl, rfl⟩
    clear hP hl hu hq hn
    go_enter Tryz.func37, Tryz.ntmps37
    go_wp2_with (first | (go_at_call 51; with_reducible refine HE.out.mono ?_; rintro e w1 ⟨rfl, rfl⟩))
    first | exact HF.out | (go_ret; exact HF.out)
/-- A pair's two cells. -/
def prC (x : Pr) : Array Value := #[.string (str x.1), .string (str x.2)]
theorem str_emp (l : Bs) : (str l).toList.isEmpty = decide (l = []) := by
  rw [str_toList]
  cases l with
  | nil => rfl
  | cons x r => rw [decide_eq_false (by simp)]; rfl
theorem str_emp2 (l : Bs) : ((str l).toList == ([] : List UInt8)) = decide (l = []) := by
  rw [str_toList]
  cases l with
  | nil => rfl
  | cons x r => rw [decide_eq_false (by simp)]; rfl
set_option maxHeartbeats 4000000 in
set_option maxRecDepth 100000 in
theorem poss_any (x : Pr) (h1 : x.1.length ≤ 140737488351232) (h2 : x.2.length ≤ 140737488351232) (w : World) : Calls Tryz.prog 17 #[.agg (prC x)] w fun e w' => e = .returned (.bool (canP x)) ∧ Nw w w' := by
  obtain ⟨P, hP⟩ : ∃ P : Ending → World → Prop, P = fun e w' => e = .returned (.bool (canP x)) ∧ Nw w w' := ⟨_, rfl⟩
  rw [← hP]
  have HF : Hid (∀ W, Nw w W → P (.returned (.bool (canP x))) W) := fun W hW => by rw [hP]; exact ⟨rfl, hW⟩
  clear hP
  obtain ⟨k, v⟩ := x
  have hcan : canP (k, v) = ((!decide (k = [])) && !anyEz k && !decide (0#8 ∈ v)) := rfl
  have b0 := str_emp k
  have b1 := str_emp2 k
  have HA : Hid (∀ W, Calls Tryz.prog 33 #[.string (str k), .string ⟨#[61, 0]⟩] W fun e w' => e = .returned (.bool (anyEz k)) ∧ Nw W w') := fun W => cany_any k h1 W
  have HB := tHid (fun W => cont0_any v W h2)
  have HN : Hid (Nw w (w.alloc (.cells (prC (k, v)) 28))) := (Fr.refl _ _).alloc _
  have HC1 : Hid ((w.alloc (.cells (prC (k, v)) 28)).cell? ⟨w.heap.size, 1, none⟩ = some (.string (str v))) := by
    have := newHeap w (.cells (prC (k, v)) 28)
    show World.cell? _ _ = _
    unfold World.cell?
    rw [this]
    rfl
  simp only [prC] at HN HC1
  show Calls Tryz.prog 17 #[.agg #[.string (str k), .string (str v)]] w P
  rw [hcan] at HF
  clear hcan h1 h2
  generalize str k = sk at *
  generalize str v = sv at *
  by_cases e0 : k = []
  · rw [decide_eq_true e0] at b0 b1 HF
    have HF2 : Hid (∀ W, Nw w W → P (.returned (.bool false)) W) := HF
    clear HF e0
    go_enter Tryz.func17, Tryz.ntmps17
    go_wp2_with fail
    first | exact HF2.out _ HN.out | (go_ret; exact HF2.out _ HN.out)
  · rw [decide_eq_false e0] at b0 b1 HF
    generalize anyEz k = B at *
    generalize decide (0#8 ∈ v) = C at *
    clear e0
    cases B with
    | true =>
      have HF2 : Hid (∀ W, Nw w W → P (.returned (.bool false)) W) := HF
      clear HF HB
      go_enter Tryz.func17, Tryz.ntmps17
      go_wp2_with (first | (go_at_call 33; with_reducible refine (HA.out _).mono ?_; rintro e w1 ⟨rfl, H1⟩; have H1 := tHid H1))
      first | exact HF2.out _ (HN.out.trans H1.out) | (go_ret; exact HF2.out _ (HN.out.trans H1.out))
    | false =>
      have HF2 : Hid (∀ W, Nw w W → P (.returned (.bool (!C))) W) := HF
      clear HF
      go_enter Tryz.func17, Tryz.ntmps17
      go_wp2_with (first
        | (go_at_call 33; with_reducible refine (HA.out _).mono ?_; rintro e w1 ⟨rfl, H1⟩; have hcell := H1.cell (p := ⟨w.heap.size, 1, none⟩) (v := .string sv) HC1.out; have H1 := tHid H1)
        | (go_at_call 34; with_reducible refine (HB.out _).mono ?_; rintro e w2 ⟨rfl, rfl⟩))
      first | exact HF2.out _ (HN.out.trans H1.out) | (go_ret; exact HF2.out _ (HN.out.trans H1.out))
end Go.Proofs.YtenkchhlaphocaaGreatDoor

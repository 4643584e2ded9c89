import Derived.Test.YtegabbfdnpjkkaaRanS
namespace Go.Proofs.Ytegabbfdnpjkkaa
open Go.RowKit
set_option linter.unusedVariables false
set_option linter.unusedSimpArgs false

def hasP (L : List Rg) (x : Rg) (k : Nat) : Bool := if h : k < L.length then decide (L[k].1 ≤ x.1) && decide (x.2 ≤ L[k].2) else false
def HasRes (L : List Rg) (x : Rg) (w w' : World) (e : Ending) : Prop := ∃ k, Part L (fun y => decide (x.1 < y.2)) k ∧ e = .returned (.bool (hasP L x k)) ∧ Nw w w'

set_option maxHeartbeats 4000000 in
set_option maxRecDepth 100000 in
theorem has_bad (br : Nat) (x : Rg) (w : World) (hx : cb x = false) :
    Calls Try.prog 32 #[.pointer (some ⟨br, 0, none⟩), rv x] w fun e w' => e = .returned (.bool false) ∧ Nw w w' := by
  have HN0 : Hid (Nw w (w.alloc (.cells #[.int .i64 x.1, .int .i64 x.2] 49))) := (Fr.refl _ _).alloc _
  have HC := fun w => canBe_any x w
  rw [hx] at HC
  have HB : Hid _ := BoxB.new w x
  clear hx
  go_enter Try.func32, Try.ntmps32
  go_wp2_with fail
  refine (HC _).mono ?_
  rintro e w1 ⟨rfl, hN1⟩
  obtain ⟨q0, q1, _⟩ := (BoxB.nw HB.out hN1).cell
  go_wp2_with fail
  refine (HC _).mono ?_
  rintro e w2 ⟨rfl, hN2⟩
  go_wp2
  go_ret
  exact ⟨rfl, (Nw.trans HN0.out hN1).trans hN2⟩
set_option maxHeartbeats 4000000 in
set_option maxRecDepth 100000 in
theorem has_empty (br : Nat) (x : Rg) (w : World) (hx : cb x = true) (he : x.1 = x.2) :
    Calls Try.prog 32 #[.pointer (some ⟨br, 0, none⟩), rv x] w fun e w' => e = .returned (.bool true) ∧ Nw w w' := by
  have HN0 : Hid (Nw w (w.alloc (.cells #[.int .i64 x.1, .int .i64 x.2] 49))) := (Fr.refl _ _).alloc _
  have HC := fun w => canBe_any x w
  rw [hx] at HC
  have hB := BoxB.new w x
  obtain ⟨a, b⟩ := x
  simp only at he
  subst he
  have HB : Hid (BoxB w.heap.size (a, a) (w.alloc (.cells #[.int .i64 a, .int .i64 a] 49))) := hB
  clear hx hB
  go_enter Try.func32, Try.ntmps32
  go_wp2_with fail
  refine (HC _).mono ?_
  rintro e w1 ⟨rfl, hN1⟩
  obtain ⟨q0, q1, _⟩ := (BoxB.nw HB.out hN1).cell
  go_wp2_with fail
  refine (HC _).mono ?_
  rintro e w2 ⟨rfl, hN2⟩
  go_wp2
  go_ret
  exact ⟨rfl, (Nw.trans HN0.out hN1).trans hN2⟩
set_option maxHeartbeats 8000000 in
set_option maxRecDepth 100000 in
theorem has_do (br : Nat) (og : Option Nat) (L : List Rg) (x : Rg) (w : World) (h : RngB br og L w) (hL : L.length ≤ 65536) (hr : Rises L) (hx : cb x = true) (he : x.1 < x.2) :
    Calls Try.prog 32 #[.pointer (some ⟨br, 0, none⟩), rv x] w fun e w' => HasRes L x w w' e := by
  have HN0 : Hid (Nw w (w.alloc (.cells #[.int .i64 x.1, .int .i64 x.2] 49))) := (Fr.refl _ _).alloc _
  have HC := fun w => canBe_any x w
  rw [hx] at HC
  have HB : Hid _ := BoxB.new w x
  have H0 : Hid _ := h
  have HR : Hid _ := hr
  have hne : (x.1 == x.2) = false := by simp; omega
  clear hx h hr
  go_enter Try.func32, Try.ntmps32
  go_wp2_with fail
  refine (HC _).mono ?_
  rintro e w1 ⟨rfl, hN1⟩
  obtain ⟨q0, q1, _⟩ := (BoxB.nw HB.out hN1).cell
  have hN1' := Nw.trans HN0.out hN1
  go_wp2_with fail
  refine (ends_any br og L x.1 _ (RngB.nw H0.out hN1') hL HR.out).mono ?_
  rintro e w2 ⟨k, rfl, hk, hN2⟩
  obtain ⟨q0, q1, _⟩ := (BoxB.nw HB.out (hN1.trans hN2)).cell
  have hN2' := hN1'.trans hN2
  obtain ⟨v, h1, h2, h3⟩ := RngB.nw H0.out hN2'
  obtain ⟨c0, _⟩ := box_cell h1
  rcases h2 with ⟨rfl, _, rfl⟩ | ⟨g, xs, hogg, rfl, k1, k2, k3, k4⟩
  · have hk0 : k = 0 := by simpa using hk.1
    subst hk0
    have FIN : Hid (∀ n, HasRes [] x w (w2.drewN n) (.returned (.bool false))) := fun n => ⟨0, hk, rfl, Fr.drewN hN2' n⟩
    clear hk
    go_wp2_with fail
    go_quiet (fail)
    go_wp2
    go_ret
    exact FIN.out _
  · have hkL := hk.1
    unfold maxLen at k1
    by_cases hlt : k < L.length
    · obtain ⟨d1, d2⟩ := k4.cell k (by omega)
      have e1 : xs[k]'(by omega) = L[k] := by
        have : (xs.take L.length)[k]? = L[k]? := by rw [k3]
        rw [List.getElem?_take, if_pos hlt, List.getElem?_eq_getElem (by omega), List.getElem?_eq_getElem hlt] at this
        exact Option.some.inj this
      rw [e1] at d1 d2
      have hP : hasP L x k = (decide (L[k].1 ≤ x.1) && decide (x.2 ≤ L[k].2)) := by unfold hasP; rw [dif_pos hlt]
      have FIN : Hid (∀ n, HasRes L x w (w2.drewN n) (.returned (.bool (decide (L[k].1 ≤ x.1) && decide (x.2 ≤ L[k].2))))) := fun n => ⟨k, hk, by rw [hP], Fr.drewN hN2' n⟩
      have hlz : decide ((k : Int) < (L.length : Int)) = true := by simp; omega
      have hlz' : (k : Int) < (L.length : Int) := by omega
      generalize L[k] = y at d1 d2 FIN
      clear hk e1 k3 k4 hP
      by_cases hA : y.1 ≤ x.1
      · have hdA : decide (y.1 ≤ x.1) = true := by simp; omega
        by_cases hBB : x.2 ≤ y.2
        · have hdB : decide (x.2 ≤ y.2) = true := by simp; omega
          rw [hdA, hdB] at FIN
          go_wp2_with fail
          go_quiet (fail)
          go_wp2
          go_ret
          exact FIN.out _
        · have hdB : decide (x.2 ≤ y.2) = false := by simp; omega
          rw [hdA, hdB] at FIN
          go_wp2_with fail
          go_quiet (fail)
          go_wp2
          go_ret
          exact FIN.out _
      · have hdA : decide (y.1 ≤ x.1) = false := by simp; omega
        rw [hdA] at FIN
        go_wp2_with fail
        go_quiet (fail)
        go_wp2
        go_ret
        exact FIN.out _
    · obtain rfl : k = L.length := by omega
      have hP : hasP L x L.length = false := by unfold hasP; rw [dif_neg (by omega)]
      have FIN : Hid (∀ n, HasRes L x w (w2.drewN n) (.returned (.bool false))) := fun n => ⟨L.length, hk, by rw [hP], Fr.drewN hN2' n⟩
      clear hk
      go_wp2_with fail
      go_quiet (fail)
      go_wp2
      go_ret
      exact FIN.out _
end Go.Proofs.Ytegabbfdnpjkkaa

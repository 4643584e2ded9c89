import Derived.Test.YtegabbfdnpjkkaaRanN
namespace Go.Proofs.Ytegabbfdnpjkkaa
open Go.RowKit
set_option linter.unusedVariables false

/-- A box of one range. -/
def BoxB (b : Nat) (x : Rg) (w : World) : Prop := w.heap[b]? = some (.cells #[.int .i64 x.1, .int .i64 x.2] 49)
theorem BoxB.new (w : World) (x : Rg) : BoxB w.heap.size x (w.alloc (.cells #[.int .i64 x.1, .int .i64 x.2] 49)) := by
  show (w.heap.push _)[w.heap.size]? = _
  simp
theorem BoxB.cell {b : Nat} {x : Rg} {w : World} (h : BoxB b x w) : w.cell? ⟨b, 0, none⟩ = some (.int .i64 x.1) ∧ w.cell? ⟨b, 1, none⟩ = some (.int .i64 x.2) ∧ ∀ o, w.frozen? ⟨b, o, none⟩ = false := by
  unfold BoxB at h
  refine ⟨?_, ?_, fun o => ?_⟩ <;> simp [World.cell?, World.frozen?, h]
theorem BoxB.nw {b : Nat} {x : Rg} {w w' : World} (h : BoxB b x w) (f : Nw w w') : BoxB b x w' := (f.block b (Array.getElem?_eq_some_iff.1 h).1 (fun h => h)).trans h

set_option maxHeartbeats 2000000 in
set_option maxRecDepth 100000 in
theorem add_bad (br : Nat) (x : Rg) (w : World) (hx : cb x = false) :
    Calls Try.prog 24 #[.pointer (some ⟨br, 0, none⟩), rv x] w fun e w' => e = .returned (.int .i64 12) ∧ Nw w w' := by
  have HN0 : Hid (Nw w (w.alloc (.cells #[.int .i64 x.1, .int .i64 x.2] 49))) := (Fr.refl _ _).alloc _
  have HC := fun w => canBe_any x w
  rw [hx] at HC
  clear hx
  go_enter Try.func24, Try.ntmps24
  go_wp2_with (go_at_call 37; refine (HC _).mono ?_; rintro e w' ⟨rfl, hN⟩)
  go_ret
  exact ⟨rfl, Nw.trans HN0.out hN⟩

set_option maxHeartbeats 2000000 in
set_option maxRecDepth 100000 in
theorem add_empty (br : Nat) (x : Rg) (w : World) (hx : cb x = true) (he : x.1 = x.2) :
    Calls Try.prog 24 #[.pointer (some ⟨br, 0, none⟩), rv x] w fun e w' => e = .returned (.int .i64 0) ∧ Nw w w' := by
  have HN0 : Hid (Nw w (w.alloc (.cells #[.int .i64 x.1, .int .i64 x.2] 49))) := (Fr.refl _ _).alloc _
  have HC := fun w => canBe_any x w
  rw [hx] at HC
  have hb := BoxB.new w x
  obtain ⟨a, b⟩ := x
  simp only at he
  subst he
  have HB : Hid _ := hb
  clear hx hb
  go_enter Try.func24, Try.ntmps24
  go_wp2_with (go_at_call 37; refine (HC _).mono ?_; rintro e w' ⟨rfl, hN⟩; obtain ⟨q0, q1, _⟩ := (BoxB.nw HB.out hN).cell)
  go_ret
  exact ⟨rfl, Nw.trans HN0.out hN⟩

def addX (L : List Rg) (i j : Nat) (x : Rg) : Rg := if h : i < j ∧ j ≤ L.length then (min x.1 (L[i]'(by omega)).1, max x.2 (L[j - 1]'(by omega)).2) else x

theorem Setted.lift {br : Nat} {og : Option Nat} {w w3 w' : World} {R L : List Rg} (hN : Nw w w3) (h : RngB br og L w) (hs : Setted br og w3 w' R) : Setted br og w w' R := by
  obtain ⟨og', h1, h2, h3⟩ := hs
  have hbr : br < w.heap.size := by obtain ⟨v, k1, _⟩ := h; exact (Array.getElem?_eq_some_iff.1 k1).1
  refine ⟨og', h1, (Nw.any hN).trans h2, ?_⟩
  rcases h3 with h3 | ⟨g', e, hg⟩
  · exact .inl h3
  · exact .inr ⟨g', e, Nat.le_trans hN.size hg⟩
theorem SVal.one (w : World) (y : Rg) : SVal (.slice (some ⟨w.heap.size, 0, none⟩) 1 1) (some w.heap.size) [y] (w.alloc (.cells #[.int .i64 y.1, .int .i64 y.2] 49)) :=
  .inr ⟨w.heap.size, [y], rfl, rfl, by simp [maxLen], Nat.le_refl _, rfl, RowB.new w [y]⟩
theorem add_end (br : Nat) (og : Option Nat) (L : List Rg) (y : Rg) (i j gb : Nat) (w W4 : World) (h : RngB br og L w) (hN4 : Nw w W4) (hv : SVal (.slice (some ⟨gb, 0, none⟩) 1 1) (some gb) [y] W4) (hgb : w.heap.size ≤ gb) (hL : L.length ≤ 65536) (hij : i ≤ j) (hj : j ≤ L.length) :
    Calls Try.prog 41 #[.pointer (some ⟨br, 0, none⟩), .int .i64 i, .int .i64 j, .slice (some ⟨gb, 0, none⟩) 1 1] W4 fun e w' =>
      (65536 < L.length - (j - i) + 1 ∧ e = .returned (.int .i64 2) ∧ Nw w w' ∨ L.length - (j - i) + 1 ≤ 65536 ∧ e = .returned (.int .i64 0) ∧ Setted br og w w' (L.take i ++ [y] ++ L.drop j)) := by
  have h4 := RngB.nw h hN4
  by_cases hc : 65536 < L.length - (j - i) + 1
  · refine (replace_no br og _ L [y] i j _ _ h4 hv hij hj hL (by simp) (by simpa using hc)).mono ?_
    rintro e w' ⟨rfl, rfl⟩
    exact .inl ⟨hc, rfl, hN4⟩
  · refine (replace_yes br og _ L [y] i j _ _ h4 hv (fun h => by cases h) (fun g hg e => ?_) hij hj hL (by simp) (by simp; omega)).mono ?_
    · obtain ⟨v, _, k2, _⟩ := h
      have := k2.lt g hg
      injection e with e
      omega
    · rintro e w' ⟨rfl, hs⟩
      exact .inr ⟨by omega, rfl, hs.lift hN4 h⟩
theorem addX_no (L : List Rg) (i j : Nat) (x : Rg) (h : ¬ i < j) : addX L i j x = x := by unfold addX; rw [dif_neg (by omega)]
theorem addX_yes (L : List Rg) (i j : Nat) (x : Rg) (h : i < j) (hj : j ≤ L.length) : addX L i j x = (min x.1 (L[i]'(by omega)).1, max x.2 (L[j - 1]'(by omega)).2) := by unfold addX; rw [dif_pos ⟨h, hj⟩]

set_option maxHeartbeats 4000000 in
set_option maxRecDepth 100000 in
theorem add_do (br : Nat) (og : Option Nat) (L : List Rg) (x : Rg) (w : World) (h : RngB br og L w) (hL : L.length ≤ 65536) (hr : Rises L) (hok : ∀ t (ht : t < L.length), L[t].1 < L[t].2) (hx : cb x = true) (he : x.1 < x.2) :
    Calls Try.prog 24 #[.pointer (some ⟨br, 0, none⟩), rv x] w fun e w' => ∃ i j, Part L (fun y => decide (x.1 ≤ y.2)) i ∧ Part L (fun y => decide (x.2 < y.1)) j ∧ i ≤ j ∧
      (65536 < L.length - (j - i) + 1 ∧ e = .returned (.int .i64 2) ∧ Nw w w' ∨ L.length - (j - i) + 1 ≤ 65536 ∧ e = .returned (.int .i64 0) ∧ Setted br og w w' (L.take i ++ [addX L i j x] ++ L.drop j)) := by
  have HN0 : Hid (Nw w (w.alloc (.cells #[.int .i64 x.1, .int .i64 x.2] 49))) := (Fr.refl _ _).alloc _
  have HC := fun w => canBe_any x w
  rw [hx] at HC
  have HB : Hid _ := BoxB.new w x
  have hmf : ∀ (fn : Fn) (first cap : Array Value) (w : World), (Instr.makeFunc fn first cap).run Try.prog w = .ok (.func fn first cap) w := fun _ _ _ _ => rfl
  have H0 : Hid _ := h
  have HR : Hid _ := hr
  have HO : Hid _ := hok
  have hne : (x.1 == x.2) = false := by simp; omega
  clear hx h hr hok
  go_enter Try.func24, Try.ntmps24
  go_wp2_with (go_at_call 37; refine (HC _).mono ?_; rintro e w1 ⟨rfl, hN1⟩; obtain ⟨q0, q1, _⟩ := (BoxB.nw HB.out hN1).cell)
  have hN1' := Nw.trans HN0.out hN1
  refine (first_any 43 _ (fun y => decide (x.1 ≤ y.2)) br og L _ eg43 (clos_add1 w.heap.size x w1 q0) (RngB.nw H0.out hN1') hL (fun a b ha hb hab hp => by
      have := (HR.out a b ha hb hab).2
      simp only [decide_eq_true_eq] at hp ⊢
      omega)).mono ?_
  rintro e w2 ⟨i, rfl, hi, hN2⟩
  have hN2' := hN1'.trans hN2
  obtain ⟨q0, q1, _⟩ := (BoxB.nw HB.out (hN1.trans hN2)).cell
  go_wp2_with fail
  refine (first_any 44 _ (fun y => decide (x.2 < y.1)) br og L _ eg44 (clos_add2 w.heap.size x w2 q1) (RngB.nw H0.out hN2') hL (fun a b ha hb hab hp => by
      have := (HR.out a b ha hb hab).1
      simp only [decide_eq_true_eq] at hp ⊢
      omega)).mono ?_
  rintro e w3 ⟨j, rfl, hj, hN3⟩
  have hN3' := hN2'.trans hN3
  obtain ⟨q0, q1, q2⟩ := (BoxB.nw HB.out ((hN1.trans hN2).trans hN3)).cell
  have hR3 := RngB.nw H0.out hN3'
  clear hN1 hN1' hN2 hN2' hN3 HC
  have hij : i ≤ j := by
    rcases Nat.lt_or_ge j i with hlt | hge
    · have hjl : j < L.length := by have := hi.1; omega
      have a1 := hi.2.1 j hjl hlt
      have a2 := hj.2.2 j hjl (Nat.le_refl _)
      have a3 := HO.out j hjl
      simp only [decide_eq_true_eq, decide_eq_false_iff_not] at a1 a2
      omega
    · exact hge
  rcases Nat.lt_or_ge i j with hlt | hge
  · have hjL := hj.1
    obtain ⟨v3, v1, v2, _⟩ := hR3
    obtain ⟨c3, _⟩ := box_cell v1
    rcases v2 with ⟨_, _, rfl⟩ | ⟨g, xs, hog, rfl, k1, k2, k3, k4⟩
    · simp at hjL; omega
    obtain ⟨d1, _⟩ := k4.cell i (by omega)
    obtain ⟨_, d2⟩ := k4.cell (j - 1) (by omega)
    have e1 : xs[i]'(by omega) = L[i]'(by omega) := by
      have : (xs.take L.length)[i]? = L[i]? := by rw [k3]
      rw [List.getElem?_take, if_pos (by omega), List.getElem?_eq_getElem (by omega), List.getElem?_eq_getElem (by omega)] at this
      exact Option.some.inj this
    have e2 : xs[j - 1]'(by omega) = L[j - 1]'(by omega) := by
      have : (xs.take L.length)[j - 1]? = L[j - 1]? := by rw [k3]
      rw [List.getElem?_take, if_pos (by omega), List.getElem?_eq_getElem (by omega), List.getElem?_eq_getElem (by omega)] at this
      exact Option.some.inj this
    rw [e1] at d1
    rw [e2] at d2
    have AX := addX_yes L i j x hlt hjL
    generalize L[i]'(by omega) = yi at d1 AX
    generalize L[j - 1]'(by omega) = yj at d2 AX
    have HX : Hid _ := AX
    have hgl := k4.lt
    have hN3s := hN3'.size
    have hgw : g < w.heap.size := by obtain ⟨v, _, kk, _⟩ := H0.out; exact kk.lt g hog
    have hbw : br < w.heap.size := by obtain ⟨v, kk, _⟩ := H0.out; exact (Array.getElem?_eq_some_iff.1 kk).1
    have q2a := q2 0
    have q2b := q2 1
    unfold maxLen at k1
    have hz1 : (i : Int) < (L.length : Int) := by omega
    have hz2 : (j : Int) - 1 < (L.length : Int) := by omega
    have hz3 : ((j : Int) - 1).toNat = j - 1 := by omega
    have hz4 : (0 : Int) ≤ (j : Int) - 1 := by omega
    have hnb : ¬ g = w.heap.size := by omega
    have hnb2 : ¬ br = w.heap.size := by omega
    clear AX e1 e2 k3 k4 v1 q2
    go_wp2_with fail
    go_region
    go_wp2_with fail
    go_region
    go_wp2_with fail
    have hNf : Nw w ((w3.setCell ⟨w.heap.size, 0, none⟩ (.int .i64 (min x.1 yi.1))).setCell ⟨w.heap.size, 1, none⟩ (.int .i64 (max x.2 yj.2))) := Fr.setCell (Fr.setCell hN3' _ _ (.inr (Nat.le_refl _))) _ _ (.inr (Nat.le_refl _))
    have hvf := SVal.one ((w3.setCell ⟨w.heap.size, 0, none⟩ (.int .i64 (min x.1 yi.1))).setCell ⟨w.heap.size, 1, none⟩ (.int .i64 (max x.2 yj.2))) (min x.1 yi.1, max x.2 yj.2)
    rw [World.size_setCell, World.size_setCell] at hvf
    refine (add_end br og L (min x.1 yi.1, max x.2 yj.2) i j w3.heap.size w _ H0.out (Fr.alloc hNf _).drew.drew hvf hN3'.size hL hij hj.1).mono ?_
    intro e w' hfin
    rw [← HX.out] at hfin
    rcases hfin with ⟨k1, rfl, k2⟩ | ⟨k1, rfl, k2⟩
    · go_wp2
      go_ret
      exact ⟨i, j, hi, hj, hij, .inl ⟨k1, rfl, k2⟩⟩
    · go_wp2
      go_ret
      exact ⟨i, j, hi, hj, hij, .inr ⟨k1, rfl, k2⟩⟩
  · go_wp2_with fail
    refine (add_end br og L x i j w3.heap.size w _ H0.out (Fr.alloc hN3' _) (SVal.one w3 x) hN3'.size hL hij hj.1).mono ?_
    intro e w' hfin
    rw [← addX_no L i j x (by omega)] at hfin
    rcases hfin with ⟨k1, rfl, k2⟩ | ⟨k1, rfl, k2⟩
    · go_wp2
      go_ret
      exact ⟨i, j, hi, hj, hij, .inl ⟨k1, rfl, k2⟩⟩
    · go_wp2
      go_ret
      exact ⟨i, j, hi, hj, hij, .inr ⟨k1, rfl, k2⟩⟩
end Go.Proofs.Ytegabbfdnpjkkaa

import Derived.Test.YtkpkiajehclbhaaCqB
namespace Go.Proofs.Ytkpkiajehclbhaa
open Go.RowKit
set_option linter.unusedVariables false
/-! ### The document's starts -/
theorem take_upto (l m : List By) (h : m.length ≤ l.length) (he : ∀ j, j < m.length → l[j]? = m[j]?) : l.take m.length = m := by
  apply List.ext_getElem?
  intro j
  by_cases hj : j < m.length
  · rw [List.getElem?_take, if_pos hj, he j hj]
  · rw [List.getElem?_eq_none (by rw [List.length_take]; omega), List.getElem?_eq_none (by omega)]
set_option maxHeartbeats 8000000 in
set_option maxRecDepth 100000 in
theorem sstarts_any (w : World) (va vb : Value) (l m : List By) (hl : Sl (fun _ => False) va l w) (hm : Sl (fun _ => False) vb m w) (hls : l.length ≤ 140737488351232) (hms : m.length ≤ 140737488351232) :
    Calls Try.prog 55 #[va, vb] w fun e w' => e = .returned (.bool (decide (m.length ≤ l.length ∧ l.take m.length = m))) ∧ Nw w w' := by
  obtain ⟨P, hP⟩ : ∃ P : Ending → World → Prop, P = fun e w' => e = .returned (.bool (decide (m.length ≤ l.length ∧ l.take m.length = m))) ∧ Nw w w' := ⟨_, rfl⟩
  rw [← hP]
  have HP : Hid (P = fun e w' => e = .returned (.bool (decide (m.length ≤ l.length ∧ l.take m.length = m))) ∧ Nw w w') := hP
  clear hP
  obtain ⟨a1, c1, rfl, hi1⟩ := hl.in' hls
  obtain ⟨a2, c2, rfl, hi2⟩ := hm.in' hms
  have HI1 : Hid (In a1 c1 l w) := hi1
  have HI2 : Hid (In a2 c2 m w) := hi2
  have k1 := hi1.1
  have k2 := hi1.2.1
  have k3 := hi2.1
  have k4 := hi2.2.1
  clear hl hm hi1 hi2
  by_cases hne : m.length ≤ l.length
  · have g0 : ¬ (l.length : Int) < (m.length : Int) := by omega
    go_enter Try.func55, Try.ntmps55
    go_wp2
    go_loopg [5] m.length (fun kx i wr => ∃ (I : Nat), I ≤ m.length ∧ m.length - I ≤ kx ∧ i = .int .i64 I ∧ Hid (Nw w wr ∧ ∀ j, j < I → l[j]? = m[j]?))
    case atStart => exact ⟨0, by omega, by omega, rfl, Fr.refl _ _, fun j hj => by omega⟩
    case round =>
      obtain ⟨I, hI, hkx, rfl, HI⟩ := hrel
      obtain ⟨hN, hE⟩ := HI.out
      by_cases hlt2 : I < m.length
      · have hlt : I < l.length := by omega
        obtain ⟨g1, o1, rfl, hcell1⟩ := (HI1.out.nw hN).at I hlt
        obtain ⟨g2, o2, rfl, hcell2⟩ := (HI2.out.nw hN).at I hlt2
        have hz : (I : Int) < (m.length : Int) := by omega
        by_cases heq : l[I].toNat = m[I].toNat
        · have HN : Hid (∀ V, Nw wr V → Nw w V ∧ ∀ j, j < I + 1 → l[j]? = m[j]?) := fun V hV => ⟨hN.trans hV, fun j hj => by
            by_cases hj' : j < I
            · exact hE j hj'
            · obtain rfl : j = I := by omega
              rw [List.getElem?_eq_getElem hlt, List.getElem?_eq_getElem hlt2, BitVec.eq_of_toNat_eq heq]⟩
          rw [← heq] at hcell2
          clear HI HP hN hE HI1 HI2 heq g0
          generalize l[I].toNat = x at *
          generalize l.length = L at *
          go_wp2_with fail
          go_quiet (fail)
          go_wp2_with fail
          go_roundg (m.length - (I + 1))
          case measure => omega
          case rel => exact ⟨I + 1, by omega, by omega, by first | rfl | (congr 1), HN.out _ ((Fr.refl _ _).drewN _)⟩
        · have HF : Hid (∀ V, Nw wr V → P (.returned (.bool false)) V) := fun V hV => by
            rw [HP.out]
            refine ⟨?_, hN.trans hV⟩
            rw [decide_eq_false (fun h => heq (by
              have := h.2
              have e : (l.take m.length)[I]? = m[I]? := by rw [this]
              rw [List.getElem?_take, if_pos hlt2, List.getElem?_eq_getElem hlt, List.getElem?_eq_getElem hlt2] at e
              injection e with e
              rw [e]))]
          have heq' : ¬ ((l[I].toNat : Nat) : Int) = ((m[I].toNat : Nat) : Int) := by omega
          clear HI HP hN hE HI1 HI2 heq g0
          generalize l[I].toNat = x at *
          generalize m[I].toNat = y at *
          generalize l.length = L at *
          go_wp2_with fail
          go_quiet (fail)
          go_wp2_with fail
          exact HF.out _ ((Fr.refl _ _).drewN _)
      · have hz : ¬ (I : Int) < (m.length : Int) := by omega
        have HF : Hid (P (.returned (.bool true)) wr) := by
          show P _ _
          rw [HP.out]
          refine ⟨?_, hN⟩
          rw [decide_eq_true ⟨hne, take_upto l m hne (fun j hj => hE j (by omega))⟩]
        clear HI HP hN hE HI1 HI2
        go_wp2_with fail
        exact HF.out
  · have HF : Hid (P (.returned (.bool false)) w) := by
      show P _ _
      rw [HP.out]
      refine ⟨?_, Fr.refl _ _⟩
      rw [decide_eq_false (fun h => hne h.1)]
    have g0 : (l.length : Int) < (m.length : Int) := by omega
    clear HI1 HI2 HP
    go_enter Try.func55, Try.ntmps55
    go_wp2
    exact HF.out
end Go.Proofs.Ytkpkiajehclbhaa

import Derived.Test.YtffhpoilifgcdaaDoorLzU
import Derived.Laws.MakeOwn
namespace Go.Proofs.YtffhpoilifgcdaaDoor
open Go.RowKit
set_option linter.unusedVariables false
/-- Two lists of bytes, byte by byte. -/
theorem eq_upto (l m : List By) (k : Nat) (h : l.length = m.length) (hk : k ≤ l.length) (he : ∀ j, j < k → l[j]? = m[j]?) (hd : k = l.length) : l = m := by
  apply List.ext_getElem?
  intro i
  by_cases hi : i < k
  · exact he i hi
  · rw [List.getElem?_eq_none (by omega), List.getElem?_eq_none (by omega)]
theorem Sl.in' {X : Nat → Prop} {v : Value} {b : List By} {w : World} (h : Sl X v b w) (hs : b.length ≤ 200000000000000) : ∃ a c, v = .slice a b.length c ∧ In a c b w := by
  rcases h with ⟨a, rfl, rfl⟩ | ⟨g, _, o, c, rfl, h1, h2, h3⟩
  · exact ⟨a, 0, rfl, by simp, by simp, by simp, fun h => absurd rfl h⟩
  · exact ⟨_, c, rfl, h1, h2, hs, fun _ => ⟨g, o, rfl, h3⟩⟩
set_option maxHeartbeats 8000000 in
set_option maxRecDepth 100000 in
theorem same_any (w : World) (va vb : Value) (l m : List By) (hl : Sl (fun _ => False) va l w) (hm : Sl (fun _ => False) vb m w) (hls : l.length ≤ 200000000000000) (hms : m.length ≤ 200000000000000) :
    Calls Tryd.prog 11 #[va, vb] w fun e w' => e = .returned (.bool (decide (l = m))) ∧ Nw w w' := by
  obtain ⟨P, hP⟩ : ∃ P : Ending → World → Prop, P = fun e w' => e = .returned (.bool (decide (l = m))) ∧ Nw w w' := ⟨_, rfl⟩
  rw [← hP]
  have HP : Hid (P = fun e w' => e = .returned (.bool (decide (l = m))) ∧ Nw w w') := hP
  clear hP
  obtain ⟨a1, c1, rfl, hi1⟩ := hl.in' hls
  obtain ⟨a2, c2, rfl, hi2⟩ := hm.in' hms
  have HI1 : Hid (In a1 c1 l w) := hi1
  have HI2 : Hid (In a2 c2 m w) := hi2
  have k1 := hi1.1
  have k2 := hi1.2.1
  have k3 := hi2.1
  have k4 := hi2.2.1
  clear hl hm hi1 hi2
  by_cases hne : l.length = m.length
  · have HS : Hid (∀ k, k ≤ l.length → (∀ j, j < k → l[j]? = m[j]?) → k = l.length → l = m) := fun k hk he hd => eq_upto l m k hne hk he hd
    rw [← hne] at k3 hms ⊢
    go_enter Tryd.func11, Tryd.ntmps11
    go_wp2
    go_loopg [5] l.length (fun kx i wr => ∃ (I : Nat), I ≤ l.length ∧ l.length - I ≤ kx ∧ i = .int .i64 I ∧ Hid (Nw w wr ∧ ∀ j, j < I → l[j]? = m[j]?))
    case atStart => exact ⟨0, by omega, by omega, rfl, Fr.refl _ _, fun j hj => by omega⟩
    case round =>
      obtain ⟨I, hI, hkx, rfl, HI⟩ := hrel
      obtain ⟨hN, hE⟩ := HI.out
      by_cases hlt : I < l.length
      · have hlt2 : I < m.length := by omega
        obtain ⟨g1, o1, rfl, hcell1⟩ := (HI1.out.nw hN).at I hlt
        obtain ⟨g2, o2, rfl, hcell2⟩ := (HI2.out.nw hN).at I hlt2
        by_cases heq : l[I].toNat = m[I].toNat
        · have HN : Hid (∀ V, Nw wr V → Nw w V ∧ ∀ j, j < I + 1 → l[j]? = m[j]?) := fun V hV => ⟨hN.trans hV, fun j hj => by
            by_cases hj' : j < I
            · exact hE j hj'
            · obtain rfl : j = I := by omega
              rw [List.getElem?_eq_getElem hlt, List.getElem?_eq_getElem hlt2, BitVec.eq_of_toNat_eq heq]⟩
          rw [← heq] at hcell2
          clear HI HP HS hN hE HI1 HI2 heq hne
          generalize l[I].toNat = x at *
          go_wp2_with fail
          go_quiet (fail)
          go_wp2_with fail
          go_roundg (l.length - (I + 1))
          case measure => omega
          case rel => exact ⟨I + 1, by omega, by omega, by first | rfl | (congr 1), HN.out _ ((Fr.refl _ _).drewN _)⟩
        · have HF : Hid (∀ V, Nw wr V → P (.returned (.bool false)) V) := fun V hV => by
            rw [HP.out]
            refine ⟨?_, hN.trans hV⟩
            rw [decide_eq_false (fun h => heq (by subst h; rfl))]
          have heq' : ¬ ((l[I].toNat : Nat) : Int) = ((m[I].toNat : Nat) : Int) := by omega
          clear HI HP HS hN hE HI1 HI2 heq hne
          generalize l[I].toNat = x at *
          generalize m[I].toNat = y at *
          go_wp2_with fail
          go_quiet (fail)
          go_wp2_with fail
          exact HF.out _ ((Fr.refl _ _).drewN _)
      · have HF : Hid (P (.returned (.bool true)) wr) := by
          show P _ _
          rw [HP.out]
          exact ⟨by rw [decide_eq_true (HS.out I hI hE (by omega))], hN⟩
        clear HI HP HS hN hE HI1 HI2 hne
        go_wp2_with fail
        exact HF.out
  · have HF : Hid (P (.returned (.bool false)) w) := by
      show P _ _
      rw [HP.out]
      exact ⟨by rw [decide_eq_false (fun h => hne (by rw [h]))], Fr.refl _ _⟩
    have hne' : ¬ (l.length : Int) = (m.length : Int) := by omega
    clear HP HI1 HI2
    generalize l.length = n1 at *
    generalize m.length = n2 at *
    go_enter Tryd.func11, Tryd.ntmps11
    go_wp2_with fail
    exact HF.out
end Go.Proofs.YtffhpoilifgcdaaDoor

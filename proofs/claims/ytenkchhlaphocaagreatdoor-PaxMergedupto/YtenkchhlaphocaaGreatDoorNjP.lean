import Derived.Test.YtenkchhlaphocaaGreatDoorNjO
namespace Go.Proofs.YtenkchhlaphocaaGreatDoor
open Go.RowKit
set_option linter.unusedVariables false
/-! ### Lists of pairs compared, and written over -/
theorem rp_at {X : Nat → Prop} {a : Option Addr} {n c : Nat} {l : List Pr} {w : World} (h : SlR RP X (.slice a n c) l w) (i : Nat) (hx : i < l.length) : ∃ g o, a = some ⟨g, o, none⟩ ∧ ¬ X g ∧ w.cell? ⟨g, o + i * 2, none⟩ = some (.string (str (l[i]'hx).1)) ∧ w.cell? ⟨g, o + i * 2 + 1, none⟩ = some (.string (str (l[i]'hx).2)) := by
  obtain ⟨g, o, e, hg, hc⟩ := h.at i l[i] (List.getElem?_eq_getElem hx)
  have h0 := hc 0 _ rfl
  have h1 := hc 1 _ rfl
  simp only [RP, Nat.add_zero] at h0 h1
  exact ⟨g, o, e, hg, h0, h1⟩
theorem eqP_upto (l m : List Pr) (k : Nat) (h : l.length = m.length) (hk : k ≤ l.length) (he : ∀ j, j < k → l[j]? = m[j]?) (hd : k = l.length) : l = m := by
  apply List.ext_getElem?
  intro i
  by_cases hi : i < k
  · exact he i hi
  · rw [List.getElem?_eq_none (by omega), List.getElem?_eq_none (by omega)]
set_option maxHeartbeats 8000000 in
set_option maxRecDepth 100000 in
theorem same_any {X Y : Nat → Prop} (w : World) (va vb : Value) (l m : List Pr) (hl : SlR RP X va l w) (hm : SlR RP Y vb m w) :
    Calls Tryz.prog 6 #[va, vb] w fun e w' => e = .returned (.bool (decide (l = m))) ∧ Nw w w' := by
  obtain ⟨P, hP⟩ : ∃ P : Ending → World → Prop, P = fun e w' => e = .returned (.bool (decide (l = m))) ∧ Nw w w' := ⟨_, rfl⟩
  rw [← hP]
  have HF : Hid (∀ B V, decide (l = m) = B → Nw w V → P (.returned (.bool B)) V) := fun B V h1 h2 => by rw [hP, h1]; exact ⟨rfl, h2⟩
  clear hP
  obtain ⟨a1, c1, rfl, k1, k2, _⟩ := hl.form
  obtain ⟨a2, c2, rfl, k3, k4, _⟩ := hm.form
  have HI1 := tHid hl
  have HI2 := tHid hm
  clear hl hm
  by_cases hne : l.length = m.length
  · have HS : Hid (∀ k, k ≤ l.length → (∀ j, j < k → l[j]? = m[j]?) → k = l.length → l = m) := fun k hk he hd => eqP_upto l m k hne hk he hd
    have HM : Hid (l.length = m.length) := hne
    rw [← hne] at k3 ⊢
    clear hne
    go_enter Tryz.func6, Tryz.ntmps6
    go_upto_region 4 with fail
    go_loopg [5] l.length (fun kx i wr => ∃ (I : Nat), I ≤ l.length ∧ l.length - I ≤ kx ∧ i = .int .i64 I ∧ Hid (Nw w wr ∧ ∀ j, j < I → l[j]? = m[j]?))
    case atStart => exact ⟨0, by omega, by omega, rfl, Fr.refl _ _, fun j hj => by omega⟩
    case round =>
      obtain ⟨I, hI, hkx, rfl, HI⟩ := hrel
      obtain ⟨hN, hE⟩ := HI.out
      by_cases hlt : I < l.length
      · have hlt2 : I < m.length := by have := HM.out; omega
        obtain ⟨g1, o1, rfl, _, x0, x1⟩ := rp_at (HI1.out.nw hN) I hlt
        obtain ⟨g2, o2, rfl, _, y0, y1⟩ := rp_at (HI2.out.nw hN) I hlt2
        have b0 := str_beq l[I].1 m[I].1
        have b1 := str_beq l[I].2 m[I].2
        have hz : (I : Int) < (l.length : Int) := by omega
        by_cases heq : l[I] = m[I]
        · rw [decide_eq_true (by rw [heq])] at b0 b1
          have HN : Hid (∀ V, Nw wr V → Nw w V ∧ ∀ j, j < I + 1 → l[j]? = m[j]?) := fun V hV => ⟨hN.trans hV, fun j hj => by
            by_cases hj' : j < I
            · exact hE j hj'
            · obtain rfl : j = I := by omega
              rw [List.getElem?_eq_getElem hlt, List.getElem?_eq_getElem hlt2, heq]⟩
          clear HF HS HI hN hE heq HM
          generalize str l[I].1 = s1 at *
          generalize str l[I].2 = s2 at *
          generalize str m[I].1 = t1 at *
          generalize str m[I].2 = t2 at *
          generalize l.length = L at *
          go_upto_region 6 with fail
          go_quiet (fail)
          go_wp2_with fail
          go_roundg (L - (I + 1))
          case measure => omega
          case rel => exact ⟨I + 1, by omega, by omega, by first | rfl | (congr 1), HN.out _ ((Fr.refl _ _).drewN _)⟩
        · have HF2 : Hid (∀ V, Nw wr V → P (.returned (.bool false)) V) := fun V hV => HF.out false V (decide_eq_false (fun e => heq (by
            have := congrArg (fun q => q[I]?) e
            simp only [List.getElem?_eq_getElem hlt, List.getElem?_eq_getElem hlt2] at this
            injection this))) (hN.trans hV)
          by_cases hk : l[I].1 = m[I].1
          · have hv : ¬ l[I].2 = m[I].2 := fun e => heq (Prod.ext hk e)
            rw [decide_eq_true hk] at b0
            rw [decide_eq_false hv] at b1
            clear HF HS HI hN hE heq HM hk hv
            generalize str l[I].1 = s1 at *
            generalize str l[I].2 = s2 at *
            generalize str m[I].1 = t1 at *
            generalize str m[I].2 = t2 at *
            go_upto_region 6 with fail
            go_quiet (fail)
            go_wp2_with fail
            first | exact HF2.out _ ((Fr.refl _ _).drewN _) | (go_ret; exact HF2.out _ ((Fr.refl _ _).drewN _))
          · rw [decide_eq_false hk] at b0
            generalize decide (l[I].2 = m[I].2) = B at b1
            clear HF HS HI hN hE heq HM hk
            generalize str l[I].1 = s1 at *
            generalize str l[I].2 = s2 at *
            generalize str m[I].1 = t1 at *
            generalize str m[I].2 = t2 at *
            go_upto_region 6 with fail
            go_quiet (fail)
            go_wp2_with fail
            first | exact HF2.out _ ((Fr.refl _ _).drewN _) | (go_ret; exact HF2.out _ ((Fr.refl _ _).drewN _))
      · have HF2 := tHid (HF.out true wr (decide_eq_true (HS.out I hI hE (by omega))) hN)
        obtain rfl : I = l.length := by omega
        clear HF HS HI hN hE HM
        go_wp2_with fail
        first | exact HF2.out | (go_ret; exact HF2.out)
  · have HF2 := tHid (HF.out false w (decide_eq_false (fun e => hne (by rw [e]))) (Fr.refl _ _))
    have hni : ¬ ((l.length : Int) = (m.length : Int)) := by omega
    clear HF
    go_enter Tryz.func6, Tryz.ntmps6
    go_wp2_with fail
    first | exact HF2.out | (go_ret; exact HF2.out)
end Go.Proofs.YtenkchhlaphocaaGreatDoor

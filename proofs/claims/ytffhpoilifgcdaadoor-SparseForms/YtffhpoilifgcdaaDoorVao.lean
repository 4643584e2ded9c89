import Derived.Test.YtffhpoilifgcdaaDoorVan
import Derived.Laws.EntriesVeiled
namespace Go.Proofs.YtffhpoilifgcdaaDoor
open Go.RowKit
set_option linter.unusedVariables false
/-- A list of ranges that a call made. -/
def NewG (w : World) (v : Value) (l : List Rg) (V : World) : Prop := ∃ og, OgR RG og v l V ∧ ∀ g, og = some g → w.heap.size ≤ g
theorem NewG.nw {w : World} {v : Value} {l : List Rg} {V V' : World} (h : NewG w v l V) (f : Nw V V') : NewG w v l V' := by
  obtain ⟨og, h1, h2⟩ := h
  exact ⟨og, h1.nw f, h2⟩
theorem NewG.slr {w : World} {v : Value} {l : List Rg} {V : World} (h : NewG w v l V) : SlR RG (fun _ => False) v l V := by
  obtain ⟨og, h1, h2⟩ := h
  exact (h1.slr rgOk).anyG
/-- What Find answers. -/
def FdA (w : World) (b : List By) (n : Nat) (e : Ending) (V : World) : Prop := ∃ a m c l, e = .returned (.slice a m c) ∧ Hid (Nw w V ∧ Fnd b n l ∧ l.length = m ∧ NewG w (.slice a m c) (rgL l) V)
end Go.Proofs.YtffhpoilifgcdaaDoor

namespace Go.Proofs.YtffhpoilifgcdaaDoor
open Go.RowKit
set_option linter.unusedVariables false
/-! ### Lists of ranges compared; copies -/
theorem rg_at {X : Nat → Prop} {a : Option Addr} {n c : Nat} {l : List Rg} {w : World} (h : SlR RG X (.slice a n c) l w) (i : Nat) (hx : i < l.length) : ∃ g o, a = some ⟨g, o, none⟩ ∧ ¬ X g ∧ w.cell? ⟨g, o + i * 2, none⟩ = some (.int .i64 (l[i]'hx).1) ∧ w.cell? ⟨g, o + i * 2 + 1, none⟩ = some (.int .i64 (l[i]'hx).2) := by
  obtain ⟨g, o, e, hg, hc⟩ := h.at i l[i] (List.getElem?_eq_getElem hx)
  have h0 := hc 0 _ rfl
  have h1 := hc 1 _ rfl
  simp only [RG, Nat.add_zero] at h0 h1
  exact ⟨g, o, e, hg, h0, h1⟩
theorem eqG_upto (l m : List Rg) (k : Nat) (h : l.length = m.length) (hk : k ≤ l.length) (he : ∀ j, j < k → l[j]? = m[j]?) (hd : k = l.length) : l = m := by
  apply List.ext_getElem?
  intro i
  by_cases hi : i < k
  · exact he i hi
  · rw [List.getElem?_eq_none (by omega), List.getElem?_eq_none (by omega)]
set_option maxHeartbeats 8000000 in
set_option maxRecDepth 100000 in
theorem ranges_any {X Y : Nat → Prop} (w : World) (va vb : Value) (l m : List Rg) (hl : SlR RG X va l w) (hm : SlR RG Y vb m w) :
    Calls Tryd.prog 12 #[va, vb] w fun e w' => e = .returned (.bool (decide (l = m))) ∧ Nw w w' := by
  obtain ⟨P, hP⟩ : ∃ P : Ending → World → Prop, P = fun e w' => e = .returned (.bool (decide (l = m))) ∧ Nw w w' := ⟨_, rfl⟩
  rw [← hP]
  have HF : Hid (∀ B V, decide (l = m) = B → Nw w V → P (.returned (.bool B)) V) := fun B V h1 h2 => by rw [hP, h1]; exact ⟨rfl, h2⟩
  clear hP
  obtain ⟨a1, c1, rfl, k1, k2, _⟩ := hl.form
  obtain ⟨a2, c2, rfl, k3, k4, _⟩ := hm.form
  have HI1 := tHid hl
  have HI2 := tHid hm
  clear hl hm
  by_cases hne : l.length = m.length
  · have HS : Hid (∀ k, k ≤ l.length → (∀ j, j < k → l[j]? = m[j]?) → k = l.length → l = m) := fun k hk he hd => eqG_upto l m k hne hk he hd
    have HM : Hid (l.length = m.length) := hne
    rw [← hne] at k3 ⊢
    clear hne
    go_enter Tryd.func12, Tryd.ntmps12
    go_upto_region 4 with fail
    go_loopg [5] l.length (fun kx i wr => ∃ (I : Nat), I ≤ l.length ∧ l.length - I ≤ kx ∧ i = .int .i64 I ∧ Hid (Nw w wr ∧ ∀ j, j < I → l[j]? = m[j]?))
    case atStart => exact ⟨0, by omega, by omega, rfl, Fr.refl _ _, fun j hj => by omega⟩
    case round =>
      obtain ⟨I, hI, hkx, rfl, HI⟩ := hrel
      obtain ⟨hN, hE⟩ := HI.out
      by_cases hlt : I < l.length
      · have hlt2 : I < m.length := by have := HM.out; omega
        obtain ⟨g1, o1, rfl, _, x0, x1⟩ := rg_at (HI1.out.nw hN) I hlt
        obtain ⟨g2, o2, rfl, _, y0, y1⟩ := rg_at (HI2.out.nw hN) I hlt2
        have hz : (I : Int) < (l.length : Int) := by omega
        by_cases heq : l[I] = m[I]
        · have HN : Hid (∀ V, Nw wr V → Nw w V ∧ ∀ j, j < I + 1 → l[j]? = m[j]?) := fun V hV => ⟨hN.trans hV, fun j hj => by
            by_cases hj' : j < I
            · exact hE j hj'
            · obtain rfl : j = I := by omega
              rw [List.getElem?_eq_getElem hlt, List.getElem?_eq_getElem hlt2, heq]⟩
          rw [← heq] at y0 y1
          clear HF HS HI hN hE heq HM
          generalize l[I].1 = s1 at *
          generalize l[I].2 = s2 at *
          generalize l.length = L at *
          go_upto_region 6 with fail
          go_quiet (fail)
          go_wp2_with fail
          go_roundg (L - (I + 1))
          case measure => omega
          case rel => exact ⟨I + 1, by omega, by omega, by first | rfl | (congr 1), HN.out _ ((Fr.refl _ _).drewN _)⟩
        · have HF2 : Hid (∀ V, Nw wr V → P (.returned (.bool false)) V) := fun V hV => HF.out false V (decide_eq_false (fun e => heq (by
            have := congrArg (fun q => q[I]?) e
            simp only [List.getElem?_eq_getElem hlt, List.getElem?_eq_getElem hlt2] at this
            injection this))) (hN.trans hV)
          by_cases hk : l[I].1 = m[I].1
          · have hv : ¬ l[I].2 = m[I].2 := fun e => heq (Prod.ext hk e)
            rw [← hk] at y0
            clear HF HS HI hN hE heq HM hk
            generalize l[I].1 = s1 at *
            generalize l[I].2 = s2 at *
            generalize m[I].2 = t2 at *
            have hv2 : (s2 == t2) = false := by rw [beq_eq_false_iff_ne]; exact hv
            go_upto_region 6 with fail
            go_quiet (fail)
            go_wp2_with fail
            first | exact HF2.out _ ((Fr.refl _ _).drewN _) | (go_ret; exact HF2.out _ ((Fr.refl _ _).drewN _))
          · clear HF HS HI hN hE heq HM
            generalize l[I].1 = s1 at *
            generalize l[I].2 = s2 at *
            generalize m[I].1 = t1 at *
            generalize m[I].2 = t2 at *
            have hv2 : (s1 == t1) = false := by rw [beq_eq_false_iff_ne]; exact hk
            go_upto_region 6 with fail
            go_quiet (fail)
            go_wp2_with fail
            first | exact HF2.out _ ((Fr.refl _ _).drewN _) | (go_ret; exact HF2.out _ ((Fr.refl _ _).drewN _))
      · have HF2 := tHid (HF.out true wr (decide_eq_true (HS.out I hI hE (by omega))) hN)
        obtain rfl : I = l.length := by omega
        clear HF HS HI hN hE HM
        go_wp2_with fail
        first | exact HF2.out | (go_ret; exact HF2.out)
  · have HF2 := tHid (HF.out false w (decide_eq_false (fun e => hne (by rw [e]))) (Fr.refl _ _))
    have hni : ¬ ((l.length : Int) = (m.length : Int)) := by omega
    clear HF
    go_enter Tryd.func12, Tryd.ntmps12
    go_wp2_with fail
    first | exact HF2.out | (go_ret; exact HF2.out)
/-- append([]byte{}, b...). -/
theorem copyX (w : World) (v : Value) (b : List By) (hb : Sl (fun _ => False) v b w) (hn : b.length ≤ 1000000000) : ∃ g c W, Hid (∀ ty, (Builtin.append_ #[23, 23] ty #[.slice (some ⟨w.heap.size, 0, none⟩) 0 0, v]).run Tryd.prog (w.alloc (.cells #[] 5)) = .ok (.slice (some ⟨g, 0, none⟩) b.length c) W) ∧ Ow g (.slice (some ⟨g, 0, none⟩) b.length c) b W ∧ Nw w W ∧ w.heap.size ≤ g := by
  have hN0 : Nw w (w.alloc (.cells #[] 5)) := (Fr.refl _ _).alloc _
  obtain ⟨v1, g1, W1, a1, o1, f1, d1⟩ := app_any _ _ _ [] (Ow.empty w) v b (hb.nw hN0) (by simp; omega)
  rw [List.nil_append] at o1
  obtain ⟨xs, rfl, q2, q3, q4, q5⟩ := id o1
  refine ⟨g1, xs.length, W1, a1, o1, hN0.then f1 (fun i hi => .inr (by omega)), ?_⟩
  rcases d1 with e | e
  · omega
  · simp at e; omega
end Go.Proofs.YtffhpoilifgcdaaDoor

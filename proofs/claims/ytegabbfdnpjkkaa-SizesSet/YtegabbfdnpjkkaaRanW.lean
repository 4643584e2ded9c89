import Derived.Test.YtegabbfdnpjkkaaRanU
import Derived.Deep.DeepCutAuto
namespace Go.Proofs.Ytegabbfdnpjkkaa
open Go.RowKit
set_option linter.unusedVariables false
set_option linter.unusedSimpArgs false

set_option maxHeartbeats 8000000 in
set_option maxRecDepth 100000 in
theorem wo_no (lv : Value) (ol : Option Nat) (L : List Rg) (x : Rg) (w : World) (h : SVal lv ol L w) (hL : L.length ≤ 200000) (hxx0 : ¬ x.1 < x.2) :
    Calls Try.prog 42 #[lv, rv x] w fun e w' => WoRes (wo L x) w w' e := by
  have HXX : Hid (¬ x.1 < x.2) := hxx0
  have HB : Hid _ := BoxB.new w x
  obtain ⟨la, lc, rfl, hlc, hlm⟩ := h.form
  unfold maxLen at hlm
  have H0 : Hid (SVal (.slice la L.length lc) ol L w) := h
  have FIN : Hid (∀ wr b c og1, SVal (.slice b (wo L x).length c) og1 (wo L x) wr → (∀ g', og1 = some g' → w.heap.size < g') → Nw w wr → WoRes (wo L x) w wr (.returned (.slice b (wo L x).length c))) := fun wr b c og1 h1 h2 h3 => ⟨b, c, rfl, og1, h1, fun g hg => Nat.le_of_lt (h2 g hg), h3⟩
  clear h
  go_enter Try.func42, Try.ntmps42
  go_wp2
  go_loopg [5, 6] L.length (fun kx r i wr => ∃ (t : Nat) (GS : List Rg) (b : Option Addr) (c : Nat) (og1 : Option Nat), t ≤ L.length ∧ L.length - t ≤ kx ∧ i = .int .i64 t ∧ r = .slice b GS.length c ∧ SVal (.slice b GS.length c) og1 GS wr ∧ (∀ g', og1 = some g' → w.heap.size < g') ∧ Nw w wr ∧ Hid (BoxB w.heap.size x wr) ∧ Hid (GS = wo (L.take t) x) ∧ GS.length ≤ 2 * t)
  case atStart =>
    have hs := SVal.lit0 (w.alloc (.cells #[.int .i64 x.1, .int .i64 x.2] 49))
    rw [World.size_alloc] at hs
    exact ⟨0, [], some ⟨w.heap.size + 1, 0, none⟩, 0, some (w.heap.size + 1), Nat.zero_le _, by omega, rfl, rfl, hs, (fun g' hg' => by injection hg' with hg'; omega), Fr.alloc (Fr.alloc (Fr.refl _ _) _) _, BoxB.nw HB.out (Fr.alloc (Fr.refl _ _) _), rfl, by simp⟩
  case round =>
    obtain ⟨t, GS, b, c, og1, ht, hkx, rfl, rfl, hS, hog, hN, HBx, HG, hGl⟩ := hrel
    obtain ⟨q0, q1, _⟩ := HBx.out.cell
    by_cases hlt : t < L.length
    · obtain ⟨g, c0, hg0, hv0, hc0, d1, d2⟩ := (Nw.sval hN H0.out).get t hlt
      injection hv0 with hv1 _ hv2
      subst hv1 hv2
      have hwo := wo_snoc L x t hlt
      rw [← HG.out] at hwo
      generalize L[t] = p at d1 d2 hwo
      have HW : Hid (wo (L.take (t + 1)) x = GS ++ wo1 x p) := hwo
      have hlz : (t : Int) < (L.length : Int) := by omega
      have KEY : Hid (∀ w', Nw wr w' → w'.cell? ⟨g, t * 2, none⟩ = some (.int .i64 p.1) ∧ w'.cell? ⟨g, t * 2 + 1, none⟩ = some (.int .i64 p.2) ∧ w'.cell? ⟨w.heap.size, 0, none⟩ = some (.int .i64 x.1) ∧ w'.cell? ⟨w.heap.size, 1, none⟩ = some (.int .i64 x.2)) := fun w' hh => ⟨hh.cell d1, hh.cell d2, hh.cell q0, hh.cell q1⟩
      clear hwo HG
      go_wp2_with fail
      go_cut [7] (fun a w' => a = .pointer (some ⟨wr.heap.size, 0, none⟩) ∧ Nw wr w' ∧ Hid (BoxB wr.heap.size (p.1, min p.2 x.1) w') ∧ w'.heap.size = wr.heap.size + 1)
      case first =>
        go_region_held3 (fun w' => w'.cell? ⟨g, t * 2, none⟩ = some (.int .i64 p.1) ∧ w'.cell? ⟨g, t * 2 + 1, none⟩ = some (.int .i64 p.2) ∧ w'.cell? ⟨w.heap.size, 0, none⟩ = some (.int .i64 x.1) ∧ w'.cell? ⟨w.heap.size, 1, none⟩ = some (.int .i64 x.2))
          ((refine KEY.out _ ?_; (repeat (first | exact Fr.refl _ _ | apply Fr.drew | apply Fr.drewN | apply Fr.alloc | refine Fr.setCell ?_ _ _ (.inr (by simp)))); done))
          (first | (go_at_call 52; refine (less_any _ _ _).mono ?_; rintro e w1 ⟨rfl, rfl⟩))
        all_goals
          go_wp2_with fail
          go_meet
          case rel => exact ⟨rfl, by ((repeat (first | exact Fr.refl _ _ | apply Fr.drew | apply Fr.drewN | apply Fr.alloc)); done), BoxB.nw (BoxB.new wr (p.1, min p.2 x.1)) (by ((repeat (first | exact Fr.refl _ _ | apply Fr.drew | apply Fr.drewN | apply Fr.alloc)); done)), by simp⟩
      case rest =>
        obtain ⟨rfl, hNa, HBa, hsa⟩ := hcut
        obtain ⟨wc1, hwc1⟩ : ∃ z, z = wc := ⟨_, rfl⟩
        subst hwc1
        obtain ⟨d1, d2, q0, q1⟩ := KEY.out wc1 hNa
        have KEY2 : Hid (∀ w', Nw wc1 w' → w'.cell? ⟨g, t * 2, none⟩ = some (.int .i64 p.1) ∧ w'.cell? ⟨g, t * 2 + 1, none⟩ = some (.int .i64 p.2) ∧ w'.cell? ⟨w.heap.size, 0, none⟩ = some (.int .i64 x.1) ∧ w'.cell? ⟨w.heap.size, 1, none⟩ = some (.int .i64 x.2)) := fun w' hh => KEY.out w' (hNa.trans hh)
        clear KEY
        go_wp2_with fail
        go_cut [8] (fun a w' => a = .pointer (some ⟨wr.heap.size + 1, 0, none⟩) ∧ Nw wc1 w' ∧ Hid (BoxB (wr.heap.size + 1) (max p.1 x.2, p.2) w') ∧ w'.heap.size = wr.heap.size + 2)
        case first =>
          go_region_held3 (fun w' => w'.cell? ⟨g, t * 2, none⟩ = some (.int .i64 p.1) ∧ w'.cell? ⟨g, t * 2 + 1, none⟩ = some (.int .i64 p.2) ∧ w'.cell? ⟨w.heap.size, 0, none⟩ = some (.int .i64 x.1) ∧ w'.cell? ⟨w.heap.size, 1, none⟩ = some (.int .i64 x.2))
            ((refine KEY2.out _ ?_; (repeat (first | exact Fr.refl _ _ | apply Fr.drew | apply Fr.drewN | apply Fr.alloc | refine Fr.setCell ?_ _ _ (.inr (by simp)))); done))
            (first | (go_at_call 53; refine (more_any _ _ _).mono ?_; rintro e w1 ⟨rfl, rfl⟩))
          all_goals
            go_wp2_with fail
            go_meet
            case rel => exact ⟨by first | rfl | rw [hsa], by ((repeat (first | exact Fr.refl _ _ | apply Fr.drew | apply Fr.drewN | apply Fr.alloc)); done), by (have hbn := BoxB.new wc1 (max p.1 x.2, p.2); rw [hsa] at hbn; exact BoxB.nw hbn (by ((repeat (first | exact Fr.refl _ _ | apply Fr.drew | apply Fr.drewN | apply Fr.alloc)); done))), by simp; omega⟩
        case rest =>
        obtain ⟨rfl, hNb, HBb, hsb⟩ := hcut
        have hNc := Nw.trans hNa hNb
        obtain ⟨d1, d2, q0, q1⟩ := KEY2.out _ hNb
        obtain ⟨a1, a2, a3⟩ := (BoxB.nw HBa.out hNb).cell
        obtain ⟨b1', b2', b3'⟩ := HBb.out.cell
        have a30 := a3 0
        have a31 := a3 1
        have b30 := b3' 0
        have b31 := b3' 1
        have HBA : Hid (BoxB wr.heap.size (p.1, min p.2 x.1) wc) := BoxB.nw HBa.out hNb
        clear KEY2 a3 b3' hNa hNb HBa hsa
        by_cases hP : p.1 < p.2
        · have HP : Hid (p.1 < p.2) := hP
          have tok1 : True := trivial
          go_wp2_with (at_builtin; have _t := tok1; refine wpList_app rfl _ _ rfl (.slice b GS.length c) og1 GS p _ rfl rfl (SVal.kept (X := fun _ => False) hS (by ((repeat (first | exact hNc | apply Fr.drew | apply Fr.drewN | apply Fr.alloc | refine Fr.setCell ?_ _ _ (.inr (by simp)))); done)) (fun _ _ h => h)) (RowB.newAt _ p _ (by first | exact hsb | (simp; done) | (simp; omega))) (fun e => by have := hS.lt _ e; have := hNc.size; omega) (by omega) ?_; intro W1 b1 c1 hA1; clear tok1; obtain ⟨og2, hS2, hog2, hN2, hB2⟩ := gapA hA1 (by ((repeat (first | exact hNc | apply Fr.drew | apply Fr.drewN | apply Fr.alloc | refine Fr.setCell ?_ _ _ (.inr (by simp)))); done)) hN hog HBx.out; have hbb := keepBox (k := wr.heap.size + 1) (y := (0, 0)) hA1 (BoxB.nw (BoxB.put (BoxB.off (BoxB.off HBb.out _ (by omega)) _ (by omega)) (0, 0)) (Fr.alloc (Fr.refl _ _) _)) (fun e => by have := hS.lt _ e; omega); obtain ⟨z1, z2, _⟩ := hbb.cell)
          go_roundg (L.length - (t + 1))
          case measure => omega
          case rel => exact ⟨t + 1, GS ++ [p], b1, c1, og2, by omega, by omega, by go_num, (by first | rfl | (simp only [List.length_append, List.length_cons, List.length_nil])), hS2, hog2, hN2, hB2, by (rw [HW.out]; unfold wo1 sing; rw [if_neg (by have hq := HXX.out; omega), if_pos (by have hq := HP.out; omega)]; exact rfl), by first | omega | (simp only [List.length_append, List.length_cons, List.length_nil]; omega)⟩
        · have HP : Hid (¬ p.1 < p.2) := hP
          go_wp2
          go_roundg (L.length - (t + 1))
          case measure => omega
          case rel => exact ⟨t + 1, GS, b, c, og1, by omega, by omega, by go_num, (by first | rfl | (simp only [List.length_append, List.length_cons, List.length_nil])), SVal.kept (X := fun _ => False) hS (by ((repeat (first | exact hNc | apply Fr.drew | apply Fr.drewN | apply Fr.alloc | refine Fr.setCell ?_ _ _ (.inr (by simp)))); done)) (fun _ _ h => h), hog, Nw.trans hN (by ((repeat (first | exact hNc | apply Fr.drew | apply Fr.drewN | apply Fr.alloc | refine Fr.setCell ?_ _ _ (.inr (by simp)))); done)), BoxB.nw HBx.out (by ((repeat (first | exact hNc | apply Fr.drew | apply Fr.drewN | apply Fr.alloc | refine Fr.setCell ?_ _ _ (.inr (by simp)))); done)), by (rw [HW.out]; unfold wo1 sing; rw [if_neg (by have hq := HXX.out; omega), if_neg (by have hq := HP.out; omega), List.append_nil]; exact rfl), by first | omega | (simp only [List.length_append, List.length_cons, List.length_nil]; omega)⟩
    · obtain rfl : t = L.length := by omega
      have hG : GS = wo L x := by rw [HG.out, List.take_length]
      subst hG
      go_wp2
      go_ret
      exact FIN.out _ _ _ _ hS hog hN
end Go.Proofs.Ytegabbfdnpjkkaa

import Derived.Test.YtegabbfdnpjkkaaRbA
namespace Go.Proofs.Ytegabbfdnpjkkaa
open Go.RowKit
set_option linter.unusedVariables false
set_option linter.unusedSimpArgs false

def refGaps (L : List Rg) (x : Rg) : List Rg := if cb x = true ∧ x.1 < x.2 then L.foldl wo [x] else []

set_option maxHeartbeats 4000000 in
set_option maxRecDepth 100000 in
theorem rgaps_any (lv : Value) (ol : Option Nat) (L : List Rg) (x : Rg) (w : World) (h : SVal lv ol L w) (hL : L.length ≤ 65536) (hb : cb x = true → x.1 < x.2 → ∀ t, t ≤ L.length → ((L.take t).foldl wo [x]).length ≤ 200000) :
    Calls Try.prog 28 #[lv, rv x] w fun e w' => WoRes (refGaps L x) w w' e := by
  obtain ⟨la, lc, rfl, _, hlm⟩ := h.form
  unfold maxLen at hlm
  have H0 : Hid (SVal (.slice la L.length lc) ol L w) := h
  have HBD : Hid (cb x = true → x.1 < x.2 → ∀ t, t ≤ L.length → ((L.take t).foldl wo [x]).length ≤ 200000) := hb
  have HB : Hid (BoxB w.heap.size x (w.alloc (.cells #[.int .i64 x.1, .int .i64 x.2] 49))) := BoxB.new w x
  have HC := fun w => canBe2_any x w
  have HS0 : Hid (SVal (.slice (some ⟨w.heap.size + 1, 0, none⟩) 0 0) (some (w.heap.size + 1)) [] ((w.alloc (.cells #[.int .i64 x.1, .int .i64 x.2] 49)).alloc (.cells #[] 49))) := by
    have hs := SVal.lit0 (w.alloc (.cells #[.int .i64 x.1, .int .i64 x.2] 49))
    rw [World.size_alloc] at hs
    exact hs
  clear h hb
  cases hx : cb x with
  | false =>
    rw [hx] at HC
    have hR : refGaps L x = [] := by unfold refGaps; rw [if_neg (fun h => by rw [hx] at h; cases h.1)]
    rw [hR]
    clear hR hx
    go_enter Try.func28, Try.ntmps28
    go_wp2_with (go_at_call 33; refine (HC _).mono ?_; rintro e w1 ⟨rfl, hN1⟩; obtain ⟨q0, q1, _⟩ := (BoxB.nw HB.out (Nw.trans (by ((repeat (first | exact Fr.refl _ _ | apply Fr.drew | apply Fr.drewN | apply Fr.alloc | refine Fr.setCell ?_ _ _ (.inr (by simp)))); done)) hN1)).cell)
    go_ret
    exact ⟨_, _, rfl, some (w.heap.size + 1), Nw.sval hN1 HS0.out, (fun g hg => by injection hg with hg; omega), Nw.trans (by ((repeat (first | exact Fr.refl _ _ | apply Fr.drew | apply Fr.drewN | apply Fr.alloc | refine Fr.setCell ?_ _ _ (.inr (by simp)))); done)) hN1⟩
  | true =>
    rw [hx] at HC
    by_cases he : x.1 = x.2
    · have hR : refGaps L x = [] := by unfold refGaps; rw [if_neg (fun h => by omega)]
      rw [hR]
      obtain ⟨xa, xb⟩ := x
      have he' : xa = xb := he
      subst he'
      have HB' : Hid (BoxB w.heap.size (xa, xa) (w.alloc (.cells #[.int .i64 xa, .int .i64 xa] 49))) := HB
      have HS0' : Hid (SVal (.slice (some ⟨w.heap.size + 1, 0, none⟩) 0 0) (some (w.heap.size + 1)) [] ((w.alloc (.cells #[.int .i64 xa, .int .i64 xa] 49)).alloc (.cells #[] 49))) := HS0
      clear hR hx he HB HS0
      go_enter Try.func28, Try.ntmps28
      go_wp2_with fail
      refine (HC _).mono ?_
      rintro e w1 ⟨rfl, hN1⟩
      obtain ⟨q0, q1, _⟩ := (BoxB.nw HB'.out (Nw.trans (by ((repeat (first | exact Fr.refl _ _ | apply Fr.drew | apply Fr.drewN | apply Fr.alloc | refine Fr.setCell ?_ _ _ (.inr (by simp)))); done)) hN1)).cell
      go_wp2
      go_ret
      exact ⟨_, _, rfl, some (w.heap.size + 1), Nw.sval hN1 HS0'.out, (fun g hg => by injection hg with hg; omega), Nw.trans (by ((repeat (first | exact Fr.refl _ _ | apply Fr.drew | apply Fr.drewN | apply Fr.alloc | refine Fr.setCell ?_ _ _ (.inr (by simp)))); done)) hN1⟩
    · have hlt : x.1 < x.2 := by
        unfold cb at hx
        simp only [Bool.and_eq_true, decide_eq_true_eq] at hx
        omega
      have HBD2 : Hid (∀ t, t ≤ L.length → ((L.take t).foldl wo [x]).length ≤ 200000) := HBD.out hx hlt
      have hR : refGaps L x = L.foldl wo [x] := by unfold refGaps; rw [if_pos ⟨hx, hlt⟩]
      rw [hR]
      have heb : (x.1 == x.2) = false := by simp [he]
      clear he
      have FIN : Hid (∀ wr b c og1, SVal (.slice b (L.foldl wo [x]).length c) og1 (L.foldl wo [x]) wr → (∀ g', og1 = some g' → w.heap.size ≤ g') → Nw w wr → WoRes (L.foldl wo [x]) w wr (.returned (.slice b (L.foldl wo [x]).length c))) := fun wr b c og1 h1 h2 h3 => ⟨b, c, rfl, og1, h1, h2, h3⟩
      clear hR hx
      go_enter Try.func28, Try.ntmps28
      go_wp2_with (first | (go_at_call 33; refine (HC _).mono ?_; rintro e w1 ⟨rfl, hN1⟩; obtain ⟨q0, q1, _⟩ := (BoxB.nw HB.out (Nw.trans (by ((repeat (first | exact Fr.refl _ _ | apply Fr.drew | apply Fr.drewN | apply Fr.alloc | refine Fr.setCell ?_ _ _ (.inr (by simp)))); done)) hN1)).cell) | (at_builtin; refine wpList_app rfl _ _ rfl (.slice (some ⟨w.heap.size + 1, 0, none⟩) 0 0) (some (w.heap.size + 1)) [] x _ rfl rfl (SVal.kept (X := fun _ => False) (Nw.sval hN1 HS0.out) (by ((repeat (first | exact Fr.refl _ _ | apply Fr.drew | apply Fr.drewN | apply Fr.alloc | refine Fr.setCell ?_ _ _ (.inr (by simp)))); done)) (fun _ _ h => h)) (RowB.newAt _ x _ (by first | (simp; done) | (simp; omega))) (fun e => by have := (Nw.sval hN1 HS0.out).lt _ e; omega) (by simp) ?_; intro W1 b2 c2 hA1; have hA1' := gapA (w := w) (wr := w1) hA1 (by ((repeat (first | exact Fr.refl _ _ | apply Fr.drew | apply Fr.drewN | apply Fr.alloc | refine Fr.setCell ?_ _ _ (.inr (by simp)))); done)) (Nw.trans (by ((repeat (first | exact Fr.refl _ _ | apply Fr.drew | apply Fr.drewN | apply Fr.alloc | refine Fr.setCell ?_ _ _ (.inr (by simp)))); done)) hN1) (fun g' hg' => by injection hg' with hg'; omega) (BoxB.nw HB.out (Nw.trans (by ((repeat (first | exact Fr.refl _ _ | apply Fr.drew | apply Fr.drewN | apply Fr.alloc | refine Fr.setCell ?_ _ _ (.inr (by simp)))); done)) hN1)); have HA : Hid _ := hA1'; clear hA1' hA1))
      go_loopg [5, 6] L.length (fun kx r i wr => ∃ (t : Nat) (GS : List Rg) (b : Option Addr) (c : Nat) (og1 : Option Nat), t ≤ L.length ∧ L.length - t ≤ kx ∧ i = .int .i64 t ∧ r = .slice b GS.length c ∧ Hid (SVal (.slice b GS.length c) og1 GS wr) ∧ (∀ g', og1 = some g' → w.heap.size ≤ g') ∧ Nw w wr ∧ Hid (GS = (L.take t).foldl wo [x]))
      case atStart =>
        obtain ⟨og2, k1, k2, k3, _⟩ := HA.out
        exact ⟨0, [x], b2, c2, og2, Nat.zero_le _, by omega, rfl, rfl, k1, (fun g' hg' => Nat.le_of_lt (k2 g' hg')), k3, rfl⟩
      case round =>
        obtain ⟨t, GS, b, c, og1, ht, hkx, rfl, rfl, HS, hog, hN, HG⟩ := hrel
        clear HA HS0
        by_cases hlt' : t < L.length
        · obtain ⟨g, c0, hg0, hv0, hc0, d1, d2⟩ := (Nw.sval hN H0.out).get t hlt'
          injection hv0 with hv1 _ hv2
          subst hv1 hv2
          have HI : Hid ((L.take (t + 1)).foldl wo [x] = wo GS L[t]) := by rw [foldl_snoc _ _ _ _ hlt', ← HG.out]; exact rfl
          have hGl : GS.length ≤ 200000 := by rw [HG.out]; exact HBD2.out t ht
          generalize L[t] = y at d1 d2 HI
          have hlz : (t : Int) < (L.length : Int) := by omega
          go_wp2_with (go_at_call 42; refine (wo_any _ og1 GS y _ HS.out hGl).mono ?_; rintro e w2 ⟨b3, c3, rfl, hv⟩; have HV : Hid _ := hv; clear hv)
          go_roundg (L.length - (t + 1))
          case measure => omega
          case rel =>
            obtain ⟨og3, k1, k2, k3⟩ := HV.out
            exact ⟨t + 1, wo GS y, b3, c3, og3, by omega, by omega, by go_num, rfl, k1, (fun g' hg' => Nat.le_trans hN.size (k2 g' hg')), hN.trans k3, HI.out.symm⟩
        · obtain rfl : t = L.length := by omega
          obtain rfl : GS = L.foldl wo [x] := by rw [HG.out, List.take_length]
          go_wp2
          go_ret
          exact FIN.out _ _ _ _ HS.out hog hN
end Go.Proofs.Ytegabbfdnpjkkaa

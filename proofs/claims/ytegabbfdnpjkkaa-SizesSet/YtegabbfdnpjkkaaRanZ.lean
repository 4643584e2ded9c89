import Derived.Test.YtegabbfdnpjkkaaRanY
import Derived.BigQuiet
namespace Go.Proofs.Ytegabbfdnpjkkaa
open Go.RowKit
set_option linter.unusedVariables false
set_option linter.unusedSimpArgs false

theorem SVal.getAt {g c : Nat} {og : Option Nat} {L : List Rg} {w : World} (h : SVal (.slice (some ⟨g, 0, none⟩) L.length c) og L w) (t : Nat) (ht : t < L.length) :
    w.cell? ⟨g, t * 2, none⟩ = some (.int .i64 L[t].1) ∧ w.cell? ⟨g, t * 2 + 1, none⟩ = some (.int .i64 L[t].2) := by
  obtain ⟨g3, c3, _, hv, _, z1, z2⟩ := h.get t ht
  injection hv with hv _ _
  injection hv with hv
  injection hv with hv
  subst hv
  exact ⟨z1, z2⟩

set_option maxHeartbeats 8000000 in
set_option maxRecDepth 100000 in
theorem with_yes (lv : Value) (ol : Option Nat) (L : List Rg) (x : Rg) (w : World) (h : SVal lv ol L w) (hL : L.length ≤ 65536) (hxx0 : x.1 < x.2) :
    Calls Try.prog 45 #[lv, rv x] w fun e w' => WoRes (withL L x) w w' e := by
  have HB : Hid (BoxB w.heap.size x _) := BoxB.new w x
  obtain ⟨la, lc, rfl, hlc, hlm⟩ := h.form
  unfold maxLen at hlm
  have CALL : Hid (∀ W, Nw w W → Calls Try.prog 42 #[.slice la L.length lc, rv x] W fun e w' => WoRes (wo L x) W w' e) := fun W hW => wo_any _ ol L x W (Nw.sval hW h) (by omega)
  have FIN : Hid (∀ wr b c og1, SVal (.slice b (withL L x).length c) og1 (withL L x) wr → (∀ g', og1 = some g' → w.heap.size < g') → Nw w wr → WoRes (withL L x) w wr (.returned (.slice b (withL L x).length c))) := fun wr b c og1 h1 h2 h3 => ⟨b, c, rfl, og1, h1, fun g hg => Nat.le_of_lt (h2 g hg), h3⟩
  have hML := wo_len L x
  have HWL : Hid (withL L x = mg (ins x (wo L x))) := rfl
  generalize wo L x = M at CALL hML HWL
  generalize withL L x = RES at FIN HWL ⊢
  clear h
  go_enter Try.func45, Try.ntmps45
  go_wp2_with (go_at_call 42; refine (CALL.out _ (by ((repeat (first | exact Fr.refl _ _ | apply Fr.drew | apply Fr.drewN | apply Fr.alloc | refine Fr.setCell ?_ _ _ (.inr (by simp)))); done))).mono ?_; rintro e w1 ⟨b1, c1, rfl, om, hM1, hom, hN1⟩)
  have HL1 : Hid (SVal (.slice (some ⟨w.heap.size + 1, 0, none⟩) 0 0) (some (w.heap.size + 1)) [] w1) := by
    have hs := SVal.lit0 (w.alloc (.cells #[.int .i64 x.1, .int .i64 x.2] 49))
    rw [World.size_alloc] at hs
    exact Nw.sval hN1 hs
  have hN1' : Nw w w1 := Nw.trans (by ((repeat (first | exact Fr.refl _ _ | apply Fr.drew | apply Fr.drewN | apply Fr.alloc | refine Fr.setCell ?_ _ _ (.inr (by simp)))); done)) hN1
  have hB1 : BoxB w.heap.size x w1 := BoxB.nw HB.out (Nw.trans (by ((repeat (first | exact Fr.refl _ _ | apply Fr.drew | apply Fr.drewN | apply Fr.alloc | refine Fr.setCell ?_ _ _ (.inr (by simp)))); done)) hN1)
  have hd1 : ∀ g', om = some g' → (some (w.heap.size + 1) : Option Nat) ≠ some g' := fun g' hg' he => by
    have := hom g' hg'
    simp only [World.size_alloc] at this
    injection he with he; omega
  clear hN1 HB CALL hom
  go_loopg [5, 6, 8] M.length (fun kx r dn i wr => ∃ (t : Nat) (GS : List Rg) (d : Bool) (b : Option Addr) (c : Nat) (og1 : Option Nat), t ≤ M.length ∧ M.length - t ≤ kx ∧ i = .int .i64 t ∧ dn = .bool d ∧ r = .slice b GS.length c ∧ SVal (.slice b GS.length c) og1 GS wr ∧ (∀ g', og1 = some g' → w.heap.size < g') ∧ Nw w wr ∧ Hid (BoxB w.heap.size x wr) ∧ Hid (SVal (.slice b1 M.length c1) om M wr) ∧ (∀ g', om = some g' → og1 ≠ some g') ∧ Hid ((GS, d) = insA x (M.take t)) ∧ GS.length ≤ 2 * t)
  case atStart =>
    exact ⟨0, [], false, some ⟨w.heap.size + 1, 0, none⟩, 0, some (w.heap.size + 1), Nat.zero_le _, by omega, rfl, rfl, rfl, HL1.out, (fun g' hg' => by injection hg' with hg'; omega), hN1', hB1, hM1, hd1, rfl, by simp⟩
  case round =>
    obtain ⟨t, GS, d, b, c, og1, ht, hkx, rfl, rfl, rfl, hS, hog, hN, HBx, HM, hdj, HG, hGl⟩ := hrel
    obtain ⟨q0, q1, _⟩ := HBx.out.cell
    by_cases hlt : t < M.length
    · obtain ⟨g, c0, hg0, hv0, hc0, d1, d2⟩ := HM.out.get t hlt
      injection hv0 with hv1 _ hv2
      subst hv1 hv2
      have HI : Hid (insA x (M.take (t + 1)) = insS x (GS, d) M[t]) := insA_snoc x M t hlt GS d HG.out
      obtain ⟨y, hyy⟩ : ∃ y, M[t] = y := ⟨_, rfl⟩
      have HYY : Hid (M[t] = y) := hyy
      clear hyy
      rw [HYY.out] at d1 d2 HI
      have hlz : (t : Int) < (M.length : Int) := by omega
      clear HG HL1 hN1' hB1 hd1 hM1
      cases d with
      | true =>
        go_wp2_with fail
        go_quiet (fail)
        go_wp2_with (at_builtin; refine wpList_app rfl _ _ rfl (.slice b GS.length c) og1 GS y _ rfl rfl (SVal.kept (X := fun _ => False) hS (by ((repeat (first | exact Fr.refl _ _ | apply Fr.drew | apply Fr.drewN | apply Fr.alloc | refine Fr.setCell ?_ _ _ (.inr (by simp)))); done)) (fun _ _ h => h)) (RowB.newAt _ y _ (by first | (simp; done) | (simp; omega))) (fun e => by have := hS.lt _ e; omega) (by omega) ?_; intro W1 b2 c2 hA1; obtain ⟨og2, hS2, hog2, hN2, HB2, HM2, hd2⟩ := appK hA1 (by ((repeat (first | exact Fr.refl _ _ | apply Fr.drew | apply Fr.drewN | apply Fr.alloc | refine Fr.setCell ?_ _ _ (.inr (by simp)))); done)) hN hog HBx.out HM.out hdj)
        go_roundg (M.length - (t + 1))
        case measure => omega
        case rel => exact ⟨t + 1, GS ++ [y], true, b2, c2, og2, by omega, by omega, by go_num, rfl, (by first | rfl | (simp only [List.length_append, List.length_cons, List.length_nil])), hS2, hog2, hN2, HB2, HM2, hd2, (by rw [HI.out, insS_t]; exact rfl), by first | omega | (simp only [List.length_append, List.length_cons, List.length_nil]; omega)⟩
      | false =>
        by_cases hy : x.2 ≤ y.1
        · have HY : Hid (x.2 ≤ y.1) := hy
          have tok1 : True := trivial
          have tok2 : True := trivial
          go_wp2_with fail
          go_quiet (fail)
          go_wp2_with (first | (at_builtin; have _t := tok1; refine wpList_app rfl _ _ rfl (.slice b GS.length c) og1 GS x _ rfl rfl (SVal.kept (X := fun _ => False) hS (by ((repeat (first | exact Fr.refl _ _ | apply Fr.drew | apply Fr.drewN | apply Fr.alloc | refine Fr.setCell ?_ _ _ (.inr (by simp)))); done)) (fun _ _ h => h)) (RowB.newAt _ x _ (by first | (simp; done) | (simp; omega))) (fun e => by have := hS.lt _ e; omega) (by omega) ?_; intro W1 b2 c2 hA1; clear tok1; obtain ⟨og2, hS2, hog2, hN2, HB2, HM2, hd2⟩ := appK hA1 (by ((repeat (first | exact Fr.refl _ _ | apply Fr.drew | apply Fr.drewN | apply Fr.alloc | refine Fr.setCell ?_ _ _ (.inr (by simp)))); done)) hN hog HBx.out HM.out hdj; obtain ⟨z1, z2⟩ := HM2.out.getAt t hlt; rw [HYY.out] at z1 z2; have hS2' : SVal (.slice b2 (GS.length + 1) c2) og2 (GS ++ [x]) W1 := (by rw [show GS.length + 1 = (GS ++ [x]).length by simp]; exact hS2)) | (at_builtin; have _t := tok2; refine wpList_app rfl _ _ rfl (.slice b2 (GS.length + 1) c2) og2 (GS ++ [x]) y _ rfl rfl (SVal.kept (X := fun _ => False) hS2' (by ((repeat (first | exact Fr.refl _ _ | apply Fr.drew | apply Fr.drewN | apply Fr.alloc | refine Fr.setCell ?_ _ _ (.inr (by simp)))); done)) (fun _ _ h => h)) (RowB.newAt _ y _ rfl) (fun e => by have := hS2'.lt _ e; omega) (by simp only [List.length_append, List.length_cons, List.length_nil]; omega) ?_; intro W2 b3 c3 hA2; clear tok2; obtain ⟨og3, hS3, hog3, hN3, HB3, HM3, hd3⟩ := appK hA2 (by ((repeat (first | exact Fr.refl _ _ | apply Fr.drew | apply Fr.drewN | apply Fr.alloc | refine Fr.setCell ?_ _ _ (.inr (by simp)))); done)) hN2 hog2 HB2.out HM2.out hd2))
          go_roundg (M.length - (t + 1))
          case measure => omega
          case rel => exact ⟨t + 1, GS ++ [x] ++ [y], true, b3, c3, og3, by omega, by omega, by go_num, rfl, (by first | rfl | (simp only [List.length_append, List.length_cons, List.length_nil])), hS3, hog3, hN3, HB3, HM3, hd3, (by rw [HI.out, insS_y _ _ _ (by have hq := HY.out; omega)]; exact rfl), by first | omega | (simp only [List.length_append, List.length_cons, List.length_nil]; omega)⟩
        · have HY : Hid (¬ x.2 ≤ y.1) := hy
          go_wp2_with fail
          go_quiet (fail)
          go_wp2_with (at_builtin; refine wpList_app rfl _ _ rfl (.slice b GS.length c) og1 GS y _ rfl rfl (SVal.kept (X := fun _ => False) hS (by ((repeat (first | exact Fr.refl _ _ | apply Fr.drew | apply Fr.drewN | apply Fr.alloc | refine Fr.setCell ?_ _ _ (.inr (by simp)))); done)) (fun _ _ h => h)) (RowB.newAt _ y _ (by first | (simp; done) | (simp; omega))) (fun e => by have := hS.lt _ e; omega) (by omega) ?_; intro W1 b2 c2 hA1; obtain ⟨og2, hS2, hog2, hN2, HB2, HM2, hd2⟩ := appK hA1 (by ((repeat (first | exact Fr.refl _ _ | apply Fr.drew | apply Fr.drewN | apply Fr.alloc | refine Fr.setCell ?_ _ _ (.inr (by simp)))); done)) hN hog HBx.out HM.out hdj)
          go_roundg (M.length - (t + 1))
          case measure => omega
          case rel => exact ⟨t + 1, GS ++ [y], false, b2, c2, og2, by omega, by omega, by go_num, rfl, (by first | rfl | (simp only [List.length_append, List.length_cons, List.length_nil])), hS2, hog2, hN2, HB2, HM2, hd2, (by rw [HI.out, insS_f _ _ _ (by have hq := HY.out; omega)]; exact rfl), by first | omega | (simp only [List.length_append, List.length_cons, List.length_nil]; omega)⟩
    · obtain rfl : t = M.length := by omega
      rw [show M.take M.length = M from List.take_length] at HG
      have HR : Hid (ins x M = if d = true then GS else GS ++ [x]) := by
        unfold ins; rw [← HG.out]; exact rfl
      have hRl : (ins x M).length ≤ 2 * M.length + 1 := by rw [HR.out]; split <;> (try simp only [List.length_append, List.length_cons, List.length_nil]) <;> omega
      generalize ins x M = R at HR hRl HWL
      clear HG HL1 hN1' hB1 hd1 hM1 HM hdj
      go_upto_if 52 with fail
      go_cut [5] (fun r w' => ∃ b c og1, r = .slice b R.length c ∧ Hid (SVal (.slice b R.length c) og1 R w') ∧ Nw w w' ∧ Hid (BoxB w.heap.size x w'))
      case first =>
        cases d with
        | true =>
          obtain rfl : R = GS := HR.out
          go_wp2
          go_meet
          case rel => exact ⟨b, c, og1, rfl, hS, hN, HBx⟩
        | false =>
          obtain rfl : R = GS ++ [x] := HR.out
          go_wp2_with (at_builtin; refine wpList_app rfl _ _ rfl (.slice b GS.length c) og1 GS x _ rfl rfl (SVal.kept (X := fun _ => False) hS (by ((repeat (first | exact Fr.refl _ _ | apply Fr.drew | apply Fr.drewN | apply Fr.alloc | refine Fr.setCell ?_ _ _ (.inr (by simp)))); done)) (fun _ _ h => h)) (RowB.newAt _ x _ (by first | (simp; done) | (simp; omega))) (fun e => by have := hS.lt _ e; omega) (by omega) ?_; intro W1 b2 c2 hA1; obtain ⟨og2, hS2, hog2, hN2, HB2⟩ := gapA hA1 (by ((repeat (first | exact Fr.refl _ _ | apply Fr.drew | apply Fr.drewN | apply Fr.alloc | refine Fr.setCell ?_ _ _ (.inr (by simp)))); done)) hN hog HBx.out)
          go_meet
          case rel => exact ⟨b2, c2, og2, (by first | rfl | (simp only [List.length_append, List.length_cons, List.length_nil])), hS2, hN2, HB2⟩
      case rest =>
        obtain ⟨bR, cR, oR, rfl, HSR, hNc, HBc⟩ := hcut
        clear HR hS hog hN HBx q0 q1 hGl
        have HLl : Hid (SVal (.slice (some ⟨wc.heap.size, 0, none⟩) 0 0) (some wc.heap.size) [] (wc.alloc (.cells #[] 49))) := SVal.lit0 wc
        have hsz : w.heap.size < wc.heap.size := (Array.getElem?_eq_some_iff.1 HBc.out).1
        go_wp2_with fail
        go_loopg [9, 10] R.length (fun kx o i wr => ∃ (t : Nat) (O : List Rg) (b : Option Addr) (c : Nat) (og1 : Option Nat), t ≤ R.length ∧ R.length - t ≤ kx ∧ i = .int .i64 t ∧ o = .slice b O.length c ∧ SVal (.slice b O.length c) og1 O wr ∧ (∀ g', og1 = some g' → w.heap.size < g') ∧ Nw w wr ∧ Hid (BoxB w.heap.size x wr) ∧ Hid (SVal (.slice bR R.length cR) oR R wr) ∧ (∀ g', oR = some g' → og1 ≠ some g') ∧ Hid (O = mg (R.take t)) ∧ O.length ≤ t)
        case atStart =>
          exact ⟨0, [], some ⟨wc.heap.size, 0, none⟩, 0, some wc.heap.size, Nat.zero_le _, by omega, rfl, rfl, HLl.out, (fun g' hg' => by injection hg' with hg'; omega), Nw.trans hNc (by ((repeat (first | exact Fr.refl _ _ | apply Fr.drew | apply Fr.drewN | apply Fr.alloc | refine Fr.setCell ?_ _ _ (.inr (by simp)))); done)), BoxB.nw HBc.out (by ((repeat (first | exact Fr.refl _ _ | apply Fr.drew | apply Fr.drewN | apply Fr.alloc | refine Fr.setCell ?_ _ _ (.inr (by simp)))); done)), Nw.sval (by ((repeat (first | exact Fr.refl _ _ | apply Fr.drew | apply Fr.drewN | apply Fr.alloc | refine Fr.setCell ?_ _ _ (.inr (by simp)))); done)) HSR.out, (fun g' hg' he => by have := HSR.out.lt g' hg'; injection he with he; omega), rfl, by simp⟩
        case round =>
          obtain ⟨t, O, b', c', og1', ht, hkx, rfl, rfl, hS, hog, hN, HBx, HM, hdj, HG, hGl⟩ := hrel
          clear HLl hNc HBc HSR
          by_cases hlt : t < R.length
          · obtain ⟨g, c0, hg0, hv0, hc0, d1, d2⟩ := HM.out.get t hlt
            injection hv0 with hv1 _ hv2
            subst hv1 hv2
            have HI : Hid (mg (R.take (t + 1)) = mgS O R[t]) := by unfold mg; rw [foldl_snoc _ _ _ _ hlt, HG.out]; exact rfl
            generalize R[t] = y at d1 d2 HI
            have hlz : (t : Int) < (R.length : Int) := by omega
            clear HG
            by_cases hn : 0 < O.length
            · obtain ⟨g2, c2, hg2, hv2, hc2, e1, e2⟩ := hS.get (O.length - 1) (by omega)
              subst hg2
              injection hv2 with hv1 _ hv2
              subst hv1 hv2
              have hfz := hS.frozen ((O.length - 1) * 2 + 1)
              have HI2 : Hid (mgS O y = if (O[O.length - 1]'(by omega)).2 = y.1 then O.set (O.length - 1) ((O[O.length - 1]'(by omega)).1, y.2) else O ++ [y]) := by unfold mgS; rw [dif_pos hn]; exact rfl
              have HSS : Hid (∀ W, Nw wr W → SVal (.slice (some ⟨g2, 0, none⟩) O.length c') (some g2) (O.set (O.length - 1) ((O[O.length - 1]'(by omega)).1, y.2)) (W.setCell ⟨g2, (O.length - 1) * 2 + 1, none⟩ (.int .i64 y.2))) := fun W hW => (Nw.sval hW hS).setTo (O.length - 1) (by omega) y.2
              generalize O[O.length - 1]'(by omega) = z at e1 e2 HI2 HSS
              have hnz : (0 : Int) < (O.length : Int) := by omega
              by_cases hz : z.2 = y.1
              · have HZ : Hid (z.2 = y.1) := hz
                have hzb : (z.2 == y.1) = true := by simp [hz]
                clear hz
                go_wp2_with fail
                go_quiet (fail)
                go_wp2
                go_roundg (R.length - (t + 1))
                case measure => omega
                case rel => exact ⟨t + 1, O.set (O.length - 1) (z.1, y.2), some ⟨g2, 0, none⟩, c', some g2, by omega, by omega, by go_num, (by rw [List.length_set]), (by rw [List.length_set]; exact HSS.out _ (by ((repeat (first | exact Fr.refl _ _ | apply Fr.drew | apply Fr.drewN | apply Fr.alloc | refine Fr.setCell ?_ _ _ (.inr (by simp)))); done))), hog, Fr.setCell (Fr.drewN hN _) _ _ (.inr (Nat.le_of_lt (hog g2 rfl))), BoxB.off (BoxB.nw HBx.out (by ((repeat (first | exact Fr.refl _ _ | apply Fr.drew | apply Fr.drewN | apply Fr.alloc | refine Fr.setCell ?_ _ _ (.inr (by simp)))); done))) _ (fun e => by have := hog g2 rfl; omega), SVal.kept (X := fun k => k = g2) HM.out (Fr.setCell (Fr.drewN (Fr.refl _ _) _) _ _ (.inl rfl)) (fun k hk e => hdj k hk (by rw [e])), hdj, (by rw [HI.out, HI2.out, if_pos HZ.out]; exact rfl), by first | (rw [List.length_set]; omega) | (simp only [List.length_set]; omega)⟩
              · have HZ : Hid (¬ z.2 = y.1) := hz
                have hzb : (z.2 == y.1) = false := by simp [hz]
                go_wp2_with fail
                go_quiet (fail)
                go_wp2_with (at_builtin; refine wpList_app rfl _ _ rfl (.slice (some ⟨g2, 0, none⟩) O.length c') (some g2) O y _ rfl rfl (SVal.kept (X := fun _ => False) hS (by ((repeat (first | exact Fr.refl _ _ | apply Fr.drew | apply Fr.drewN | apply Fr.alloc | refine Fr.setCell ?_ _ _ (.inr (by simp)))); done)) (fun _ _ h => h)) (RowB.newAt _ y _ (by first | (simp; done) | (simp; omega))) (fun e => by have := hS.lt _ e; omega) (by omega) ?_; intro W1 b2 c2 hA1; obtain ⟨og2, hS2, hog2, hN2, HB2, HM2, hd2⟩ := appK hA1 (by ((repeat (first | exact Fr.refl _ _ | apply Fr.drew | apply Fr.drewN | apply Fr.alloc | refine Fr.setCell ?_ _ _ (.inr (by simp)))); done)) hN hog HBx.out HM.out hdj)
                go_roundg (R.length - (t + 1))
                case measure => omega
                case rel => exact ⟨t + 1, O ++ [y], b2, c2, og2, by omega, by omega, by go_num, (by first | rfl | (simp only [List.length_append, List.length_cons, List.length_nil])), hS2, hog2, hN2, HB2, HM2, hd2, (by rw [HI.out, HI2.out, if_neg HZ.out]; exact rfl), by first | omega | (simp only [List.length_append, List.length_cons, List.length_nil]; omega)⟩
            · have hO : O = [] := List.eq_nil_of_length_eq_zero (by omega)
              subst hO
              go_wp2_with fail
              go_quiet (fail)
              go_wp2_with (at_builtin; refine wpList_app rfl _ _ rfl (.slice b' 0 c') og1' [] y _ rfl rfl (SVal.kept (X := fun _ => False) hS (by ((repeat (first | exact Fr.refl _ _ | apply Fr.drew | apply Fr.drewN | apply Fr.alloc | refine Fr.setCell ?_ _ _ (.inr (by simp)))); done)) (fun _ _ h => h)) (RowB.newAt _ y _ (by first | (simp; done) | (simp; omega))) (fun e => by have := hS.lt _ e; omega) (by simp) ?_; intro W1 b2 c2 hA1; obtain ⟨og2, hS2, hog2, hN2, HB2, HM2, hd2⟩ := appK hA1 (by ((repeat (first | exact Fr.refl _ _ | apply Fr.drew | apply Fr.drewN | apply Fr.alloc | refine Fr.setCell ?_ _ _ (.inr (by simp)))); done)) hN hog HBx.out HM.out hdj)
              go_roundg (R.length - (t + 1))
              case measure => omega
              case rel => exact ⟨t + 1, [y], b2, c2, og2, by omega, by omega, by go_num, (by first | rfl | (simp only [List.length_append, List.length_cons, List.length_nil])), hS2, hog2, hN2, HB2, HM2, hd2, (by rw [HI.out]; exact rfl), by first | omega | (simp only [List.length_append, List.length_cons, List.length_nil]; omega)⟩
          · obtain rfl : t = R.length := by omega
            obtain rfl : RES = O := by rw [HWL.out, HG.out, List.take_length]
            go_wp2
            go_ret
            exact FIN.out _ _ _ _ hS hog hN
end Go.Proofs.Ytegabbfdnpjkkaa

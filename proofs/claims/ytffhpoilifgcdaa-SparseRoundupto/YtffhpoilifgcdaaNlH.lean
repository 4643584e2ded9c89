import Derived.Test.YtffhpoilifgcdaaNlG
namespace Go.Proofs.Ytffhpoilifgcdaa
open Go.RowKit
set_option linter.unusedVariables false
/-! ### SparseMore -/
def cov1 (x : Nat × Nat) (y : Nat × Nat) : Bool := decide (y.1 ≤ x.1) && decide (x.2 ≤ y.2)
theorem any_take_succ {α : Type} (p : α → Bool) (l : List α) (k : Nat) (h : k < l.length) : (l.take (k + 1)).any p = ((l.take k).any p || p l[k]) := by
  rw [List.take_add_one, List.getElem?_eq_getElem h, List.any_append]
  simp
theorem rgN_at {X : Nat → Prop} {a : Option Addr} {n c : Nat} {l : List (Nat × Nat)} {w : World} (h : SlR RG X (.slice a n c) (rgL l) w) (i : Nat) (hx : i < l.length) : ∃ g o, a = some ⟨g, o, none⟩ ∧ w.cell? ⟨g, o + i * 2, none⟩ = some (.int .i64 (l[i].1 : Int)) ∧ w.cell? ⟨g, o + i * 2 + 1, none⟩ = some (.int .i64 (l[i].2 : Int)) := by
  obtain ⟨g, o, e, _, h0, h1⟩ := rg_at h i (by rw [rgL_len]; exact hx)
  have e2 : (rgL l)[i]'(by rw [rgL_len]; exact hx) = ((l[i].1 : Int), (l[i].2 : Int)) := by simp [rgL]
  rw [e2] at h0 h1
  exact ⟨g, o, e, h0, h1⟩
set_option maxHeartbeats 16000000 in
set_option maxRecDepth 100000 in
theorem more_walk (w : World) (a : Option Addr) (n c : Nat) (b : List By) (hb : Sl (fun _ => False) (.slice a n c) b w) (hn : n ≤ 1048576) (z1 z2 : Int) (hz1 : -9223372036854775808 ≤ z1 ∧ z1 ≤ 9223372036854775807) (hz2 : -9223372036854775808 ≤ z2 ∧ z2 ≤ 9223372036854775807) :
    Calls Try.prog 5 #[.slice a n c, .int .i64 z1, .int .i64 z2] w fun e w' => e = .returned (.bool true) ∧ Nw w w' := by
  obtain ⟨P, hP⟩ : ∃ P : Ending → World → Prop, P = fun e w' => e = .returned (.bool true) ∧ Nw w w' := ⟨_, rfl⟩
  rw [← hP]
  have HF : Hid (∀ V, Nw w V → P (.returned (.bool true)) V) := fun V hV => by rw [hP]; exact ⟨rfl, hV⟩
  clear hP
  obtain ⟨hbn, k1, k2⟩ := slx_len hb
  have HCP : Hid (∀ V, Nw w V → ∃ g c' W, Hid (∀ ty, (Builtin.append_ #[22, 22] ty #[.slice (some ⟨V.heap.size, 0, none⟩) 0 0, .slice a n c]).run Try.prog (V.alloc (.cells #[] 5)) = .ok (.slice (some ⟨g, 0, none⟩) n c') W) ∧ Hid (Nw w W ∧ Nw V W ∧ ∀ z, -9223372036854775808 ≤ z ∧ z ≤ 9223372036854775807 → Calls Try.prog 7 #[.slice (some ⟨g, 0, none⟩) n c', .int .i64 z] W (FdA W b (max z 1).toNat))) := fun V hV => by
    obtain ⟨g, c', W, q1, q2, q3, q4⟩ := copyX V (.slice a n c) b (hb.nw hV) (by omega)
    rw [hbn] at q1 q2
    exact ⟨g, c', W, q1, hV.trans q3, q3, fun z hz => find_any W z hz _ _ _ b q2.old (by omega)⟩
  have HBN := tHid hbn
  clear hb hbn
  go_enter Try.func5, Try.ntmps5
  go_upto_if 15 with fail
  go_cut [1, 2] (fun p q wx => ∃ x1 x2 : Int, p = .int .i64 x1 ∧ q = .int .i64 x2 ∧ wx = w ∧ Hid (x1 ≤ x2 ∧ (-9223372036854775808 ≤ x1 ∧ x1 ≤ 9223372036854775807) ∧ (-9223372036854775808 ≤ x2 ∧ x2 ≤ 9223372036854775807)))
  case first =>
    by_cases hlt : z2 < z1
    · go_wp2_with fail
      go_meet
      exact ⟨_, _, rfl, rfl, rfl, by omega, hz2, hz1⟩
    · go_wp2_with fail
      go_meet
      exact ⟨_, _, rfl, rfl, rfl, by omega, hz1, hz2⟩
  case rest =>
  obtain ⟨x1, x2, rfl, rfl, hwc, HX⟩ := hcut
  have hwc' := hwc.symm
  subst hwc'
  clear hwc
  obtain ⟨hx12, hx1, hx2⟩ := HX.out
  obtain ⟨g1, c1, W1, HA1, HB1⟩ := HCP.out w (Fr.refl _ _)
  have HC1 := tHid (HB1.out.2.2 x1 hx1)
  have HX2 := tHid hx2
  have HN12 : Hid ((max x1 1).toNat ≤ (max x2 1).toNat) := by show _ ≤ _; omega
  clear HX hx12 hx1 hx2 hz1 hz2
  unfold FdA at HC1
  go_upto_region 4 with (first
    | (at_builtin; refine Lib.wpList_append_run _ rfl _ _ 22 22 rfl (.slice (some ⟨w.heap.size, 0, none⟩) 0 0) (.slice a n c) (by first | rfl | simp [Act.eval]) (by first | rfl | simp [Act.eval]) _ _ (HA1.out _) ?_)
    | (at_builtin; refine Lib.wpList_append_run _ rfl _ _ 22 22 rfl (.slice (some ⟨w3.heap.size, 0, none⟩) 0 0) (.slice a n c) (by first | rfl | simp [Act.eval]) (by first | rfl | simp [Act.eval]) _ _ (HA2.out _) ?_)
    | (go_at_call 7; with_reducible refine (HB2.out.2.2 x2 HX2.out).mono ?_; unfold FdA; rintro e w5 ⟨a2, m2, d2, l2, rfl, H2⟩)
    | (go_at_call 7; with_reducible refine HC1.out.mono ?_; rintro e w3 ⟨a1, m1, d1, l1, rfl, H1⟩; obtain ⟨g2, c2, W2, HA2, HB2⟩ := HCP.out w3 (HB1.out.1.trans H1.out.1)))
  obtain ⟨n1, f1, hm1, p1⟩ := H1.out
  obtain ⟨n2, f2, hm2, p2⟩ := H2.out
  have hNw5 : Nw w w5 := HB2.out.1.trans n2
  have h35 : Nw w3 w5 := HB2.out.2.1.trans n2
  have HL1 : Hid (∀ V, Nw w5 V → ∀ i (h : i < l1.length), ∃ g o, a1 = some ⟨g, o, none⟩ ∧ V.cell? ⟨g, o + i * 2, none⟩ = some (.int .i64 (l1[i].1 : Int)) ∧ V.cell? ⟨g, o + i * 2 + 1, none⟩ = some (.int .i64 (l1[i].2 : Int))) := fun V hV i h => rgN_at ((p1.slr.nw h35).nw hV) i h
  have HL2 : Hid (∀ V, Nw w5 V → ∀ i (h : i < l2.length), ∃ g o, a2 = some ⟨g, o, none⟩ ∧ V.cell? ⟨g, o + i * 2, none⟩ = some (.int .i64 (l2[i].1 : Int)) ∧ V.cell? ⟨g, o + i * 2 + 1, none⟩ = some (.int .i64 (l2[i].2 : Int))) := fun V hV i h => rgN_at (p2.slr.nw hV) i h
  have HWI : Hid (∀ x ∈ l1, l2.any (cov1 x) = true) := fun x hx => by
    obtain ⟨y, hy, e1, e2⟩ := f1.within f2 HN12.out x hx
    exact List.any_eq_true.2 ⟨y, hy, by unfold cov1; rw [decide_eq_true e1, decide_eq_true e2]; rfl⟩
  have HNW := tHid hNw5
  have hq1 := f1.len
  have hq2 := f2.len
  have hb5 := HBN.out
  have kk1 : m1 ≤ 1048577 := by omega
  have kk2 : m2 ≤ 1048577 := by omega
  have hd1 : m1 ≤ d1 ∧ d1 < 9223372036854775808 := by obtain ⟨og, o1, _⟩ := p1; obtain ⟨a', c', e, q1, q2⟩ := o1.form; injection e with e1 e2 e3; omega
  have hd2 : m2 ≤ d2 ∧ d2 < 9223372036854775808 := by obtain ⟨og, o1, _⟩ := p2; obtain ⟨a', c', e, q1, q2⟩ := o1.form; injection e with e1 e2 e3; omega
  obtain ⟨hd11, hd12⟩ := hd1
  obtain ⟨hd21, hd22⟩ := hd2
  have HM := tHid (And.intro hm1 hm2)
  clear n1 f1 hm1 p1 n2 f2 hm2 p2 hNw5 h35 hq1 hq2 hb5 H1 H2 HA1 HB1 HA2 HB2 HC1 HX2 HN12
  go_upto_region 5 with fail
  go_loopg [9] m1 (fun kx i wr => ∃ (I : Nat), I ≤ m1 ∧ m1 - I ≤ kx ∧ i = .int .i64 I ∧ Hid (Nw w5 wr))
  case atStart => exact ⟨0, by omega, by omega, rfl, Fr.refl _ _⟩
  case round =>
    obtain ⟨I, hI, hkx, rfl, HI⟩ := hrel
    by_cases hlt : I < m1
    · have hlt1 : I < l1.length := by have := HM.out; omega
      obtain ⟨x, hx⟩ : ∃ x, l1[I] = x := ⟨_, rfl⟩
      have HXW := tHid (HWI.out x (by rw [← hx]; exact List.getElem_mem hlt1))
      have HXC : Hid (∀ V, Nw w5 V → ∃ g o, a1 = some ⟨g, o, none⟩ ∧ V.cell? ⟨g, o + I * 2, none⟩ = some (.int .i64 (x.1 : Int)) ∧ V.cell? ⟨g, o + I * 2 + 1, none⟩ = some (.int .i64 (x.2 : Int))) := fun V hV => by rw [← hx]; exact HL1.out V hV I hlt1
      clear hx hlt1
      go_upto_region 9 with fail
      go_loopg [10, 11] m2 (fun ky inn k wq => ∃ (K : Nat), K ≤ m2 ∧ m2 - K ≤ ky ∧ inn = .bool ((l2.take K).any (cov1 x)) ∧ k = .int .i64 K ∧ Hid (Nw w5 wq))
      case atStart => exact ⟨0, by omega, by omega, rfl, rfl, HI⟩
      case round =>
        obtain ⟨K, hK, hky, hinn, rfl, HK⟩ := hrel
        by_cases hlt2 : K < m2
        · have hlt2' : K < l2.length := by have := HM.out; omega
          obtain ⟨gx, ox, rfl, cx0, cx1⟩ := HXC.out wr HK.out
          obtain ⟨gy, oy, rfl, cy0, cy1⟩ := HL2.out wr HK.out K hlt2'
          have hsucc := any_take_succ (cov1 x) l2 K hlt2'
          have hcov : cov1 x l2[K] = (decide ((l2[K].1 : Int) ≤ (x.1 : Int)) && decide ((x.2 : Int) ≤ (l2[K].2 : Int))) := by
            unfold cov1
            congr 1
            · exact decide_eq_decide.2 (by omega)
            · exact decide_eq_decide.2 (by omega)
          rw [hcov] at hsucc
          generalize (l2[K].1 : Int) = y1 at *
          generalize (l2[K].2 : Int) = y2 at *
          generalize (x.1 : Int) = X1 at *
          generalize (x.2 : Int) = X2 at *
          generalize hB : (l2.take K).any (cov1 x) = B at *
          generalize hB2 : (l2.take (K + 1)).any (cov1 x) = B2 at *
          have HN : Hid (∀ V Q, Nw wr V → Q = Value.bool B2 → ∃ K', K' = K + 1 ∧ Q = .bool ((l2.take K').any (cov1 x)) ∧ Hid (Nw w5 V)) := fun V Q hV hQ => ⟨K + 1, rfl, by rw [hB2]; exact hQ, HK.out.trans hV⟩
          have HS := tHid hsucc
          subst hinn
          clear hsucc hcov hB hB2 HXC HL2 HXW HF HCP HWI HL1 HNW HM hlt2'
          cases B with
          | true =>
            go_upto_region 11 with fail
            go_quiet (fail)
            go_wp2_with fail
            go_roundg (m2 - (K + 1))
            case measure => omega
            case rel =>
              obtain ⟨K', e, h1, h2⟩ := HN.out _ (.bool true) ((Fr.refl _ _).drewN _) (by rw [HS.out]; rfl)
              subst e
              exact ⟨K + 1, by omega, by omega, h1, by first | rfl | (congr 1), h2⟩
          | false =>
            by_cases e1 : y1 ≤ X1
            · have d1 := decide_eq_true e1
              by_cases e2 : X2 ≤ y2
              · have d2 := decide_eq_true e2
                go_upto_region 11 with fail
                go_quiet (fail)
                go_wp2_with fail
                go_roundg (m2 - (K + 1))
                case measure => omega
                case rel =>
                  obtain ⟨K', e, h1, h2⟩ := HN.out _ (.bool true) ((Fr.refl _ _).drewN _) (by rw [HS.out, d1, d2]; rfl)
                  subst e
                  exact ⟨K + 1, by omega, by omega, h1, by first | rfl | (congr 1), h2⟩
              · have d2 := decide_eq_false e2
                go_upto_region 11 with fail
                go_quiet (fail)
                go_wp2_with fail
                go_roundg (m2 - (K + 1))
                case measure => omega
                case rel =>
                  obtain ⟨K', e, h1, h2⟩ := HN.out _ (.bool false) ((Fr.refl _ _).drewN _) (by rw [HS.out, d1, d2]; rfl)
                  subst e
                  exact ⟨K + 1, by omega, by omega, h1, by first | rfl | (congr 1), h2⟩
            · have d1 := decide_eq_false e1
              go_upto_region 11 with fail
              go_quiet (fail)
              go_wp2_with fail
              go_roundg (m2 - (K + 1))
              case measure => omega
              case rel =>
                obtain ⟨K', e, h1, h2⟩ := HN.out _ (.bool false) ((Fr.refl _ _).drewN _) (by rw [HS.out, d1]; rfl)
                subst e
                exact ⟨K + 1, by omega, by omega, h1, by first | rfl | (congr 1), h2⟩
        · obtain rfl : K = m2 := by omega
          rw [List.take_of_length_le (by have := HM.out; omega), HXW.out] at hinn
          subst hinn
          clear HXC HL2 HXW HF HCP HWI HL1 HNW HM
          go_wp2_with fail
          go_roundg (m1 - (I + 1))
          case measure => omega
          case rel => exact ⟨I + 1, by omega, by omega, by first | rfl | (congr 1), HK⟩
    · obtain rfl : I = m1 := by omega
      obtain ⟨g3, c3, W3, HA3, HB3⟩ := HCP.out wr (HNW.out.trans HI.out)
      have hz3 : -9223372036854775808 ≤ (n : Int) + 1 ∧ (n : Int) + 1 ≤ 9223372036854775807 := by omega
      have HC3 := tHid (HB3.out.2.2 ((n : Int) + 1) hz3)
      have hmx : (max ((n : Int) + 1) 1).toNat = n + 1 := by omega
      rw [hmx] at HC3
      have HB4 := tHid HB3.out.1
      unfold FdA at HC3
      clear HL1 HL2 HWI HNW HM HI HCP HB3 hmx hz3
      go_upto_region 15 with (first
        | (at_builtin; refine Lib.wpList_append_run _ rfl _ _ 22 22 rfl (.slice (some ⟨wr.heap.size, 0, none⟩) 0 0) (.slice a n c) (by first | rfl | simp [Act.eval]) (by first | rfl | simp [Act.eval]) _ _ (HA3.out _) ?_)
        | (go_at_call 7; with_reducible refine HC3.out.mono ?_; rintro e w7 ⟨a3, m3, d3, l3, rfl, H3⟩))
      obtain ⟨n3, f3, hm3, p3⟩ := H3.out
      have HF2 := tHid (HF.out w7 (HB4.out.trans n3))
      by_cases hn0 : n = 0
      · subst hn0
        have hb0 : b = [] := List.eq_nil_of_length_eq_zero HBN.out
        subst hb0
        have := f3.none
        subst this
        obtain rfl : m3 = 0 := hm3.symm
        clear HF HB4 HC3 HA3 H3 n3 f3 p3 HBN hm3
        go_wp2_with fail
        first | exact HF2.out | (go_ret; exact HF2.out)
      · have hw := f3.whole (by rw [HBN.out]; omega) (by rw [HBN.out]; omega)
        rw [HBN.out] at hw
        subst hw
        obtain rfl : m3 = 1 := hm3.symm
        obtain ⟨g4, o4, rfl, q0, q1⟩ := rgN_at p3.slr 0 (by simp)
        simp only [List.getElem_cons_zero, Nat.zero_mul, Nat.add_zero] at q0 q1
        have hd3 : 1 ≤ d3 ∧ d3 < 9223372036854775808 := by obtain ⟨og, o1, _⟩ := p3; obtain ⟨a', c', e, q1, q2⟩ := o1.form; injection e with e1 e2 e3; omega
        obtain ⟨hd31, hd32⟩ := hd3
        have hni : ¬ ((n : Int) = 0) := by omega
        clear HF HB4 HC3 HA3 H3 n3 f3 p3 HBN hm3
        go_wp2_with fail
        first | exact HF2.out | (go_ret; exact HF2.out)
end Go.Proofs.Ytffhpoilifgcdaa

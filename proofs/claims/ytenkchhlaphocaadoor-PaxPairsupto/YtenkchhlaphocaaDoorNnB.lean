import Derived.Test.YtenkchhlaphocaaDoorNnA
namespace Go.Proofs.YtenkchhlaphocaaDoor
open Go.RowKit
set_option linter.unusedVariables false
/-! ### PaxPairs' walk -/
theorem merge_len (b a : List Pr) : (mergeV b a).length ≤ b.length + a.length := by
  have h : ∀ (r out : List Pr), (mrg r out).length ≤ r.length + out.length := fun r => by
    induction r with
    | nil => intro out; simp [mrg]
    | cons x r ih =>
      intro out
      rw [mrg]
      split
      · have := ih (insP x out)
        rw [insP_len] at this
        simp only [List.length_cons]; omega
      · have := ih out
        simp only [List.length_cons]; omega
  have := h (b ++ a) []
  rw [List.length_append, List.length_nil] at this
  unfold mergeV
  omega
set_option maxHeartbeats 16000000 in
set_option maxRecDepth 100000 in
theorem pairs_walk (w : World) (hE : EnvT w) (x : Option Addr) (n c : Nat) (b : List Pr) (hb : SlR RP (fun _ => False) (.slice x n c) b w) (hbw : wpr b ≤ 1048576) (x2 : Option Addr) (n2 c2 : Nat) (a : List Pr) (ha : SlR RP (fun _ => False) (.slice x2 n2 c2) a w) (haw : wpr a ≤ 1048576) (k : Bs) :
    Calls Tryd.prog 3 #[.slice x n c, .slice x2 n2 c2, .string (str k)] w fun e w' => e = .returned (.bool true) ∧ Nw w w' := by
  obtain ⟨P, hP⟩ : ∃ P : Ending → World → Prop, P = fun e w' => e = .returned (.bool true) ∧ Nw w w' := ⟨_, rfl⟩
  rw [← hP]
  have HF : Hid (∀ V, Nw w V → P (.returned (.bool true)) V) := fun V hV => by rw [hP]; exact ⟨rfl, hV⟩
  clear hP
  have hwb := wpr_wt b
  have hwa := wpr_wt a
  have hlb := wpr_len b
  have hla := wpr_len a
  obtain ⟨a', c', e, m1, m2, _⟩ := hb.form
  injection e with e1 e2 e3
  subst e1 e2 e3
  obtain ⟨a', c', e, m3, m4, _⟩ := ha.form
  injection e with e1 e2 e3
  subst e1 e2 e3
  have hpl : (prL b).length ≤ 100000000 := by have := prL_len b; omega
  have hkeys : ∀ x ∈ b ++ a, x.1.length ≤ 140737488351232 := fun x hx => by
    rcases List.mem_append.1 hx with h | h
    · have := wpr_mem h; omega
    · have := wpr_mem h; omega
  have HH1 := tHid (hand_any w _ b hb (by omega))
  have HH2 : Hid (∀ V, Nw w V → Calls Tryd.prog 7 #[.slice x2 a.length c2] V fun e W => ∃ v, e = .returned v ∧ Hid (Nw V W ∧ ∃ g, V.heap.size ≤ g ∧ OwR RP g v (a ++ [BH]) W)) := fun V hV => hand_any V _ a (ha.nw hV) (by omega)
  have HB := tHid hb
  have HA := tHid ha
  have HE := tHid hE
  clear hb ha hE
  go_enter Tryd.func3, Tryd.ntmps3
  go_upto_region 2 with (first
    | (go_at_call 7; with_reducible refine HH1.out.mono ?_; rintro e w1 ⟨v1, rfl, H1⟩)
    | (go_at_call 7; with_reducible refine (HH2.out _ H1.out.1).mono ?_; rintro e w2 ⟨v2, rfl, H2⟩))
  obtain ⟨hN1, g1, hg1, ho1⟩ := H1.out
  obtain ⟨hN2, g2, hg2, ho2⟩ := H2.out
  have ho1' := ho1.nw hN2
  obtain ⟨c3, rfl, m5, m6⟩ := ho1'.form
  obtain ⟨c4, rfl, m7, m8⟩ := ho2.form
  have hbl : (b ++ [BH]).length = b.length + 1 := by simp
  have hal : (a ++ [BH]).length = a.length + 1 := by simp
  have HX : Hid (SlR RP (fun _ => False) (.slice (some ⟨g1, 0, none⟩) (b ++ [BH]).length c3) (b ++ [BH]) w2) := (ho1'.slr rpOk).anyP
  have HY : Hid (SlR RP (fun _ => False) (.slice (some ⟨g2, 0, none⟩) (a ++ [BH]).length c4) (a ++ [BH]) w2) := (ho2.slr rpOk).anyP
  have hx1 := SlR.takeP HX.out b.length (by omega)
  rw [List.take_left] at hx1
  have hy1 := SlR.takeP HY.out a.length (by omega)
  rw [List.take_left] at hy1
  have HX1 := tHid hx1
  have HY1 := tHid hy1
  have HN := tHid (hN1.trans hN2)
  rw [hbl] at HX m5 ⊢
  rw [hal] at HY m7 ⊢
  clear hx1 hy1 ho1 ho2 ho1' hN1 hN2 H1 H2 HH1 HH2 hg1 hg2
  have HPR : Hid (∀ V, Nw w2 V → Calls Tryd.prog 8 #[.slice (some ⟨g1, 0, none⟩) b.length c3] V fun e W => ∃ a3 n3 c3, e = .returned (.tuple #[.slice a3 n3 c3, .int .i64 (prE b : Nat)]) ∧ Hid (Nw V W ∧ BO V.heap.size (.slice a3 n3 c3) (prL b) W ∧ n3 = (prL b).length ∧ n3 ≤ c3 ∧ c3 < 9223372036854775808)) := fun V hV => by
    refine (print_own V (HE.out.nw (HN.out.trans hV)) _ _ _ b (HX1.out.nw hV) (by omega)).mono ?_
    rintro e W ⟨v, rfl, H⟩
    have hbo := prB_bo H.out.2
    obtain ⟨a3, c3, rfl, q1, q2, _⟩ := bo_form hbo
    exact ⟨a3, _, c3, rfl, H.out.1, hbo, rfl, q1, q2⟩
  have HRP : Hid (∀ V, Nw w V → Calls Tryd.prog 9 #[.slice x b.length c] V fun e W => ∃ v, e = .returned (.tuple #[v, .int .i64 (prE b : Nat)]) ∧ Hid (Nw V W ∧ Sl (fun _ => False) v (prL b) W)) := fun V hV => by
    refine (rprint_any V _ _ _ b (HB.out.nw hV) (by omega)).mono ?_
    rintro e W ⟨v, rfl, H⟩
    exact ⟨v, rfl, H.out.1, prA_sl H.out.2⟩
  have HMG : Hid (∀ V, Nw w2 V → Calls Tryd.prog 11 #[.slice (some ⟨g1, 0, none⟩) b.length c3, .slice (some ⟨g2, 0, none⟩) a.length c4] V fun e W => ∃ v, e = .returned v ∧ Hid (Nw V W ∧ ∃ og, OgR RP og v (mergeV b a) W ∧ ∀ g, og = some g → V.heap.size ≤ g)) := fun V hV => merge_any V _ _ b a (HX1.out.nw hV) (HY1.out.nw hV) (by omega) hkeys
  have HRM : Hid (∀ V, Nw w V → Calls Tryd.prog 12 #[.slice x b.length c, .slice x2 a.length c2] V fun e W => ∃ v, e = .returned v ∧ Hid (Nw V W ∧ ∃ og, OgR RP og v (mergeV b a) W ∧ ∀ g, og = some g → V.heap.size ≤ g)) := fun V hV => rmerge_any V _ _ b a (HB.out.nw hV) (HA.out.nw hV) (by omega)
  have HFD : Hid (∀ V, Nw w2 V → Calls Tryd.prog 13 #[.slice (some ⟨g1, 0, none⟩) b.length c3, .string (str k)] V fun e W => e = .returned (fdV (fndV b k)) ∧ Hid (Nw V W)) := fun V hV => find_any V _ b k (HX1.out.nw hV) (by omega)
  have HRF : Hid (∀ V, Nw w V → Calls Tryd.prog 14 #[.slice x b.length c, .string (str k)] V fun e W => e = .returned (fdV (fndV b k)) ∧ Hid (Nw V W)) := fun V hV => rfind_any V _ b k (HB.out.nw hV)
  have HL1 : Hid (∀ V, Nw w2 V → Calls Tryd.prog 15 #[.slice (some ⟨g1, 0, none⟩) (b.length + 1) c3, .slice x b.length c] V fun e W => e = .returned (.bool true) ∧ Hid (Nw V W)) := fun V hV => by
    have h := HX.out.nw hV
    rw [← hbl] at h ⊢
    exact left_any V _ _ b h (HB.out.nw (HN.out.trans hV)) (by omega)
  have HL2 : Hid (∀ V, Nw w2 V → Calls Tryd.prog 15 #[.slice (some ⟨g2, 0, none⟩) (a.length + 1) c4, .slice x2 a.length c2] V fun e W => e = .returned (.bool true) ∧ Hid (Nw V W)) := fun V hV => by
    have h := HY.out.nw hV
    rw [← hal] at h ⊢
    exact left_any V _ _ a h (HA.out.nw (HN.out.trans hV)) (by omega)
  have HWI : Hid (∀ V og v og2 v2, OgR RP og v (mergeV b a) V → OgR RP og2 v2 (mergeV b a) V → (∀ g, og = some g → w2.heap.size ≤ g) → (∀ g, og = some g → og2 ≠ some g) → Calls Tryd.prog 10 #[v, v2] V fun e W => e = .returned (.bool true) ∧ Hid (Fr (fun k => w2.heap.size ≤ k) V W)) := fun V og v og2 v2 h1 h2 h3 h4 => by
    have hm := merge_len b a
    refine (wiped_any V og v v2 _ _ h1 (by omega) ((h2.slr rpOk).mono (fun k hk e => h4 k hk e))).mono ?_
    rintro e W ⟨rfl, hF⟩
    refine ⟨by rw [decide_eq_true rfl], hF.mono (fun i hi => .inl (h3 i hi))⟩
  clear HX HY HX1 HY1 HB HA HE hkeys hbl hal hwb hwa hbw haw
  go_upto_region 3 with fail
  go_loopg [9] 2 (fun kx r wr => ∃ R : Nat, R ≤ 2 ∧ 2 - R ≤ kx ∧ r = .int .i64 (R : Int) ∧ Hid (Nw w2 wr))
  case atStart => exact ⟨0, by omega, by omega, rfl, Fr.refl _ _⟩
  case round =>
    obtain ⟨R, hR, hkx, rfl, HI⟩ := hrel
    have hbc : (b.length : Int) ≤ (c3 : Int) := by omega
    have hac : (a.length : Int) ≤ (c4 : Int) := by omega
    by_cases hlt : R < 2
    · have hlti : (R : Int) < 2 := by omega
      go_upto_region 7 with (first
        | (go_at_call 8; with_reducible refine (HPR.out _ HI.out).mono ?_; rintro e w3 ⟨a3, n3, c5, rfl, H3⟩)
        | (go_at_call 9; with_reducible refine (HRP.out _ (HN.out.trans (HI.out.trans H3.out.1))).mono ?_; rintro e w4 ⟨v4, rfl, H4⟩))
      have hcv1 := conv_any ((bo_sl H3.out.2.1).nw H4.out.1)
      have hcv2 := conv_any H4.out.2
      have HBO := tHid (bo_nw H3.out.2.1 H4.out.1)
      have HN4 := tHid (H3.out.1.trans H4.out.1)
      obtain ⟨hn3, q1, q2⟩ := H3.out.2.2
      have hq3 : n3 ≤ 100000000 := by omega
      have HN3 := tHid hn3
      clear H3 H4 hn3
      have bq : ((str (prL b)).toList == (str (prL b)).toList) = true := by simp
      generalize prE b = E at *
      generalize hSL : str (prL b) = SL at *
      clear hSL
      obtain ⟨wo, hwo⟩ : ∃ z, z = wr := ⟨_, rfl⟩
      subst hwo
      go_upto_region 9 with fail
      go_wp2_with fail
      go_loopg [14] n3 (fun kx i wq => ∃ I : Nat, I ≤ n3 ∧ n3 - I ≤ kx ∧ i = .int .i64 (I : Int) ∧ Hid (∃ xs : Bs, xs.length = n3 ∧ BO wo.heap.size (.slice a3 n3 c5) xs wq ∧ Nw wo wq))
      case atStart => exact ⟨0, by omega, by omega, rfl, prL b, HN3.out.symm, HBO.out, HN4.out⟩
      case round =>
        obtain ⟨I, hI, hkx2, rfl, HJ⟩ := hrel
        obtain ⟨xs, hxl, hbo, hNq⟩ := HJ.out
        by_cases hli : I < n3
        · have hlii : (I : Int) < (n3 : Int) := by omega
          obtain ⟨a9, c9, e9, _, _, h9⟩ := bo_form hbo
          injection e9 with e91 e92 e93
          obtain ⟨g9, h91, hg9⟩ := h9 (by omega)
          subst e91 h91
          obtain ⟨s1, ⟨u9, s2⟩, s3, s4, _⟩ := bo_set hbo I (by omega) 238#8 238 (by decide)
          have HNX : Hid (∃ xs : Bs, xs.length = n3 ∧ BO wo.heap.size (.slice (some ⟨g9, 0, none⟩) n3 c5) xs (wr.setCell ⟨g9, I, none⟩ (.int .u8 238)) ∧ Nw wo (wr.setCell ⟨g9, I, none⟩ (.int .u8 238))) := ⟨_, by rw [List.length_set]; exact hxl, s1, hNq.then s4 (fun i hi => .inr (by omega))⟩
          clear HJ hbo hNq s1 s4 e92 e93 hxl hg9
          go_wp2_with fail
          go_roundg (n3 - (I + 1))
          case measure => omega
          case rel => exact ⟨I + 1, by omega, by omega, by first | rfl | simp, HNX⟩
        · have hbo2 := bo_byte hNq hbo 221#8 221 (by decide) (by omega)
          obtain ⟨v5, W5, k1, k2, k3⟩ := hbo2
          obtain ⟨a9, c9, rfl, _⟩ := bo_form k2
          have K1 := tHid k1
          have hlii : ¬ (I : Int) < (n3 : Int) := by omega
          have HN5 := tHid (HI.out.trans k3)
          have HM5 := tHid (HMG.out W5.drew (HN5.out.trans ((Fr.refl _ _).drew)))
          have HWW : Hid (∀ (W6 W7 : World) (v6 v7 : Value), Hid (Nw W5.drew W6 ∧ ∃ og, OgR RP og v6 (mergeV b a) W6 ∧ ∀ g, og = some g → W5.drew.heap.size ≤ g) → Hid (Nw W6 W7 ∧ ∃ og, OgR RP og v7 (mergeV b a) W7 ∧ ∀ g, og = some g → W6.heap.size ≤ g) → Calls Tryd.prog 10 #[v6, v7] W7 fun e W => e = .returned (.bool true) ∧ Hid (Fr (fun k => w2.heap.size ≤ k) W7 W)) := fun W6 W7 v6 v7 h6 h7 => by
            obtain ⟨j1, og, j2, j3⟩ := h6.out
            obtain ⟨j4, og2, j5, j6⟩ := h7.out
            refine HWI.out W7 og v6 og2 v7 (j2.nw j4) j5 (fun g e => Nat.le_trans HN5.out.size (j3 g e)) (fun g e e2 => ?_)
            have := j6 g e2
            have := j2.lt g e
            omega
          have HD5 : Hid (Nw W5 W5.drew) := (Fr.refl _ _).drew
          clear HJ hbo hNq k1 k2 k3 hxl HPR HRP HBO HN4 HN3 hcv1 hcv2 bq HFD HRF HL1 HL2
          go_upto_region 14 with (first
            | (at_builtin; refine Lib.wpList_append_run _ rfl _ _ 24 24 rfl (.slice a3 n3 c5) (.slice (some ⟨wr.heap.size, 0, none⟩) 1 1) (by first | rfl | simp [Act.eval]) (by first | rfl | simp [Act.eval]) _ _ K1.out ?_))
          go_region_held3 (fun _ => True) (first | trivial | assumption)
            (first
              | (go_at_call 11; with_reducible refine HM5.out.mono ?_; rintro e w6 ⟨v6, rfl, H6⟩; have HX6 := tHid (HN.out.trans (HN5.out.trans (HD5.out.trans H6.out.1))))
              | (go_at_call 12; with_reducible refine (HRM.out _ HX6.out).mono ?_; rintro e w7 ⟨v7, rfl, H7⟩)
              | (go_at_call 10; with_reducible refine (HWW.out _ _ _ _ H6 H7).mono ?_; rintro e w8 ⟨rfl, H8⟩))
          have HN8 := tHid (((HN5.out.trans (HD5.out.trans H6.out.1)).trans H7.out.1).then H8.out (fun i hi => .inr hi))
          clear HM5 HD5 HX6 H6 H7 H8 HRM HMG HWI HWW HN5 K1
          go_wp2_with fail
          go_roundg (2 - (R + 1))
          case measure => omega
          case rel => exact ⟨R + 1, by omega, by omega, by first | rfl | simp, HN8⟩
    · have hlti : ¬ (R : Int) < 2 := by omega
      have hfd : ∀ o, fdV o = .tuple #[.string (str (o.getD [])), .bool o.isSome] := fun o => by
        cases o
        · rfl
        · rfl
      rw [hfd] at HFD HRF
      have bq : ((str ((fndV b k).getD [])).toList == (str ((fndV b k).getD [])).toList) = true := by simp
      generalize (fndV b k).isSome = B1 at *
      generalize str ((fndV b k).getD []) = S1 at *
      have bq2 : (B1 == B1) = true := by simp
      clear HPR HRP HMG HRM HWI hfd
      go_upto_region 18 with (first
        | (go_at_call 13; with_reducible refine (HFD.out _ HI.out).mono ?_; rintro e w3 ⟨rfl, H3⟩)
        | (go_at_call 14; with_reducible refine (HRF.out _ (HN.out.trans (HI.out.trans H3.out))).mono ?_; rintro e w4 ⟨rfl, H4⟩))
      have HN4 := tHid (HI.out.trans (H3.out.trans H4.out))
      go_wp2_with (first
        | (go_at_call 15; with_reducible refine (HL1.out _ HN4.out).mono ?_; rintro e w5 ⟨rfl, H5⟩; have HN5 := tHid (HN4.out.trans H5.out))
        | (go_at_call 15; with_reducible refine (HL2.out _ HN5.out).mono ?_; rintro e w6 ⟨rfl, H6⟩))
      have HEE := tHid (HF.out _ (HN.out.trans (HN5.out.trans H6.out)))
      first | exact HEE.out | (go_ret; exact HEE.out)
end Go.Proofs.YtenkchhlaphocaaDoor

import Derived.Test.YtffhpoilifgcdaaNlK
import Derived.Test.YtffhpoilifgcdaaNlH
namespace Go.Proofs.Ytffhpoilifgcdaa
open Go.RowKit
set_option linter.unusedVariables false
/-! ### SparseRound -/
/-- The bytes that came in. -/
def InB (w : World) (a : Option Addr) (b : List By) : Prop := ∀ V, Nw w V → ∀ i (h : i < b.length), ∃ g o, a = some ⟨g, o, none⟩ ∧ V.cell? ⟨g, o + i, none⟩ = some (.int .u8 b[i].toNat)
theorem Sl.inB {X : Nat → Prop} {a : Option Addr} {n c : Nat} {b : List By} {w : World} (h : Sl X (.slice a n c) b w) : InB w a b := fun V hV i hi => slx_at (h.nw hV) i hi
/-- A run of zeros in a range, as long as it goes. -/
def RunZ (b : List By) (F K R : Nat) : Prop := F + R ≤ K ∧ ∀ j, K - R ≤ j → j < K → b[j]? = some 0#8
theorem RunZ.more {b : List By} {F K R : Nat} (h : RunZ b F K R) (hb : b[K]? = some 0#8) : RunZ b F (K + 1) (R + 1) := by
  refine ⟨by have := h.1; omega, fun j h1 h2 => ?_⟩
  by_cases e : j = K
  · subst e; exact hb
  · exact h.2 j (by omega) (by omega)
theorem RunZ.none (b : List By) (F K : Nat) (h : F ≤ K) : RunZ b F K 0 := ⟨by omega, fun j h1 h2 => by omega⟩
theorem RunZ.short {b : List By} {N : Nat} {l : List (Nat × Nat)} (hf : Fnd b N l) {x : Nat × Nat} (hx : x ∈ l) {K R : Nat} (h : RunZ b x.1 (K + 1) (R + 1)) (hK : K < x.2) : R + 1 < N := by
  rcases Nat.lt_or_ge (R + 1) N with e | e
  · exact e
  · have := hf.each x hx
    have h1 := h.1
    exact absurd ⟨K - R, K + 1, by omega, by omega, by omega, by omega, fun j h2 h3 => h.2 j (by omega) h3⟩ (hf.inn x hx K (by omega) hK)
set_option maxHeartbeats 16000000 in
set_option maxRecDepth 100000 in
theorem round_walk (w : World) (a : Option Addr) (n c : Nat) (b : List By) (hb : Sl (fun _ => False) (.slice a n c) b w) (hn : n ≤ 1048576) (z : Int) (hz : -9223372036854775808 ≤ z ∧ z ≤ 9223372036854775807) :
    Calls Try.prog 4 #[.slice a n c, .int .i64 z] w fun e w' => e = .returned (.bool true) ∧ Nw w w' := by
  obtain ⟨P, hP⟩ : ∃ P : Ending → World → Prop, P = fun e w' => e = .returned (.bool true) ∧ Nw w w' := ⟨_, rfl⟩
  rw [← hP]
  have HF : Hid (∀ V, Nw w V → P (.returned (.bool true)) V) := fun V hV => by rw [hP]; exact ⟨rfl, hV⟩
  clear hP
  obtain ⟨hbn, k1, k2⟩ := slx_len hb
  obtain ⟨g1, c1, W1, HA1, q2, q3, q4⟩ := copyX w (.slice a n c) b hb (by omega)
  rw [hbn] at HA1 q2
  have HC1 := tHid (find_any W1 z hz _ _ _ b q2.old (by omega))
  unfold FdA at HC1
  have HN1 := tHid q3
  have HB := tHid hb
  have HBN := tHid hbn
  have hNz : 1 ≤ max z 1 := by omega
  obtain ⟨Nz, hNzE⟩ : ∃ Nz, max z 1 = Nz := ⟨_, rfl⟩
  rw [hNzE] at HC1 hNz
  have HZ : Hid (max z 1 = Nz) := hNzE
  clear hb hbn q2 q3 q4 hNzE
  go_enter Try.func4, Try.ntmps4
  go_upto_region 2 with (first
    | (at_builtin; refine Lib.wpList_append_run _ rfl _ _ 22 22 rfl (.slice (some ⟨w.heap.size, 0, none⟩) 0 0) (.slice a n c) (by first | rfl | simp [Act.eval]) (by first | rfl | simp [Act.eval]) _ _ (HA1.out _) ?_)
    | (go_at_call 7; with_reducible refine HC1.out.mono ?_; rintro e w2 ⟨al, ml, cl, l, rfl, H1⟩))
  obtain ⟨n2, f2, hm2, p2⟩ := H1.out
  have hN2 : Nw w w2 := HN1.out.trans n2
  have HL := tHid p2.slr
  obtain ⟨hlr, kl1, kl2⟩ := slg_len p2.slr
  rw [rgL_len] at hlr
  have hlen := f2.len
  rw [HBN.out] at hlen
  have kml : ml ≤ 1048577 := by omega
  obtain ⟨B, hB⟩ : ∃ B, decide (ml ≤ 65536) = B := ⟨_, rfl⟩
  have hBi : decide ((ml : Int) ≤ 65536) = B := by rw [← hB]; exact decide_eq_decide.2 (by omega)
  have hBB : (B != B) = false := by cases B <;> rfl
  have hvB : vld (rgL l) (n : Int) = B := by rw [← HBN.out, f2.vld, hm2]; exact hB
  have HV : Hid (Calls Try.prog 13 #[.slice al ml cl, .int .i64 (n : Int)] w2 fun e w' => e = .returned (.bool B) ∧ Nw w2 w') := by
    have := valid_any w2 al ml cl (rgL l) p2.slr (n : Int)
    rw [hvB] at this
    exact this
  obtain ⟨E, hE⟩ : ∃ E : Int, (if B then (0 : Int) else 1) = E := ⟨_, rfl⟩
  have hEB : (E == 0) = B := by rw [← hE]; cases B <;> rfl
  have hEB2 : decide (E = 0) = B := by rw [← hE]; cases B <;> rfl
  -- the second copy, and Join
  have HCP : Hid (∀ V, Nw w2 V → ∃ g c' W, Hid (∀ ty, (Builtin.append_ #[22, 22] ty #[.slice (some ⟨V.heap.size, 0, none⟩) 0 0, .slice a n c]).run Try.prog (V.alloc (.cells #[] 5)) = .ok (.slice (some ⟨g, 0, none⟩) n c') W) ∧ Hid (Nw w2 W) ∧ Hid (Calls Try.prog 9 #[.slice (some ⟨g, 0, none⟩) n c', .slice al ml cl] W fun e V' => ∃ aj mj cj, e = .returned (.tuple #[.slice aj mj cj, .int .i64 E]) ∧ Hid (Nw W V' ∧ NewB W (.slice aj mj cj) (if B then jn b (rgL l) else []) V'))) := fun V hV => by
    obtain ⟨g, c', W, q1, q2, q3, q4⟩ := copyX V (.slice a n c) b ((HB.out.nw hN2).nw hV) (by rw [HBN.out]; omega)
    rw [HBN.out] at q1 q2
    refine ⟨g, c', W, q1, hV.trans q3, ?_⟩
    have := join_any W _ _ _ b q2.old (by omega) al ml cl (rgL l) ((p2.slr.nw hV).nw q3)
    unfold JnA at this
    rw [HBN.out, hvB, hE] at this
    exact this
  have HF2 := tHid f2
  have HN2 := tHid hN2
  clear n2 f2 hm2 p2 hN2 hlen H1 HC1 HA1 HN1 hvB
  go_upto_region 5 with (first
    | (go_at_call 13; with_reducible refine HV.out.mono ?_; rintro e w3 ⟨rfl, H3⟩; obtain ⟨g4, c4, W4, HA4, HN4, HJ4⟩ := HCP.out w3 H3; have H3 := tHid H3))
  clear HV HCP
  go_upto_region 8 with (first
    | (at_builtin; refine Lib.wpList_append_run _ rfl _ _ 22 22 rfl (.slice (some ⟨w3.heap.size, 0, none⟩) 0 0) (.slice a n c) (by first | rfl | simp [Act.eval]) (by first | rfl | simp [Act.eval]) _ _ (HA4.out _) ?_)
    | (go_at_call 9; with_reducible refine HJ4.out.mono ?_; rintro e w5 ⟨aj, mj, cj, rfl, H5⟩))
  have hn4 : (n : Int) ≤ 4194304 := by omega
  have HN5 : Hid (Nw w w5) := (HN2.out.trans HN4.out).trans H5.out.1
  have HN25 : Hid (Nw w2 w5) := HN4.out.trans H5.out.1
  have HSPR : Hid (B = true → Calls Try.prog 11 #[.slice aj mj cj, .slice al ml cl, .int .i64 (n : Int)] w5 fun e V' => ∃ ax ms cs, e = .returned (.tuple #[.slice ax ms cs, .int .i64 0]) ∧ Hid (Nw w5 V' ∧ NewB w5 (.slice ax ms cs) b V')) := fun hBt => by
    have hml : l.length ≤ 65536 := by rw [hBt] at hB; have := of_decide_eq_true hB; omega
    have hj := H5.out.2
    rw [hBt, if_pos rfl] at hj
    have hjl : (jn b (rgL l)).length ≤ 1000000000 := by
      have h1 := HF2.out.hldj
      have h2 := hld_le HF2.out.vlE (by omega)
      have h3 := HBN.out
      omega
    have := spread_any w5 aj mj cj (jn b (rgL l)) hj.old (by have := (slx_len hj.old).1; omega) al ml cl (rgL l) ((HL.out.nw HN25.out)) (n : Int) (by omega)
    unfold SpA at this
    have hok := HF2.out.okS hml (by rw [HBN.out]; omega)
    have hrd := HF2.out.round
    rw [HBN.out] at hok hrd
    rw [hok, if_pos rfl, if_pos rfl, hrd] at this
    exact this
  have HSM : Hid (∀ V v, NewB w5 v b V → Nw w5 V → Calls Try.prog 16 #[v, .slice a n c] V fun e w' => e = .returned (.bool true) ∧ Nw V w') := fun V v h1 h2 => by
    have := same_any V v (.slice a n c) b b (h1.old.mono (fun _ h => h.elim)) ((HB.out.nw HN5.out).nw h2) (by rw [HBN.out]; omega) (by rw [HBN.out]; omega)
    rw [decide_eq_true rfl] at this
    exact this
  clear HN4 HJ4 HA4 H5 HN2 H3
  go_cut [46] (fun x wx => x = .bool B ∧ w5 = wx)
  case first =>
    clear HSPR HSM HF HF2 HL HB
    cases B with
    | true =>
      go_wp2_with fail
      go_meet
      exact ⟨rfl, rfl⟩
    | false =>
      go_wp2_with fail
      go_meet
      exact ⟨rfl, rfl⟩
  case rest =>
  obtain ⟨rfl, hwc⟩ := hcut
  subst hwc
  go_upto_if 46 with fail
  go_cut [6, 9, 10, 46] from 47 to 62 (fun y p q x wx => Hid (Nw w5 wx))
  case first =>
    clear HF HF2 HL HB
    cases hBB2 : B with
    | true =>
      have HS2 := tHid (HSPR.out hBB2)
      clear HSPR
      go_wp2_with (first
        | (go_at_call 11; with_reducible refine HS2.out.mono ?_; rintro e w6 ⟨ax, ms, cs, rfl, H6⟩)
        | (go_at_call 16; with_reducible refine (HSM.out _ _ H6.out.2 H6.out.1).mono ?_; rintro e w7 ⟨rfl, H7⟩; have H7 := tHid H7))
      go_meet
      exact H6.out.1.trans H7.out
    | false =>
      go_wp2_with fail
      go_meet
      exact Fr.refl _ _
  case rest =>
  have HN6 : Hid (Nw w2 wc) := HN25.out.trans hcut.out
  have HNW6 : Hid (Nw w wc) := HN5.out.trans hcut.out
  obtain ⟨w8, h⟩ : ∃ z, z = wc := ⟨_, rfl⟩
  subst h
  clear HSPR HSM hcut HN25 HN5 hBB hBi hEB hEB2 hE hB
  go_upto_if 64 with fail
  go_cut [1] (fun x wx => x = .int .i64 Nz ∧ w8 = wx)
  case first =>
    have hZ := HZ.out
    clear HF HF2 HL HB HZ
    by_cases hlt : z < 1
    · obtain rfl : Nz = 1 := by omega
      go_wp2_with fail
      go_meet
      exact ⟨rfl, rfl⟩
    · obtain rfl : Nz = z := by omega
      go_wp2_with fail
      go_meet
      exact ⟨rfl, rfl⟩
  case rest =>
  obtain ⟨rfl, hwc⟩ := hcut
  subst hwc
  have HCL : Hid (∀ V, Nw w8 V → ∀ i (h : i < l.length), ∃ g o, al = some ⟨g, o, none⟩ ∧ V.cell? ⟨g, o + i * 2, none⟩ = some (.int .i64 (l[i].1 : Int)) ∧ V.cell? ⟨g, o + i * 2 + 1, none⟩ = some (.int .i64 (l[i].2 : Int))) := fun V hV i h => rgN_at ((HL.out.nw HN6.out).nw hV) i h
  have HCB : Hid (∀ V, Nw w8 V → ∀ i (h : i < b.length), ∃ g o, a = some ⟨g, o, none⟩ ∧ V.cell? ⟨g, o + i, none⟩ = some (.int .u8 b[i].toNat)) := fun V hV i h => (HB.out.nw HNW6.out).inB V hV i h
  have HLR := tHid hlr
  clear HL HN6 HB HZ hlr
  go_upto_region 15 with fail
  go_loopg [11] ml (fun kx i wr => ∃ (I : Nat), I ≤ ml ∧ ml - I ≤ kx ∧ i = .int .i64 I ∧ Hid (Nw w8 wr))
  case atStart => exact ⟨0, by omega, by omega, rfl, Fr.refl _ _⟩
  case round =>
    obtain ⟨I, hI, hkx, rfl, HI⟩ := hrel
    by_cases hlt : I < ml
    · have hlt' : I < l.length := by have := HLR.out; omega
      obtain ⟨F, hF⟩ : ∃ F, l[I].1 = F := ⟨_, rfl⟩
      obtain ⟨T, hT⟩ : ∃ T, l[I].2 = T := ⟨_, rfl⟩
      have hmem : l[I] ∈ l := List.getElem_mem hlt'
      have heach := HF2.out.each l[I] hmem
      rw [hF, hT, HBN.out] at heach
      obtain ⟨hFT, hTn⟩ := heach
      have HXC : Hid (∀ V, Nw w8 V → ∃ g o, al = some ⟨g, o, none⟩ ∧ V.cell? ⟨g, o + I * 2, none⟩ = some (.int .i64 (F : Int)) ∧ V.cell? ⟨g, o + I * 2 + 1, none⟩ = some (.int .i64 (T : Int))) := fun V hV => by rw [← hF, ← hT]; exact HCL.out V hV I hlt'
      have HPV : Hid (∀ J, I = J + 1 → ∃ p : Nat, p < F ∧ ∀ V, Nw w8 V → ∃ g o, al = some ⟨g, o, none⟩ ∧ V.cell? ⟨g, o + J * 2 + 1, none⟩ = some (.int .i64 (p : Int))) := fun J hJ => by
        have hJl : J < l.length := by omega
        refine ⟨l[J].2, ?_, fun V hV => ?_⟩
        · have := List.pairwise_iff_getElem.1 HF2.out.rise J I hJl hlt' (by omega)
          rw [← hF]; exact this
        · obtain ⟨g, o, e, _, e2⟩ := HCL.out V hV J hJl
          exact ⟨g, o, e, e2⟩
      have HRS : Hid (∀ K R, RunZ b F (K + 1) (R + 1) → K < T → R + 1 < Nz.toNat) := fun K R h1 h2 => by
        rw [← hF] at h1
        rw [← hT] at h2
        exact RunZ.short HF2.out hmem h1 h2
      have HFI : Hid (0 < F → b[F]? ≠ some 0#8) := fun h => by have := HF2.out.first l[I] hmem (by omega); rw [hF] at this; exact this
      have HLA : Hid (T < n → b[T - 1]? ≠ some 0#8) := fun h => by have := HF2.out.last l[I] hmem (by rw [hT, HBN.out]; exact h); rw [hT] at this; exact this
      clear hF hT hmem hlt'
      go_upto_region 17 with fail
      go_cut [99] from 71 to 99 (fun q wx => q = .bool false ∧ Hid (Nw w8 wx))
      case first =>
        obtain ⟨gl, ol, rfl, x0, x1⟩ := HXC.out wr HI.out
        have d1 : decide (T ≤ F) = false := decide_eq_false (by omega)
        have hnw : Hid (∀ V, Nw wr V → Nw w8 V) := fun V hV => Nw.trans HI.out hV
        clear HF HF2 HCB HCL HXC HRS HFI HLA HNW6
        by_cases hI0 : I = 0
        · have d2 : decide (0 < I) = false := decide_eq_false (by omega)
          clear HPV hI0
          go_quiet (fail)
          go_wp2_with fail
          go_meet
          exact ⟨rfl, hnw.out _ ((Fr.refl _ _).drewN _)⟩
        · obtain ⟨J, hJ⟩ : ∃ J, I = J + 1 := ⟨I - 1, by omega⟩
          obtain ⟨p, hp, hpc⟩ := HPV.out J hJ
          obtain ⟨gl2, ol2, e, y1⟩ := hpc wr HI.out
          injection e with e
          injection e with e e2
          subst e e2
          have d2 : decide (0 < I) = true := decide_eq_true (by omega)
          have d3 : decide (F ≤ p) = false := decide_eq_false (by omega)
          have hJi : (I : Int) - 1 = (J : Int) := by omega
          have hJm : (J : Int) < (ml : Int) := by omega
          have hIp : (0 : Int) < (I : Int) := by omega
          clear HPV hpc hJ
          go_quiet (fail)
          go_wp2_with fail
          go_meet
          exact ⟨rfl, hnw.out _ ((Fr.refl _ _).drewN _)⟩
      case rest =>
      obtain ⟨rfl, HI2⟩ := hcut
      obtain ⟨w9, h⟩ : ∃ z, z = wc := ⟨_, rfl⟩
      subst h
      obtain ⟨gl, ol, hal, x0, x1⟩ := HXC.out w9 HI2.out
      clear HPV HI
      subst hal
      go_upto_region 21 with fail
      go_loopg [12, 13] T (fun ky r k wq => ∃ (K R : Nat), F ≤ K ∧ K ≤ T ∧ T - K ≤ ky ∧ R ≤ n ∧ r = .int .i64 R ∧ k = .int .i64 K ∧ Hid (Nw w8 wq ∧ RunZ b F K R))
      case atStart => exact ⟨F, 0, by omega, by omega, by omega, by omega, rfl, rfl, HI2.out, RunZ.none b F F (Nat.le_refl _)⟩
      case round =>
        obtain ⟨K, R, hFK, hKT, hky, hRn, rfl, rfl, HK⟩ := hrel
        obtain ⟨hKN, hKR⟩ := HK.out
        obtain ⟨gl3, ol3, e, z0, z1⟩ := HXC.out wr hKN
        injection e with e
        injection e with e e2
        subst e e2
        by_cases hlt2 : K < T
        · have hltb : K < b.length := by have := HBN.out; omega
          obtain ⟨gb, ob, rfl, hcell⟩ := HCB.out wr hKN K hltb
          by_cases hx : b[K] = 0#8
          · have hmore := hKR.more (by rw [List.getElem?_eq_getElem hltb, hx])
            have hsh := HRS.out K R hmore hlt2
            have hlt3 : ¬ Nz ≤ ((R : Nat) : Int) + 1 := by omega
            have HK2 : Hid (Nw w8 wr ∧ RunZ b F (K + 1) (R + 1)) := ⟨hKN, hmore⟩
            have hR2 : R + 1 ≤ n := by have := hmore.1; omega
            rw [hx] at hcell
            simp only [BitVec.toNat_ofNat, Nat.zero_mod, Int.natCast_zero] at hcell
            clear HF HF2 HCB HCL HXC HRS HFI HLA HNW6 HK hKN hKR hx hmore hsh
            go_wp2_with fail
            go_roundg (T - (K + 1))
            case measure => omega
            case rel => exact ⟨K + 1, R + 1, by omega, by omega, by omega, by omega, by first | rfl | (congr 1), by first | rfl | (congr 1), HK2⟩
          · have hxi := by_ne hx
            have HK2 : Hid (Nw w8 wr ∧ RunZ b F (K + 1) 0) := ⟨hKN, RunZ.none b F (K + 1) (by omega)⟩
            have hlt3 : ¬ Nz ≤ (0 : Int) := by omega
            clear HF HF2 HCB HCL HXC HRS HFI HLA HNW6 HK hKN hKR hx
            generalize b[K].toNat = y at *
            go_wp2_with fail
            go_roundg (T - (K + 1))
            case measure => omega
            case rel => exact ⟨K + 1, 0, by omega, by omega, by omega, by omega, rfl, by first | rfl | (congr 1), HK2⟩
        · obtain rfl : K = T := by omega
          have HKN := tHid hKN
          have hltF : F < b.length := by have := HBN.out; omega
          have hltT : K - 1 < b.length := by have := HBN.out; omega
          obtain ⟨gb, ob, hab, hcF⟩ := HCB.out wr hKN F hltF
          obtain ⟨gb2, ob2, hab2, hcT⟩ := HCB.out wr hKN (K - 1) hltT
          subst hab
          injection hab2 with hab2
          injection hab2 with e1 e2
          subst e1 e2
          have hFne : 0 < F → ¬ ((b[F].toNat : Int) = 0) := fun h => by
            have := HFI.out h
            rw [List.getElem?_eq_getElem hltF] at this
            exact by_ne (fun e => this (by rw [e]))
          have hTne : K < n → ¬ ((b[K - 1].toNat : Int) = 0) := fun h => by
            have := HLA.out h
            rw [List.getElem?_eq_getElem hltT] at this
            exact by_ne (fun e => this (by rw [e]))
          clear HK hKN hKR HRS HFI HLA
          generalize b[F].toNat = yF at *
          generalize b[K - 1].toNat = yT at *
          obtain ⟨T1, hT1⟩ : ∃ T1, K - 1 = T1 := ⟨_, rfl⟩
          rw [hT1] at hcT
          have hT1i : (K : Int) - 1 = (T1 : Int) := by omega
          have hT1n : (T1 : Int) < (n : Int) := by omega
          have hFn : (F : Int) < (n : Int) := by omega
          have hnc : (n : Int) ≤ (c : Int) := by omega
          go_upto_region 28 with fail
          go_cut [162] from 124 to 162 (fun q wx => q = .bool false ∧ wr = wx)
          case first =>
            clear HF HF2 HCB HCL HXC HNW6 HKN hT1
            by_cases hF0 : 0 < F
            · have h1 : ((yF : Int) == 0) = false := by rw [beq_eq_false_iff_ne]; exact hFne hF0
              have hF0i : (0 : Int) < (F : Int) := by omega
              by_cases hTl : K < n
              · have h2 : ((yT : Int) == 0) = false := by rw [beq_eq_false_iff_ne]; exact hTne hTl
                have hTli : (K : Int) < (n : Int) := by omega
                clear hFne hTne
                go_wp2_with fail
                go_meet
                exact ⟨rfl, rfl⟩
              · have hTli : ¬ (K : Int) < (n : Int) := by omega
                clear hFne hTne
                go_wp2_with fail
                go_meet
                exact ⟨rfl, rfl⟩
            · have hF0i : ¬ (0 : Int) < (F : Int) := by omega
              by_cases hTl : K < n
              · have h2 : ((yT : Int) == 0) = false := by rw [beq_eq_false_iff_ne]; exact hTne hTl
                have hTli : (K : Int) < (n : Int) := by omega
                clear hFne hTne
                go_wp2_with fail
                go_meet
                exact ⟨rfl, rfl⟩
              · have hTli : ¬ (K : Int) < (n : Int) := by omega
                clear hFne hTne
                go_wp2_with fail
                go_meet
                exact ⟨rfl, rfl⟩
          case rest =>
          obtain ⟨rfl, hwc⟩ := hcut
          subst hwc
          clear HF HF2 HCB HCL HXC HNW6 hFne hTne
          go_wp2_with fail
          go_roundg (ml - (I + 1))
          case measure => omega
          case rel => exact ⟨I + 1, by omega, by omega, by first | rfl | (congr 1), HKN⟩
    · obtain rfl : I = ml := by omega
      have HN9 : Hid (Nw w wr) := HNW6.out.trans HI.out
      have HC3 := tHid (find_any (wr.alloc (.cells #[.int .u8 1] 5)) 5 (by omega) _ _ _ [1#8] (one_byte' wr 1#8 1 rfl) (by omega))
      unfold FdA at HC3
      clear HF2 HCB HCL HNW6 HI
      go_upto_region 31 with (first
        | (go_at_call 7; with_reducible refine HC3.out.mono ?_; rintro e w10 ⟨a3, m3, d3, l3, rfl, H3⟩))
      obtain ⟨n3, f3, hm3, p3⟩ := H3.out
      have HF3 := tHid (HF.out w10 ((HN9.out.alloc _).trans n3))
      have := f3.one
      subst this
      obtain rfl : m3 = 1 := hm3.symm
      clear HF HC3 H3 n3 f3 hm3 p3 HN9
      go_wp2_with fail
      first | exact HF3.out | (go_ret; exact HF3.out)
end Go.Proofs.Ytffhpoilifgcdaa

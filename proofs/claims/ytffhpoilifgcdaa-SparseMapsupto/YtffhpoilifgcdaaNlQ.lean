import Derived.Test.YtffhpoilifgcdaaNlP
namespace Go.Proofs.Ytffhpoilifgcdaa
open Go.RowKit
set_option linter.unusedVariables false
theorem last_at (l : List (Nat × Nat)) (J : Nat) (h : l.length = J + 1) : ∃ s f t, l = s ++ [(f, t)] ∧ s.length = J := by
  have hne : l ≠ [] := fun e => by rw [e] at h; simp at h
  refine ⟨l.dropLast, (l.getLast hne).1, (l.getLast hne).2, (List.dropLast_concat_getLast hne).symm, ?_⟩
  rw [List.length_dropLast]; omega
set_option maxHeartbeats 16000000 in
set_option maxRecDepth 100000 in
theorem rfind_any {X : Nat → Prop} (w : World) (z : Int) (hz : -9223372036854775808 ≤ z ∧ z ≤ 9223372036854775807) (a : Option Addr) (n c : Nat) (b : List By) (hb : Sl X (.slice a n c) b w) (hn : n ≤ 1000000000) :
    Calls Try.prog 8 #[.slice a n c, .int .i64 z] w (FdA w b (max z 1).toNat) := by
  obtain ⟨P, hP⟩ : ∃ P : Ending → World → Prop, P = FdA w b (max z 1).toNat := ⟨_, rfl⟩
  rw [← hP]
  obtain ⟨hbn, k1, k2⟩ := slx_len hb
  obtain ⟨Nz, hNz⟩ : ∃ Nz, max z 1 = Nz := ⟨_, rfl⟩
  have hN1 : 1 ≤ Nz := by omega
  rw [hNz] at hP
  obtain ⟨N, hN⟩ : ∃ N, Nz.toNat = N := ⟨_, rfl⟩
  rw [hN] at hP
  have HF : Hid (∀ V g m c l, Nw w V → Fnd b N l → l.length = m → w.heap.size ≤ g → OwR RG g (.slice (some ⟨g, 0, none⟩) m c) (rgL l) V → P (.returned (.slice (some ⟨g, 0, none⟩) m c)) V) := fun V g m c l h1 h2 h3 h4 h5 => by
    rw [hP]
    exact ⟨_, _, _, l, rfl, h1, h2, h3, some g, h5, fun g' e => by injection e with e; omega⟩
  have HCB : Hid (∀ V, Nw w V → ∀ i (h : i < b.length), ∃ g o, a = some ⟨g, o, none⟩ ∧ V.cell? ⟨g, o + i, none⟩ = some (.int .u8 b[i].toNat)) := fun V hV i h => slx_at (hb.nw hV) i h
  obtain ⟨W0, hmk, o0, n0, s0⟩ := OwR.made rblOk w n n (Nat.le_refl _) (by simp only [RBl]; omega) (by omega)
  have HO0 := tHid o0
  have HN0 := tHid n0
  have HZ := tHid hNz
  have HBN := tHid hbn
  have HNN := tHid hN
  have hmk' : (Instr.makeSlice 45 (.int .i64 (n : Int)) (.int .i64 (n : Int))).run Try.prog w = .ok (.slice (some ⟨w.heap.size, 0, none⟩) n n) W0 := hmk
  have HS0 := tHid s0
  clear hP hb hbn o0 n0 hNz hN hmk s0
  go_enter Try.func8, Try.ntmps8
  go_upto_if 13 with fail
  go_cut [1] (fun x wx => x = .int .i64 Nz ∧ w = wx)
  case first =>
    have hZ := HZ.out
    clear HF HCB HO0 HN0 hmk'
    by_cases hlt : z < 1
    · obtain rfl : Nz = 1 := by omega
      go_wp2_with fail
      go_meet
      exact ⟨rfl, rfl⟩
    · obtain rfl : Nz = z := by omega
      go_wp2_with fail
      go_meet
      exact ⟨rfl, rfl⟩
  case rest =>
  obtain ⟨rfl, hwc⟩ := hcut
  subst hwc
  go_upto_region 5 with fail
  obtain ⟨gh, hgh⟩ : ∃ gh, w.heap.size = gh := ⟨_, rfl⟩
  rw [hgh] at HO0
  rw [hgh]
  have HGH := tHid hgh
  clear hgh hmk'
  go_loopg [6] n (fun kx i wr => ∃ (I : Nat), I ≤ n ∧ n - I ≤ kx ∧ i = .int .i64 I ∧ Hid (∃ hs, Nw w wr ∧ HolI b N I hs ∧ W0.heap.size ≤ wr.heap.size ∧ OwR RBl gh (.slice (some ⟨gh, 0, none⟩) n n) hs wr))
  case atStart => exact ⟨0, by omega, by omega, rfl, List.replicate n false, HN0.out, by have := HolI.start b N; rw [HBN.out] at this; exact this, Nat.le_refl _, HO0.out⟩
  case round =>
    obtain ⟨I, hI, hkx, rfl, HI⟩ := hrel
    obtain ⟨hs, hNr, hH, hsz, hO⟩ := HI.out
    by_cases hlt : I < n
    · obtain ⟨w7, h⟩ : ∃ z, z = wr := ⟨_, rfl⟩
      subst h
      have HH := tHid hH
      have HO := tHid hO
      have HNr := tHid hNr
      have HSZ := tHid hsz
      clear HI hH hO hNr hsz HO0 HN0
      go_upto_region 7 with fail
      go_loopg [7] n (fun kx j wr => ∃ (J : Nat), I ≤ J ∧ J ≤ n ∧ n - J ≤ kx ∧ j = .int .i64 J ∧ Hid (Nw w7 wr ∧ ZrI b I J))
      case atStart => exact ⟨I, by omega, by omega, by omega, rfl, Fr.refl _ _, ⟨Nat.le_refl _, by have := HBN.out; omega, fun j h1 h2 => by omega⟩⟩
      case round =>
        obtain ⟨J, hIJ, hJ, hkx2, rfl, HJ⟩ := hrel
        obtain ⟨hw7, hZr⟩ := HJ.out
        have HN7 := tHid hw7
        have HNr7 : Hid (Nw w wr) := HNr.out.trans hw7
        obtain ⟨B, hB⟩ : ∃ B, decide (b[J]? = some 0#8) = B := ⟨_, rfl⟩
        have HB := tHid hB
        have HZr := tHid hZr
        clear HJ hB hZr hw7
        go_upto_region 7 with fail
        go_cut [32] from 22 to 32 (fun x wx => x = .bool B ∧ wr = wx)
        case first =>
          by_cases hJl : J < n
          · have hJb : J < b.length := by have := HBN.out; omega
            obtain ⟨g, o, rfl, hcell⟩ := HCB.out wr HNr7.out J hJb
            have hBx := HB.out
            rw [List.getElem?_eq_getElem hJb] at hBx
            have hJi : (J : Int) < (n : Int) := by omega
            by_cases hx : b[J] = 0#8
            · rw [hx] at hBx hcell
              rw [decide_eq_true rfl] at hBx
              subst hBx
              simp only [BitVec.toNat_ofNat, Nat.zero_mod, Int.natCast_zero] at hcell
              clear HF HCB HH HO HZr HB hx
              go_wp2_with fail
              go_meet
              exact ⟨rfl, rfl⟩
            · rw [decide_eq_false (fun e => by injection e with e; exact hx e)] at hBx
              subst hBx
              have hxi : ((b[J].toNat : Int) == 0) = false := by rw [beq_eq_false_iff_ne]; exact by_ne hx
              clear HF HCB HH HO HZr HB hx
              generalize b[J].toNat = y at *
              go_wp2_with fail
              go_meet
              exact ⟨rfl, rfl⟩
          · have hBx := HB.out
            rw [List.getElem?_eq_none (by have := HBN.out; omega), decide_eq_false (fun e => by cases e)] at hBx
            subst hBx
            have hJi : ¬ (J : Int) < (n : Int) := by omega
            clear HF HCB HH HO HZr HB
            go_wp2_with fail
            go_meet
            exact ⟨rfl, rfl⟩
        case rest =>
        obtain ⟨rfl, hwc⟩ := hcut
        subst hwc
        cases B with
        | true =>
          have hz := of_decide_eq_true HB.out
          have hJb : J < b.length := (List.getElem?_eq_some_iff.1 hz).1
          have HZ2 : Hid (Nw w7 wr ∧ ZrI b I (J + 1)) := ⟨HN7.out, by omega, by omega, fun j h1 h2 => by
            by_cases e : j = J
            · subst e; exact hz
            · exact HZr.out.z j h1 (by omega)⟩
          have hJn : J < n := by have := HBN.out; omega
          clear HF HCB HH HO HZr HB hz hJb
          go_wp2_with fail
          go_roundg (n - (J + 1))
          case measure => omega
          case rel => exact ⟨J + 1, by omega, by omega, by omega, by first | rfl | (congr 1), HZ2⟩
        | false =>
          have hEnd : J = b.length ∨ ∃ x, b[J]? = some x ∧ x ≠ 0#8 := by
            have hnz := of_decide_eq_false HB.out
            by_cases hJb : J < b.length
            · exact .inr ⟨b[J], List.getElem?_eq_getElem hJb, fun e => hnz (by rw [List.getElem?_eq_getElem hJb, e])⟩
            · exact .inl (by have := HBN.out; omega)
          have HE := tHid hEnd
          have HOr : Hid (OwR RBl gh (.slice (some ⟨gh, 0, none⟩) n n) hs wr) := HO.out.nw HN7.out
          have HSZr : Hid (W0.heap.size ≤ wr.heap.size) := Nat.le_trans HSZ.out HN7.out.size
          obtain ⟨w9, h⟩ : ∃ z, z = wr := ⟨_, rfl⟩
          subst h
          clear HB hEnd HO HSZ HNr
          go_upto_if 39 with fail
          go_cut [8] from 40 to 48 (fun k wx => Hid (∃ hs', Nw w wx ∧ W0.heap.size ≤ wx.heap.size ∧ OwR RBl gh (.slice (some ⟨gh, 0, none⟩) n n) hs' wx ∧ hs'.length = hs.length ∧ (N ≤ J - I → ∀ j, hs'[j]? = if I ≤ j ∧ j < J then some true else hs[j]?) ∧ (¬ N ≤ J - I → hs' = hs)))
          case first =>
            by_cases hNJ : N ≤ J - I
            · have hcond : Nz ≤ (J : Int) - (I : Int) := by have := HNN.out; omega
              have HL := tHid HH.out.len
              clear HF HCB HH HZr HE
              go_upto_region 11 with fail
              go_loopg [8] n (fun kx k wr => ∃ (K : Nat), I ≤ K ∧ K ≤ J ∧ J - K ≤ kx ∧ k = .int .i64 K ∧ Hid (∃ hs', Nw w wr ∧ W0.heap.size ≤ wr.heap.size ∧ OwR RBl gh (.slice (some ⟨gh, 0, none⟩) n n) hs' wr ∧ hs'.length = hs.length ∧ ∀ j, hs'[j]? = if I ≤ j ∧ j < K then some true else hs[j]?))
              case atStart => exact ⟨I, by omega, by omega, by omega, rfl, hs, HNr7.out, HSZr.out, HOr.out, rfl, fun j => by rw [if_neg (by omega)]⟩
              case round =>
                obtain ⟨K, hIK, hKJ, hkx3, rfl, HK⟩ := hrel
                obtain ⟨hs', e1, e5, e2, e3, e4⟩ := HK.out
                by_cases hK : K < J
                · have hKl : K < hs'.length := by have := HL.out; have := HBN.out; omega
                  obtain ⟨c0, c1⟩ := e2.atB K hKl
                  have e2' := e2.setB K true
                  obtain ⟨U, hU⟩ : ∃ U, wr.setCell ⟨gh, K, none⟩ (.bool true) = U := ⟨_, rfl⟩
                  rw [hU] at e2'
                  have HK2 : Hid (∃ hs', Nw w U ∧ W0.heap.size ≤ U.heap.size ∧ OwR RBl gh (.slice (some ⟨gh, 0, none⟩) n n) hs' U ∧ hs'.length = hs.length ∧ ∀ j, hs'[j]? = if I ≤ j ∧ j < K + 1 then some true else hs[j]?) := by
                    refine ⟨hs'.set K true, by rw [← hU]; exact e1.setCell _ _ (.inr (by rw [HGH.out]; exact Nat.le_refl _)), by rw [← hU, World.size_setCell]; exact e5, e2', by rw [List.length_set]; exact e3, fun j => ?_⟩
                    rw [List.getElem?_set]
                    by_cases ej : K = j
                    · subst ej; rw [if_pos rfl, if_pos hKl, if_pos ⟨hIK, by omega⟩]
                    · rw [if_neg ej, e4 j]
                      by_cases ec : I ≤ j ∧ j < K
                      · rw [if_pos ec, if_pos ⟨ec.1, by omega⟩]
                      · rw [if_neg ec, if_neg (by omega)]
                  generalize hs'[K] = yb at *
                  have hKn : (K : Int) < (n : Int) := by omega
                  have hKJi : (K : Int) < (J : Int) := by omega
                  clear HK e1 e2 e3 e4 e2' e5 HL HOr
                  go_wp2_with fail
                  go_roundg (J - (K + 1))
                  case measure => omega
                  case rel => exact ⟨K + 1, by omega, by omega, by omega, by first | rfl | (congr 1), HK2⟩
                · obtain rfl : K = J := by omega
                  clear HK HL HOr
                  go_wp2_with fail
                  go_meet
                  exact ⟨hs', e1, e5, e2, e3, fun _ => e4, fun h => absurd hNJ h⟩
            · have hcond : ¬ Nz ≤ (J : Int) - (I : Int) := by have := HNN.out; omega
              clear HF HCB HH HZr HE
              go_wp2_with fail
              go_meet
              exact ⟨hs, HNr7.out, HSZr.out, HOr.out, rfl, fun h => absurd h hNJ, fun _ => rfl⟩
          case rest =>
          obtain ⟨hs', e1, e5, e2, e3, e4, e6⟩ := hcut.out
          obtain ⟨w8, h⟩ : ∃ z, z = wc := ⟨_, rfl⟩
          subst h
          by_cases hJI : J = I
          · subst hJI
            have hb1 : J < b.length := by have := HBN.out; omega
            have hx : b[J] ≠ 0#8 := by
              rcases HE.out with e | ⟨x, q1, q2⟩
              · omega
              · rw [List.getElem?_eq_getElem hb1] at q1; injection q1 with q1; rw [q1]; exact q2
            have he : hs' = hs := e6 (by have := HNN.out; omega)
            have HNX : Hid (∃ hs, Nw w w8 ∧ HolI b N (J + 1) hs ∧ W0.heap.size ≤ w8.heap.size ∧ OwR RBl gh (.slice (some ⟨gh, 0, none⟩) n n) hs w8) := ⟨hs', e1, by rw [he]; exact HH.out.byte hb1 hx, e5, e2⟩
            clear HF HCB HH HOr HZr HE HNr7 HSZr HN7 e1 e2 e3 e4 e6 he hx hb1 e5 hcut
            go_wp2_with fail
            go_roundg (n - (J + 1))
            case measure => omega
            case rel => exact ⟨J + 1, by omega, by omega, by first | rfl | (congr 1), HNX⟩
          · have HNX : Hid (∃ hs, Nw w w8 ∧ HolI b N J hs ∧ W0.heap.size ≤ w8.heap.size ∧ OwR RBl gh (.slice (some ⟨gh, 0, none⟩) n n) hs w8) := by
              refine ⟨hs', e1, ?_, e5, e2⟩
              by_cases hNJ : N ≤ J - I
              · exact HH.out.long HZr.out hNJ (by have := HNN.out; omega) HE.out e3 (e4 hNJ)
              · rw [e6 hNJ]; exact HH.out.short HZr.out (by omega) hNJ HE.out
            have hJi : ¬ ((J : Int) = (I : Int)) := by omega
            clear HF HCB HH HOr HZr HE HNr7 HSZr HN7 e1 e2 e3 e4 e6 e5 hcut
            go_wp2_with fail
            go_roundg (n - J)
            case measure => omega
            case rel => exact ⟨J, by omega, by omega, rfl, HNX⟩
    · obtain rfl : n = I := by omega
      have HH := tHid hH
      obtain ⟨V0, hV0⟩ : ∃ V0, wr.alloc (.cells #[] 29) = V0 := ⟨_, rfl⟩
      have HOh : Hid (OwR RBl gh (.slice (some ⟨gh, 0, none⟩) n n) hs V0) := by rw [← hV0]; exact hO.nw ((Fr.refl _ _).alloc _)
      have HNV : Hid (Nw w V0) := by rw [← hV0]; exact hNr.alloc _
      have HO9 : Hid (OwR RG wr.heap.size (.slice (some ⟨wr.heap.size, 0, none⟩) 0 0) [] V0) := by rw [← hV0]; exact OwR.empty (R := RG) wr
      have hg9 : w.heap.size ≤ wr.heap.size ∧ gh < wr.heap.size := ⟨hNr.size, hO.lt⟩
      obtain ⟨hg91, hg92⟩ := hg9
      obtain ⟨g9, hg9⟩ : ∃ g9, wr.heap.size = g9 := ⟨_, rfl⟩
      rw [hg9] at HO9 hg91 hg92
      have HG9 := tHid hg9
      have HV0 := tHid hV0
      clear HI hH hO hNr hsz HO0 HN0 hg9 hV0
      go_upto_region 19 with fail
      rw [HV0.out, HG9.out]
      clear HV0 HG9
      go_loopg [9, 10] n (fun kx v i wr => ∃ (I g m cc : Nat), I ≤ n ∧ n - I ≤ kx ∧ m ≤ I ∧ m ≤ cc ∧ cc < 9223372036854775808 ∧ v = .slice (some ⟨g, 0, none⟩) m cc ∧ i = .int .i64 I ∧ Hid (∃ l, Nw w wr ∧ l.length = m ∧ ArI b N I l ∧ OwR RG g (.slice (some ⟨g, 0, none⟩) m cc) (rgL l) wr ∧ w.heap.size ≤ g ∧ g ≠ gh ∧ OwR RBl gh (.slice (some ⟨gh, 0, none⟩) n n) hs wr))
      case atStart => exact ⟨0, g9, 0, 0, by omega, by omega, by omega, by omega, by omega, rfl, rfl, [], HNV.out, rfl, ArI.start b N, HO9.out, hg91, by omega, HOh.out⟩
      case round =>
        obtain ⟨I, g, m, cc, hI, hkx, hmI, hmc, hcc, rfl, rfl, HI⟩ := hrel
        obtain ⟨l, hNr, hlm, hAr, hO, hg, hgne, hOh⟩ := HI.out
        by_cases hlt : I < n
        · have hIb : I < b.length := by have := HBN.out; omega
          have hIh : I < hs.length := by rw [HH.out.len]; exact hIb
          obtain ⟨c0, _⟩ := hOh.atB I hIh
          have hmem := HH.out.mem I hIb
          rw [List.getElem?_eq_getElem hIh] at hmem
          have hIi : (I : Int) < (n : Int) := by omega
          cases hh : hs[I] with
          | true =>
            rw [hh] at hmem c0
            have HNX : Hid (∃ l, Nw w wr ∧ l.length = m ∧ ArI b N (I + 1) l ∧ OwR RG g (.slice (some ⟨g, 0, none⟩) m cc) (rgL l) wr ∧ w.heap.size ≤ g ∧ g ≠ gh ∧ OwR RBl gh (.slice (some ⟨gh, 0, none⟩) n n) hs wr) := ⟨l, hNr, hlm, hAr.hole hIb (hmem.1 rfl).2, hO, hg, hgne, hOh⟩
            clear HF HCB HH HI hNr hlm hAr hO hg hgne hOh HOh HNV HO9 hmem hh
            go_wp2_with fail
            go_roundg (n - (I + 1))
            case measure => omega
            case rel => exact ⟨I + 1, g, m, cc, by omega, by omega, by omega, by omega, by omega, rfl, by first | rfl | (congr 1), HNX⟩
          | false =>
            rw [hh] at hmem c0
            have hnI : ¬ InH b N I := fun e => by
              have := hmem.2 ⟨by have := HBN.out; omega, e⟩
              injection this with this
              cases this
            have HPU : Hid ((∀ x, l.getLast? = some x → x.2 ≠ I) → ∃ g' m' c' W, Hid (∀ ty, (Builtin.append_ #[23, 23] ty #[.slice (some ⟨g, 0, none⟩) m cc, .slice (some ⟨wr.heap.size, 0, none⟩) 1 1]).run Try.prog (wr.alloc (.cells #[.int .i64 (I : Int), .int .i64 ((I + 1 : Nat) : Int)] 29)) = .ok (.slice (some ⟨g', 0, none⟩) m' c') W) ∧ m' = m + 1 ∧ m' ≤ c' ∧ c' < 9223372036854775808 ∧ Hid (∃ l, Nw w W ∧ l.length = m' ∧ ArI b N (I + 1) l ∧ OwR RG g' (.slice (some ⟨g', 0, none⟩) m' c') (rgL l) W ∧ w.heap.size ≤ g' ∧ g' ≠ gh ∧ OwR RBl gh (.slice (some ⟨gh, 0, none⟩) n n) hs W)) := fun hla => by
              obtain ⟨g', m', c', W, q1, q2, q3, q4⟩ := pushO wr g m cc (rgL l) hO (by rw [rgL_len]; omega) ((I : Int), ((I + 1 : Nat) : Int))
              have hghl := hOh.lt
              have hwr := hNr.size
              have hg' : w.heap.size ≤ g' ∧ g' ≠ gh := by rcases q4 with e | e <;> omega
              obtain ⟨c'', e, p1, p2⟩ := q2.form
              injection e with _ e1 e2
              rw [List.length_append, rgL_len, List.length_singleton, hlm] at e1
              rw [List.length_append, rgL_len, List.length_singleton, hlm] at p1
              refine ⟨g', m', c', W, q1, e1, by omega, by omega, l ++ [(I, I + 1)], hNr.then q3 (fun i hi => .inr (by omega)), by rw [List.length_append, List.length_singleton]; omega, hAr.new hIb hnI (hAr.last hla), by rw [rgL_snoc]; exact q2, hg'.1, hg'.2, hOh.kept q3 (fun e => hgne e.symm)⟩
            by_cases hm0 : m = 0
            · obtain ⟨g', m', c', W, HA, e1, e2, e3, HNX⟩ := HPU.out (fun x hx => by
                have : l = [] := List.eq_nil_of_length_eq_zero (by omega)
                subst this
                simp at hx)
              have hmI' : m' ≤ I + 1 := by omega
              clear e1
              have hI1 : (I : Int) + 1 = ((I + 1 : Nat) : Int) := by omega
              obtain ⟨I1, hI1'⟩ : ∃ I1, I + 1 = I1 := ⟨_, rfl⟩
              rw [hI1'] at HA hI1
              subst hm0
              clear HF HCB HH HI hNr hlm hAr hO hg hgne hOh HOh HNV HO9 hmem hh HPU hI1'
              go_wp2_with (first
                | (at_builtin; refine Lib.wpList_append_run _ rfl _ _ 23 23 rfl (.slice (some ⟨g, 0, none⟩) 0 cc) (.slice (some ⟨wr.heap.size, 0, none⟩) 1 1) (by first | rfl | simp [Act.eval]) (by first | rfl | simp [Act.eval]) _ _ (HA.out _) ?_))
              go_roundg (n - (I + 1))
              case measure => omega
              case rel => exact ⟨I + 1, g', m', c', by omega, by omega, by omega, by omega, by omega, rfl, by first | rfl | (congr 1; omega), HNX⟩
            · obtain ⟨J, hJ⟩ : ∃ J, m = J + 1 := ⟨m - 1, by omega⟩
              obtain ⟨s, f, t, hs3, hsl⟩ := last_at l J (by omega)
              have hJl : J < (rgL l).length := by rw [rgL_len]; omega
              have hlJ : (rgL l)[J]'hJl = ((f : Int), (t : Int)) := by
                have h1 : (rgL l)[J]? = some ((f : Int), (t : Int)) := by
                  rw [hs3, rgL_snoc, List.getElem?_append_right (by rw [rgL_len]; omega), rgL_len, hsl, Nat.sub_self]
                  rfl
                rw [List.getElem?_eq_getElem hJl] at h1
                injection h1
              obtain ⟨y0, y1⟩ := hO.cell rgOk J 1 _ _ (List.getElem?_eq_getElem hJl) rfl
              rw [hlJ] at y0
              have hk : RG.k = 2 := rfl
              rw [hk] at y0 y1
              have hmi : (0 : Int) < (m : Int) := by omega
              have hmJ : (m : Int) - 1 = (J : Int) := by omega
              have hJm : (J : Int) < (m : Int) := by omega
              have hmcI : (m : Int) ≤ (cc : Int) := by omega
              have htI : t ≤ I := (hAr.each (f, t) (by rw [hs3]; simp)).2
              by_cases hte : t = I
              · subst hte
                have hset := hO.set2 J hJl ((t + 1 : Nat) : Int)
                have hls : (rgL l).set J (((rgL l)[J]'hJl).1, ((t + 1 : Nat) : Int)) = rgL (s ++ [(f, t + 1)]) := by
                  rw [hlJ, hs3, rgL_snoc, rgL_snoc, List.set_append_right (s := rgL s) J _ (by rw [rgL_len]; omega), rgL_len, hsl, Nat.sub_self]
                  rfl
                rw [hls] at hset
                obtain ⟨U, hU⟩ : ∃ U, wr.setCell ⟨g, J * 2 + 1, none⟩ (.int .i64 ((t + 1 : Nat) : Int)) = U := ⟨_, rfl⟩
                rw [hU] at hset
                have HNX : Hid (∃ l, Nw w U ∧ l.length = m ∧ ArI b N (t + 1) l ∧ OwR RG g (.slice (some ⟨g, 0, none⟩) m cc) (rgL l) U ∧ w.heap.size ≤ g ∧ g ≠ gh ∧ OwR RBl gh (.slice (some ⟨gh, 0, none⟩) n n) hs U) := by
                  refine ⟨s ++ [(f, t + 1)], by rw [← hU]; exact hNr.setCell _ _ (.inr hg), by rw [List.length_append, List.length_singleton]; omega, ?_, hset, hg, hgne, ?_⟩
                  · rw [hs3] at hAr; exact hAr.grow hIb hnI
                  · rw [← hU]
                    exact hOh.kept ((Fr.refl (fun k => k = g) _).setCell _ _ (.inl rfl)) (fun e => hgne e.symm)
                have hI1 : (t : Int) + 1 = ((t + 1 : Nat) : Int) := by omega
                obtain ⟨I1, hI1'⟩ : ∃ I1, t + 1 = I1 := ⟨_, rfl⟩
                rw [hI1'] at hU hI1
                clear HF HCB HH HI hNr hlm hAr hO hg hgne hOh HOh HNV HO9 hmem hh HPU hI1' hset hls hlJ hs3 hsl hk hJ
                go_wp2_with fail
                go_roundg (n - (t + 1))
                case measure => omega
                case rel => exact ⟨t + 1, g, m, cc, by omega, by omega, by omega, by omega, by omega, rfl, by first | rfl | (congr 1; omega), HNX⟩
              · obtain ⟨g', m', c', W, HA, e1, e2, e3, HNX⟩ := HPU.out (fun x hx => by
                  rw [hs3] at hx
                  simp at hx
                  rw [← hx]; exact hte)
                have hmI' : m' ≤ I + 1 := by omega
                clear e1
                have hti : ¬ ((t : Int) = (I : Int)) := by omega
                have htb : ((t : Int) == (I : Int)) = false := by rw [beq_eq_false_iff_ne]; exact hti
                have hI1 : (I : Int) + 1 = ((I + 1 : Nat) : Int) := by omega
                obtain ⟨I1, hI1'⟩ : ∃ I1, I + 1 = I1 := ⟨_, rfl⟩
                rw [hI1'] at HA hI1
                clear HF HCB HH HI hNr hlm hAr hO hg hgne hOh HOh HNV HO9 hmem hh HPU hI1' hlJ hs3 hsl hk hJ
                go_wp2_with (first
                  | (at_builtin; refine Lib.wpList_append_run _ rfl _ _ 23 23 rfl (.slice (some ⟨g, 0, none⟩) m cc) (.slice (some ⟨wr.heap.size, 0, none⟩) 1 1) (by first | rfl | simp [Act.eval]) (by first | rfl | simp [Act.eval]) _ _ (HA.out _) ?_))
                go_roundg (n - (I + 1))
                case measure => omega
                case rel => exact ⟨I + 1, g', m', c', by omega, by omega, by omega, by omega, by omega, rfl, by first | rfl | (congr 1; omega), HNX⟩
        · obtain rfl : n = I := by omega
          have hfin := HBN.out
          subst hfin
          have HF2 := tHid (HF.out wr g m cc l hNr hAr.fin hlm hg hO)
          clear HF HCB HH HI hNr hlm hAr hO hg hgne hOh HOh HNV HO9
          go_wp2_with fail
          first | exact HF2.out | (go_ret; exact HF2.out)
end Go.Proofs.Ytffhpoilifgcdaa

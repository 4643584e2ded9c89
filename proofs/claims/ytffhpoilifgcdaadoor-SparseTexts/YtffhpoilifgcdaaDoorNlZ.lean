import Derived.Test.YtffhpoilifgcdaaDoorNlY
namespace Go.Proofs.YtffhpoilifgcdaaDoor
open Go.RowKit
set_option linter.unusedVariables false
/-! ### Read's numbers -/
def TX (Tb : Nat) (a : Option Addr) (n c P : Nat) (V : World) : Prop := V.heap[Tb]? = some (.cells #[.slice a n c, .int .i64 (P : Int)] 54)
theorem TX.cells {Tb : Nat} {a : Option Addr} {n c P : Nat} {V : World} (h : TX Tb a n c P V) : V.cell? ⟨Tb, 0, none⟩ = some (.slice a n c) ∧ V.cell? ⟨Tb, 1, none⟩ = some (.int .i64 (P : Int)) ∧ V.frozen? ⟨Tb, 1, none⟩ = false := by
  unfold TX at h
  refine ⟨?_, ?_, ?_⟩ <;> simp [World.cell?, World.frozen?, h]
theorem TX.kept {Tb : Nat} {a : Option Addr} {n c P : Nat} {V V' : World} {X : Nat → Prop} (h : TX Tb a n c P V) (f : Fr X V V') (hx : ¬ X Tb) : TX Tb a n c P V' := f.heapv h hx
theorem TX.set {Tb : Nat} {a : Option Addr} {n c P : Nat} {V : World} (h : TX Tb a n c P V) (Q : Nat) : TX Tb a n c Q (V.setCell ⟨Tb, 1, none⟩ (.int .i64 (Q : Int))) ∧ Fr (fun k => k = Tb) V (V.setCell ⟨Tb, 1, none⟩ (.int .i64 (Q : Int))) := by
  refine ⟨?_, (Fr.refl _ _).setCell _ _ (.inl rfl)⟩
  unfold TX at h ⊢
  simp [World.setCell, Array.getElem?_modify, h]
def NuA (w : World) (Tb : Nat) (a : Option Addr) (n c P : Nat) (r : Nat × Nat × Nat) (e : Ending) (V : World) : Prop := e = .returned (.tuple #[.int .i64 (r.1 : Int), .int .i64 (r.2.2 : Int)]) ∧ Hid (Fr (fun k => k = Tb) w V ∧ TX Tb a n c (P + r.2.1) V)
def badD (N I y : Nat) : Prop := y < 48 ∨ 57 < y ∨ (0 < I ∧ N = 0) ∨ (9223372036854775807 - (y - 48)) / 10 < N
instance (N I y : Nat) : Decidable (badD N I y) := by unfold badD; infer_instance
theorem tdiv10 (d : Nat) (hd : d ≤ 9) : ((9223372036854775807 : Int) - (d : Int)).tdiv 10 = (((9223372036854775807 - d) / 10 : Nat) : Int) := by
  rw [Int.tdiv_eq_ediv_of_nonneg (by omega)]; omega
set_option maxHeartbeats 16000000 in
set_option maxRecDepth 100000 in
theorem number_any15 {X : Nat → Prop} (w : World) (Tb : Nat) (a : Option Addr) (n c P : Nat) (b : List By) (hb : Sl X (.slice a n c) b w) (hn : n ≤ 140737488351232) (hP : P ≤ n) (hT : TX Tb a n c P w) :
    Calls Tryd.prog 42 #[.pointer (some ⟨Tb, 0, none⟩)] w (NuA w Tb a n c P (nr 0 0 (b.drop P))) := by
  obtain ⟨Q, hQ⟩ : ∃ Q : Ending → World → Prop, Q = NuA w Tb a n c P (nr 0 0 (b.drop P)) := ⟨_, rfl⟩
  rw [← hQ]
  obtain ⟨hbn, k1, k2⟩ := slx_len hb
  obtain ⟨t0, t1, t2⟩ := hT.cells
  have HBad : Hid (∀ V e, Nw w V → nr 0 0 (b.drop P) = (0, 0, e) → Q (.returned (.tuple #[.int .i64 0, .int .i64 (e : Int)])) V) := fun V e hV he => by
    rw [hQ, he]
    exact ⟨rfl, hV.any, hT.kept hV (fun h => h)⟩
  have HOk : Hid (∀ V N I, Nw w V → nr 0 0 (b.drop P) = (N, I + 1, 0) → Q (.returned (.tuple #[.int .i64 (N : Int), .int .i64 0])) (V.setCell ⟨Tb, 1, none⟩ (.int .i64 ((P + (I + 1) : Nat) : Int)))) := fun V N I hV he => by
    rw [hQ, he]
    obtain ⟨q1, q2⟩ := (hT.kept hV (fun h => h)).set (P + (I + 1))
    exact ⟨rfl, hV.any.trans q2, q1⟩
  have HCB : Hid (∀ V, Nw w V → ∀ i (h : i < b.length), ∃ g o, a = some ⟨g, o, none⟩ ∧ V.cell? ⟨g, o + i, none⟩ = some (.int .u8 b[i].toNat)) := fun V hV i h => slx_at (hb.nw hV) i h
  have HTC : Hid (∀ V, Nw w V → V.cell? ⟨Tb, 1, none⟩ = some (.int .i64 (P : Int)) ∧ V.frozen? ⟨Tb, 1, none⟩ = false) := fun V hV => by
    have := (hT.kept hV (fun h => h)).cells
    exact ⟨this.2.1, this.2.2⟩
  have hPi : (P : Int) ≤ (n : Int) := by omega
  have hnc : (n : Int) ≤ (c : Int) := by omega
  by_cases hc : P < c
  · obtain ⟨gb, ob, rfl⟩ : ∃ gb ob, a = some ⟨gb, ob, none⟩ := by
      rcases hb with ⟨_, e, _⟩ | ⟨gb, _, ob, _, e, _⟩
      · injection e with e1 e2 e3; omega
      · injection e with e1 e2 e3; exact ⟨gb, ob, e1⟩
    have HCx : Hid (∀ V, Nw w V → ∀ i (h : P + i < b.length), V.cell? ⟨gb, ob + P + i, none⟩ = some (.int .u8 (b[P + i]'h).toNat)) := fun V hV i h => by
      obtain ⟨g, o, e, e1⟩ := HCB.out V hV (P + i) h
      injection e with e
      injection e with e2 e3
      subst e2 e3
      rw [Nat.add_assoc]; exact e1
    obtain ⟨L, hL⟩ : ∃ L, n - P = L := ⟨_, rfl⟩
    obtain ⟨C1, hC1⟩ : ∃ C1, c - P = C1 := ⟨_, rfl⟩
    have e3 : ¬ c ≤ P := by omega
    have e5 : ¬ c = P := by omega
    have e6 : (n : Int) - (P : Int) = (L : Int) := by omega
    have HBN := tHid hbn
    clear hQ hT hb hbn HCB
    go_enter Tryd.func42, Tryd.ntmps42
    go_upto_region 2 with fail
    go_quiet (fail)
    go_upto_region 3 with fail
    go_loopg [4, 19] L (fun kx nn i wr => ∃ (I N : Nat), I ≤ L ∧ L - I ≤ kx ∧ N ≤ 9223372036854775807 ∧ nn = .int .i64 N ∧ i = .int .i64 I ∧ Hid (Nw w wr ∧ nr 0 0 (b.drop P) = nr N I (b.drop (P + I))))
    case atStart => exact ⟨0, 0, by omega, by omega, by omega, rfl, rfl, (Fr.refl _ _).drewN _, rfl⟩
    case round =>
      obtain ⟨I, N, hI, hkx, hN, rfl, rfl, HI⟩ := hrel
      obtain ⟨hNw, hnr⟩ := HI.out
      by_cases hlt : I < L
      · have hltb : P + I < b.length := by have := HBN.out; omega
        have hcell := HCx.out wr hNw I hltb
        obtain ⟨u1, u2⟩ := HTC.out wr hNw
        rw [List.drop_eq_getElem_cons hltb] at hnr
        have hy8 := (b[P + I]'hltb).isLt
        have hxe : ∀ z : Nat, z < 256 → (b[P + I]'hltb).toNat = z → b[P + I]'hltb = BitVec.ofNat 8 z := fun z hz h => BitVec.eq_of_toNat_eq (by rw [h, BitVec.toNat_ofNat]; omega)
        obtain ⟨y, hy⟩ : ∃ y, (b[P + I]'hltb).toNat = y := ⟨_, rfl⟩
        rw [hy] at hcell hy8
        have HLF : Hid (y = 10 → 0 < I → nr 0 0 (b.drop P) = (N, I + 1, 0)) := fun h1 h2 => by
          rw [hnr, hxe 10 (by omega) (by rw [hy, h1])]; exact nr_lf _ _ _ h2
        have HBB : Hid (¬ (y = 10 ∧ 0 < I) → badD N I y → nr 0 0 (b.drop P) = (0, 0, 3)) := fun h1 h2 => by
          rw [hnr]
          exact nr_bad _ _ _ _ (fun h => h1 ⟨by rw [← hy, h.1]; rfl, h.2⟩) (by rw [hy]; exact h2)
        have HGO : Hid (¬ (y = 10 ∧ 0 < I) → ¬ badD N I y → nr 0 0 (b.drop P) = nr (N * 10 + (y - 48)) (I + 1) (b.drop (P + (I + 1)))) := fun h1 h2 => by
          rw [hnr, nr_go _ _ _ _ (fun h => h1 ⟨by rw [← hy, h.1]; rfl, h.2⟩) (by rw [hy]; exact h2), hy]
          rfl
        have HN := tHid hNw
        clear HI hnr hxe hy hNw
        have hIl : (I : Int) < (L : Int) := by omega
        go_upto_region 5 with fail
        obtain ⟨B, hB⟩ : ∃ B, decide (y = 10 ∧ 0 < I) = B := ⟨_, rfl⟩
        have HB := tHid hB
        clear hB
        go_cut [29] from 24 to 29 (fun q wx => q = .bool B ∧ wr = wx)
        case first =>
          have hB := HB.out
          clear HBad HOk HCx HTC HLF HBB HGO HN HB u1 u2 hcell
          by_cases h10 : y = 10
          · subst h10
            by_cases hI0 : 0 < I
            · have : B = true := by rw [← hB]; exact decide_eq_true ⟨rfl, hI0⟩
              subst this
              have hI0i : (0 : Int) < (I : Int) := by omega
              clear hB
              go_wp2_with fail
              go_meet
              exact ⟨rfl, rfl⟩
            · have : B = false := by rw [← hB]; exact decide_eq_false (fun h => hI0 h.2)
              subst this
              have hI0i : ¬ (0 : Int) < (I : Int) := by omega
              clear hB
              go_wp2_with fail
              go_meet
              exact ⟨rfl, rfl⟩
          · have : B = false := by rw [← hB]; exact decide_eq_false (fun h => h10 h.1)
            subst this
            have h10i : ¬ ((y : Int) = 10) := by omega
            clear hB
            go_wp2_with fail
            go_meet
            exact ⟨rfl, rfl⟩
        case rest =>
        obtain ⟨rfl, hwc⟩ := hcut
        subst hwc
        have hBB := HB.out
        cases B with
        | true =>
          obtain ⟨h10, hI0⟩ := of_decide_eq_true hBB
          have HQ := tHid (HOk.out wr N I HN.out (HLF.out h10 hI0))
          obtain ⟨I1, hI1⟩ : ∃ I1, I + 1 = I1 := ⟨_, rfl⟩
          obtain ⟨PI, hPI⟩ : ∃ PI, P + I1 = PI := ⟨_, rfl⟩
          rw [hI1, hPI] at HQ
          have j1 : (I : Int) + 1 = (I1 : Int) := by omega
          have j2 : (P : Int) + (I1 : Int) = (PI : Int) := by omega
          clear HBad HOk HCx HTC HLF HBB HGO HN HB hBB hI1 hPI h10 hI0 hcell
          go_wp2_with fail
          first | exact HQ.out | (go_ret; exact HQ.out)
        | false =>
          have hnB := of_decide_eq_false hBB
          obtain ⟨d, hd⟩ : ∃ d : Int, (y : Int) - 48 = d := ⟨_, rfl⟩
          have HD := tHid hd
          obtain ⟨Z, hZ⟩ : ∃ Z, decide (0 < I ∧ N = 0) = Z := ⟨_, rfl⟩
          have HZ := tHid hZ
          obtain ⟨C, hC⟩ : ∃ C, decide (badD N I y) = C := ⟨_, rfl⟩
          have HC := tHid hC
          have HNB := tHid hnB
          clear hZ hC hnB hBB HB hcell u1 u2
          go_upto_region 9 with fail
          clear hd
          go_cut [8] from 43 to 48 (fun q wx => q = .bool Z ∧ wr = wx)
          case first =>
            have hZ := HZ.out
            clear HBad HOk HCx HTC HLF HBB HGO HN HZ HC HNB HD
            by_cases hI0 : 0 < I
            · have hI0i : (0 : Int) < (I : Int) := by omega
              by_cases hN0 : N = 0
              · have : Z = true := by rw [← hZ]; exact decide_eq_true ⟨hI0, hN0⟩
                subst this
                subst hN0
                clear hZ
                go_wp2_with fail
                go_meet
                exact ⟨rfl, rfl⟩
              · have : Z = false := by rw [← hZ]; exact decide_eq_false (fun h => hN0 h.2)
                subst this
                have hN0i : ((N : Int) == 0) = false := by rw [beq_eq_false_iff_ne]; omega
                clear hZ
                go_wp2_with fail
                go_meet
                exact ⟨rfl, rfl⟩
            · have : Z = false := by rw [← hZ]; exact decide_eq_false (fun h => hI0 h.1)
              subst this
              have hI0i : ¬ (0 : Int) < (I : Int) := by omega
              clear hZ
              go_wp2_with fail
              go_meet
              exact ⟨rfl, rfl⟩
          case rest =>
          obtain ⟨rfl, hwc⟩ := hcut
          subst hwc
          go_upto_region 10 with fail
          go_cut [64] from 49 to 64 (fun q wx => q = .bool C ∧ wr = wx)
          case first =>
            have hC := HC.out
            have hZ := HZ.out
            have hd := HD.out
            clear HBad HOk HCx HTC HLF HBB HGO HN HZ HC HNB HD
            have hCt : badD N I y → C = true := fun h => by rw [← hC]; exact decide_eq_true h
            have hCf : ¬ badD N I y → C = false := fun h => by rw [← hC]; exact decide_eq_false h
            clear hC
            by_cases hd0 : d < 0
            · have : C = true := hCt (show badD N I y from .inl (by omega))
              subst this
              clear hCt hCf hZ hd
              go_wp2_with fail
              go_meet
              exact ⟨rfl, rfl⟩
            · by_cases hd9 : 9 < d
              · have : C = true := hCt (show badD N I y from .inr (.inl (by omega)))
                subst this
                clear hCt hCf hZ hd
                go_wp2_with fail
                go_meet
                exact ⟨rfl, rfl⟩
              · cases Z with
                | true =>
                  have : C = true := hCt (show badD N I y from .inr (.inr (.inl (of_decide_eq_true hZ))))
                  subst this
                  clear hCt hCf hZ hd
                  go_wp2_with fail
                  go_meet
                  exact ⟨rfl, rfl⟩
                | false =>
                  obtain ⟨dn, hdn⟩ : ∃ dn : Nat, d = dn := ⟨d.toNat, by omega⟩
                  subst hdn
                  have hnz := of_decide_eq_false hZ
                  have htd := tdiv10 dn (by omega)
                  obtain ⟨qn, hqn⟩ : ∃ qn, (9223372036854775807 - dn) / 10 = qn := ⟨_, rfl⟩
                  have hyd : y - 48 = dn := by omega
                  rw [hqn] at htd
                  have hq1 : ((9223372036854775807 : Int) - (dn : Int)) / 10 = (qn : Int) := by omega
                  by_cases hov : qn < N
                  · have : C = true := hCt (show badD N I y from .inr (.inr (.inr (by rw [hyd, hqn]; exact hov))))
                    subst this
                    have hovi : (qn : Int) < (N : Int) := by omega
                    clear hCt hCf hZ hd hnz hqn hyd
                    go_wp2_with fail
                    go_meet
                    exact ⟨rfl, rfl⟩
                  · have : C = false := hCf (fun h => by
                      unfold badD at h
                      rw [hyd, hqn] at h
                      rcases h with h | h | h | h
                      · omega
                      · omega
                      · exact hnz h
                      · exact hov h)
                    subst this
                    have hovi : ¬ (qn : Int) < (N : Int) := by omega
                    clear hCt hCf hZ hd hnz hqn hyd
                    go_wp2_with fail
                    go_meet
                    exact ⟨rfl, rfl⟩
          case rest =>
          obtain ⟨rfl, hwc⟩ := hcut
          subst hwc
          have hCC := HC.out
          cases C with
          | true =>
            have HQ := tHid (HBad.out wr 3 HN.out (HBB.out HNB.out (of_decide_eq_true hCC)))
            clear HBad HOk HCx HTC HLF HBB HGO HN HC HNB HD HZ hCC
            go_wp2_with fail
            first | exact HQ.out | (go_ret; exact HQ.out)
          | false =>
            have hnb := of_decide_eq_false hCC
            have hg := HGO.out HNB.out hnb
            unfold badD at hnb
            obtain ⟨dn, hdn⟩ : ∃ dn : Nat, d = dn := ⟨d.toNat, by have := HD.out; omega⟩
            subst hdn
            have hyd : y - 48 = dn := by have := HD.out; omega
            rw [hyd] at hg hnb
            have hbound : N * 10 + dn ≤ 9223372036854775807 := by
              have h1 : N ≤ (9223372036854775807 - dn) / 10 := by omega
              rw [Nat.le_div_iff_mul_le (by omega)] at h1
              omega
            obtain ⟨N1, hN1⟩ : ∃ N1, N * 10 = N1 := ⟨_, rfl⟩
            obtain ⟨N2, hN2⟩ : ∃ N2, N1 + dn = N2 := ⟨_, rfl⟩
            rw [hN1, hN2] at hg hbound
            have j1 : (N : Int) * 10 = (N1 : Int) := by omega
            have j2 : (N1 : Int) + (dn : Int) = (N2 : Int) := by omega
            have j3 : N1 ≤ 9223372036854775807 := by omega
            have HNX : Hid (Nw w wr ∧ nr 0 0 (b.drop P) = nr N2 (I + 1) (b.drop (P + (I + 1)))) := ⟨HN.out, hg⟩
            clear HBad HOk HCx HTC HLF HBB HGO HN HC HNB HD HZ hCC hnb hg hyd hN1 hN2
            go_wp2_with fail
            go_roundg (L - (I + 1))
            case measure => omega
            case rel => exact ⟨I + 1, N2, by omega, by omega, by omega, rfl, by first | rfl | (congr 1), HNX⟩
      · have HQ := tHid (HBad.out wr 4 hNw (by rw [hnr, List.drop_eq_nil_of_le (by have := HBN.out; omega)]; rfl))
        obtain rfl : I = L := by omega
        clear HBad HOk HCx HTC HI hNw hnr
        go_wp2_with fail
        first | exact HQ.out | (go_ret; exact HQ.out)
  · obtain rfl : n = P := by omega
    obtain rfl : c = n := by omega
    have HQ : Hid (∀ V, Nw w V → Q (.returned (.tuple #[.int .i64 0, .int .i64 4])) V) := fun V hV => HBad.out V 4 hV (by rw [List.drop_eq_nil_of_le (by omega)]; rfl)
    cases a with
    | none =>
      have h0 : c = 0 := by
        rcases hb with ⟨_, e, _⟩ | ⟨gb, _, ob, _, e, _⟩
        · injection e with e1 e2 e3
        · injection e with e1 e2 e3; cases e1
      subst h0
      simp only [Int.natCast_zero] at t1
      clear hQ hT hb hbn HCB HBad HOk HTC
      go_enter Tryd.func42, Tryd.ntmps42
      go_upto_region 2 with fail
      go_quiet (fail)
      go_upto_region 3 with fail
      go_loopg [19] 0 (fun kx i wr => i = .int .i64 0 ∧ Hid (Nw w wr))
      case atStart => exact ⟨rfl, (Fr.refl _ _).drewN _⟩
      case round =>
        obtain ⟨rfl, HR⟩ := hrel
        have HQ2 := tHid (HQ.out wr HR.out)
        clear HQ
        go_wp2_with fail
        first | exact HQ2.out | (go_ret; exact HQ2.out)
    | some ad =>
      clear hQ hT hb hbn HCB HBad HOk HTC
      go_enter Tryd.func42, Tryd.ntmps42
      go_upto_region 2 with fail
      go_quiet (fail)
      go_upto_region 3 with fail
      go_loopg [19] 0 (fun kx i wr => i = .int .i64 0 ∧ Hid (Nw w wr))
      case atStart => exact ⟨rfl, (Fr.refl _ _).drewN _⟩
      case round =>
        obtain ⟨rfl, HR⟩ := hrel
        have HQ2 := tHid (HQ.out wr HR.out)
        clear HQ
        go_wp2_with fail
        first | exact HQ2.out | (go_ret; exact HQ2.out)
end Go.Proofs.YtffhpoilifgcdaaDoor

import Derived.Test.YtffhpoilifgcdaaDoorVav
namespace Go.Proofs.YtffhpoilifgcdaaDoor
open Go.RowKit
set_option linter.unusedVariables false
/-! ### Read -/
def rsT (b : List By) : List (Nat × Nat) × Nat × Nat :=
  let r := nr 0 0 b
  if r.2.2 ≠ 0 then ([], 0, r.2.2) else
  if 65536 < r.1 then ([], 0, 2) else rdA b r.1 0 r.2.1 []
theorem rdT_rs (b : List By) : rdT b = if (rsT b).2.2 ≠ 0 then ([], 0, (rsT b).2.2) else if (zrF b (padN (rsT b).2.1) (rsT b).2.1).2 ≠ 0 then ([], 0, (zrF b (padN (rsT b).2.1) (rsT b).2.1).2) else ((rsT b).1, (zrF b (padN (rsT b).2.1) (rsT b).2.1).1, 0) := by
  unfold rdT rsT
  simp only
  by_cases h1 : (nr 0 0 b).2.2 ≠ 0
  · rw [if_pos h1, if_pos h1]
    simp only
    rw [if_pos h1]
  · rw [if_neg h1, if_neg h1]
    by_cases h2 : 65536 < (nr 0 0 b).1
    · rw [if_pos h2, if_pos h2]
      simp
    · rw [if_neg h2, if_neg h2]
def RsA (w : World) (Tb : Nat) (a : Option Addr) (n c : Nat) (r : List (Nat × Nat) × Nat × Nat) (e : Ending) (V : World) : Prop := ∃ a' m' c', e = .returned (.tuple #[.slice a' m' c', .int .i64 (r.2.2 : Int)]) ∧ Hid (Fr (fun k => k = Tb) w V ∧ (r.2.2 = 0 → TX Tb a n c r.2.1 V ∧ NewG w (.slice a' m' c') (rgL r.1) V))
/-- How the loop of ranges stands. -/
structure RsI (w : World) (Tb : Nat) (a : Option Addr) (n c : Nat) (b : List By) (cnt I E p : Nat) (v : Value) (R : List (Nat × Nat) × Nat × Nat) (V : World) : Prop where
  fr : Fr (fun k => k = Tb) w V
  tx : TX Tb a n c p V
  pn : p ≤ n
  ls : ∃ og acc, OgR RG og v (rgL acc) V ∧ (∀ g, og = some g → w.heap.size ≤ g) ∧ acc.length = I ∧ R = rdA b (cnt - I) E p acc
set_option maxHeartbeats 16000000 in
set_option maxRecDepth 100000 in
theorem rs_any (w : World) (Tb : Nat) (a : Option Addr) (n c : Nat) (b : List By) (hb : Sl (fun k => k = Tb ∨ w.heap.size ≤ k) (.slice a n c) b w) (hn : n ≤ 140737488351232) (hT : TX Tb a n c 0 w) :
    Calls Tryd.prog 28 #[.pointer (some ⟨Tb, 0, none⟩)] w (RsA w Tb a n c (rsT b)) := by
  obtain ⟨Q, hQ⟩ : ∃ Q : Ending → World → Prop, Q = RsA w Tb a n c (rsT b) := ⟨_, rfl⟩
  rw [← hQ]
  obtain ⟨hbn, k1, k2⟩ := slx_len hb
  have hTl : Tb < w.heap.size := (Array.getElem?_eq_some_iff.1 hT).1
  have HBad : Hid (∀ V (e : Nat) r, rsT b = (r, 0, e) → e ≠ 0 → Fr (fun k => k = Tb) w V → Q (.returned (.tuple #[.slice none 0 0, .int .i64 (e : Int)])) V) := fun V e r h1 h2 h3 => by
    rw [hQ, h1]
    exact ⟨none, 0, 0, rfl, h3, fun h => absurd h h2⟩
  have HOk : Hid (∀ V L p a' m' c', rsT b = (L, p, 0) → Fr (fun k => k = Tb) w V → TX Tb a n c p V → NewG w (.slice a' m' c') (rgL L) V → Q (.returned (.tuple #[.slice a' m' c', .int .i64 0])) V) := fun V L p a' m' c' h1 h2 h3 h4 => by
    rw [hQ, h1]
    exact ⟨a', m', c', rfl, h2, fun _ => ⟨h3, h4⟩⟩
  have HN1 := number_any15 w Tb a n c 0 b hb hn (by omega) hT
  rw [List.drop_zero] at HN1
  unfold NuA at HN1
  have HTo : Hid (∀ V p, Fr (fun k => k = Tb) w V → TX Tb a n c p V → p ≤ n → Calls Tryd.prog 43 #[.func (.func 42) #[.pointer (some ⟨Tb, 0, none⟩)] #[]] V (ToA V Tb a n c (told1 b p))) := fun V p hV ht hp => told_any V Tb a n c p b (((hb.kept hV (fun g h => .inl h)).mono (fun g h => .inl h))) hn hp ht
  clear hQ hT hb
  cases hr1 : nr 0 0 b with
  | mk cnt r1' =>
  obtain ⟨q1, e1⟩ := r1'
  rw [hr1] at HN1
  simp only [Nat.zero_add] at HN1
  have HN1 := tHid HN1
  by_cases he1 : e1 = 0
  · subst he1
    have hi1 := num_inv b cnt q1 hr1
    rw [hbn] at hi1
    by_cases hbig : 65536 < cnt
    · have hrs : rsT b = ([], 0, 2) := by unfold rsT; simp only [hr1]; rw [if_neg (by simp), if_pos hbig]
      have hbi : (65536 : Int) < (cnt : Int) := by omega
      have hcm : cnt ≤ 9223372036854775807 := hi1.2.2.2
      clear HTo HOk hr1 hi1
      go_enter Tryd.func28, Tryd.ntmps28
      go_wp2_with (first
        | (go_at_call 42; with_reducible refine HN1.out.mono ?_; rintro e w1 ⟨rfl, H1⟩))
      first | exact HBad.out _ 2 _ hrs (by omega) H1.out.1 | (go_ret; exact HBad.out _ 2 _ hrs (by omega) H1.out.1)
    · have hrs : rsT b = rdA b cnt 0 q1 [] := by unfold rsT; simp only [hr1]; rw [if_neg (by simp), if_neg hbig]
      have hbi : ¬ (65536 : Int) < (cnt : Int) := by omega
      have hq1 : q1 ≤ n := hi1.2.2.1
      have HRS := tHid hrs
      have HBN := tHid hbn
      clear hr1 hi1 hrs hbn
      go_enter Tryd.func28, Tryd.ntmps28
      go_upto_region 8 with (first
        | (go_at_call 42; with_reducible refine HN1.out.mono ?_; rintro e w1 ⟨rfl, H1⟩))
      go_upto_region 9 with fail
      go_loopg [6, 7, 21] cnt (fun kx v e i wr => ∃ (I E p m' c' : Nat) (a' : Option Addr), I ≤ cnt ∧ cnt - I ≤ kx ∧ E ≤ 9223372036854775807 ∧ v = .slice a' m' c' ∧ e = .int .i64 E ∧ i = .int .i64 I ∧ Hid (RsI w Tb a n c b cnt I E p (.slice a' m' c') (rsT b) wr))
      case atStart => exact ⟨0, 0, q1, 0, 0, none, by omega, by omega, by omega, rfl, rfl, rfl, H1.out.1, H1.out.2, hq1, none, [], ⟨rfl, rfl⟩, (fun g h => by cases h), rfl, HRS.out⟩
      case round =>
        obtain ⟨I, E, p, m', c', a', hI, hkx, hE, rfl, rfl, rfl, HI⟩ := hrel
        obtain ⟨hfr, htx, hpn, og, acc, hog, hge, hal, hR⟩ := HI.out
        by_cases hlt : I < cnt
        · have hC := HTo.out wr p hfr htx hpn
          have hpb : p ≤ b.length := by rw [HBN.out]; exact hpn
          rw [show cnt - I = (cnt - (I + 1)) + 1 by omega, rdA] at hR
          unfold ToA at hC
          cases ht1 : told1 b p with
          | mk FT r2' =>
          obtain ⟨p2, e2⟩ := r2'
          obtain ⟨F, T⟩ := FT
          rw [ht1] at hC
          simp only at hC
          have HC := tHid hC
          have hIi : (I : Int) < (cnt : Int) := by omega
          by_cases he2 : e2 = 0
          · subst he2
            have ho := one1_ok b E p (by rw [ht1])
            rw [ht1] at ho
            simp only at ho
            by_cases hFE : F < E
            · rw [if_pos hFE] at ho
              rw [ho, if_pos (by simp)] at hR
              have hFEi : (F : Int) < (E : Int) := by omega
              have HB2 : Hid (∀ V, Fr (fun k => k = Tb) wr V → Q (.returned (.tuple #[.slice none 0 0, .int .i64 3])) V) := fun V hV => HBad.out V 3 _ hR (by omega) (hfr.trans hV)
              clear HTo HOk HI hfr htx hog hge hR ho hC ht1 HBad
              go_wp2_with (first
                | (go_at_call 43; with_reducible refine HC.out.mono ?_; rintro e w2 ⟨rfl, H2⟩))
              first | exact HB2.out _ (H2.out.1.alloc _) | (go_ret; exact HB2.out _ (H2.out.1.alloc _))
            · rw [if_neg hFE] at ho
              obtain ⟨i1, i2, i3, i4, i5, i6, i7⟩ := one1_inv b E p (F, T) p2 hpb ho
              rw [ho, if_neg (by simp)] at hR
              simp only at hR i1 i2 i3
              have hFEi : ¬ (F : Int) < (E : Int) := by omega
              have hp2 : p2 ≤ n := by have := HBN.out; omega
              have HST : Hid (∀ V, Fr (fun k => k = Tb) wr V → TX Tb a n c p2 V → ∃ a2 m2 c2 W, Hid (∀ ty, (Builtin.append_ #[22, 22] ty #[.slice a' m' c', .slice (some ⟨V.heap.size, 0, none⟩) 1 1]).run Tryd.prog (V.alloc (.cells #[.int .i64 (F : Int), .int .i64 (T : Int)] 51)) = .ok (.slice a2 m2 c2) W) ∧ (∃ o, W.heap[V.heap.size - 1]? = o) ∧ Fr (fun k => og = some k) V W ∧ Hid (RsI w Tb a n c b cnt (I + 1) T p2 (.slice a2 m2 c2) (rsT b) W)) := fun V hV htV => by
                obtain ⟨og', v', W, q1, q2, q3, q4⟩ := pushG V og (.slice a' m' c') (rgL acc) (hog.kept hV (fun g hg e => by have := hge g hg; omega)) (by rw [rgL_len]; omega) ((F : Int), (T : Int))
                obtain ⟨a2, c2, rfl, _, _⟩ := q2.form
                have hfV := hfr.trans hV
                have hog' : ∀ g, og' = some g → w.heap.size ≤ g := fun g hg => by
                  rcases q4 with e | ⟨g', e, hg'⟩
                  · rw [e] at hg; exact hge g hg
                  · rw [e] at hg; injection hg with hg; have := hfV.size; omega
                refine ⟨a2, _, c2, W, q1, ⟨_, rfl⟩, q3, ⟨hfV.then q3 (fun i hi => .inr (hge i hi)), htV.kept q3 (fun e => by have := hge Tb e; omega), hp2, og', acc ++ [(F, T)], by rw [rgL_snoc]; exact q2, hog', by rw [List.length_append, List.length_singleton, hal], hR⟩⟩
              have HGE : Hid (∀ g, og = some g → g < wr.heap.size) := fun g hg => hog.lt g hg
              clear HOk HI hfr htx hog hge hR ho hC ht1 HBad i4 i5 i6 i7
              go_upto_region 11 with (first
                | (go_at_call 43; with_reducible refine HC.out.mono ?_; rintro e w2 ⟨rfl, H2⟩))
              obtain ⟨V2, hV2⟩ : ∃ V2, w2.alloc (.cells #[.int .i64 (F : Int), .int .i64 (T : Int)] 51) = V2 := ⟨_, rfl⟩
              have hbx : V2.heap[w2.heap.size]? = some (.cells #[.int .i64 (F : Int), .int .i64 (T : Int)] 51) := by rw [← hV2]; exact nHeap _ _
              obtain ⟨⟨c0, _⟩, ⟨c1, _⟩⟩ := two_cells hbx
              have hN2 : Nw w2 V2 := by rw [← hV2]; exact (Fr.refl _ _).alloc _
              obtain ⟨a2, m2, c2, W, HA, _, hFW, HNX⟩ := HST.out V2 (H2.out.1.trans hN2.any) (H2.out.2.kept hN2 (fun h => h))
              have hbxW := hFW.heapv hbx (fun e => by have := HGE.out _ e; have := H2.out.1.size; omega)
              obtain ⟨⟨x0, _⟩, ⟨x1, _⟩⟩ := two_cells hbxW
              (try rw [hV2])
              clear hV2 hbx hN2 hFW hbxW HST HGE HC H2
              obtain ⟨Bx, hBx⟩ : ∃ Bx, w2.heap.size = Bx := ⟨_, rfl⟩
              rw [hBx] at c0 c1 x0 x1
              rw [hBx]
              clear hBx
              go_wp2_with (first
                | (at_builtin; refine Lib.wpList_append_run _ rfl _ _ 22 22 rfl (.slice a' m' c') (.slice (some ⟨V2.heap.size, 0, none⟩) 1 1) (by first | rfl | simp [Act.eval]) (by first | rfl | simp [Act.eval]) _ _ (HA.out _) ?_))
              go_roundg (cnt - (I + 1))
              case measure => omega
              case rel => exact ⟨I + 1, T, p2, m2, c2, a2, by omega, by omega, by omega, rfl, rfl, by first | rfl | (congr 1), HNX⟩
          · have ho := one1_bad b E p (by rw [ht1]; exact he2)
            rw [ht1] at ho
            simp only at ho
            rw [ho, if_pos he2] at hR
            have he2i : ¬ ((e2 : Int) = 0) := by omega
            have HB2 : Hid (∀ V, Fr (fun k => k = Tb) wr V → Q (.returned (.tuple #[.slice none 0 0, .int .i64 (e2 : Int)])) V) := fun V hV => HBad.out V e2 _ hR he2 (hfr.trans hV)
            clear HTo HOk HI hfr htx hog hge hR ho hC ht1 HBad
            go_wp2_with (first
              | (go_at_call 43; with_reducible refine HC.out.mono ?_; rintro e w2 ⟨rfl, H2⟩))
            first | exact HB2.out _ (H2.out.1.alloc _) | (go_ret; exact HB2.out _ (H2.out.1.alloc _))
        · have hIc : I = cnt := by omega
          rw [show cnt - I = 0 by omega, rdA] at hR
          have HF2 := tHid (HOk.out wr acc p a' m' c' hR hfr htx ⟨og, hog, hge⟩)
          subst hIc
          clear HTo HOk HI hfr htx hog hge hR HBad
          go_wp2_with fail
          first | exact HF2.out | (go_ret; exact HF2.out)
  · have hrs : rsT b = ([], 0, e1) := by unfold rsT; simp only [hr1]; rw [if_pos he1]
    have he1i : ¬ ((e1 : Int) = 0) := by omega
    clear HTo HOk hr1
    go_enter Tryd.func28, Tryd.ntmps28
    go_wp2_with (first
      | (go_at_call 42; with_reducible refine HN1.out.mono ?_; rintro e w1 ⟨rfl, H1⟩))
    first | exact HBad.out _ e1 _ hrs he1 H1.out.1 | (go_ret; exact HBad.out _ e1 _ hrs he1 H1.out.1)
end Go.Proofs.YtffhpoilifgcdaaDoor

namespace Go.Proofs.YtffhpoilifgcdaaDoor
open Go.RowKit
set_option linter.unusedVariables false
/-! ### zeros, Read -/
def ZrA (w : World) (Tb : Nat) (a : Option Addr) (n c : Nat) (r : Nat × Nat) (e : Ending) (V : World) : Prop := e = .returned (.int .i64 (r.2 : Int)) ∧ Hid (Fr (fun k => k = Tb) w V ∧ (r.2 = 0 → TX Tb a n c r.1 V))
set_option maxHeartbeats 8000000 in
set_option maxRecDepth 100000 in
theorem zeros_any (w : World) (Tb : Nat) (a : Option Addr) (n c P : Nat) (b : List By) (hb : Sl (fun k => k = Tb) (.slice a n c) b w) (hn : n ≤ 140737488351232) (hP : P ≤ n) (hT : TX Tb a n c P w) :
    Calls Tryd.prog 29 #[.pointer (some ⟨Tb, 0, none⟩)] w (ZrA w Tb a n c (zrF b (padN P) P)) := by
  obtain ⟨Q, hQ⟩ : ∃ Q : Ending → World → Prop, Q = ZrA w Tb a n c (zrF b (padN P) P) := ⟨_, rfl⟩
  rw [← hQ]
  obtain ⟨hbn, k1, k2⟩ := slx_len hb
  have HFin : Hid (∀ V p (e : Nat), zrF b (padN P) P = (p, e) → Fr (fun k => k = Tb) w V → (e = 0 → TX Tb a n c p V) → Q (.returned (.int .i64 (e : Int))) V) := fun V p e h1 h2 h3 => by
    rw [hQ, h1]; exact ⟨rfl, h2, h3⟩
  have HCB : Hid (∀ V, Fr (fun k => k = Tb) w V → ∀ i (h : i < b.length), ∃ g o, a = some ⟨g, o, none⟩ ∧ V.cell? ⟨g, o + i, none⟩ = some (.int .u8 b[i].toNat)) := fun V hV i h => slx_at (hb.kept hV (fun g h => h)) i h
  have HT := tHid hT
  have HBN := tHid hbn
  clear hQ hb hT hbn
  go_enter Tryd.func29, Tryd.ntmps29
  go_upto_region 1 with fail
  go_loopg [] 512 (fun kx wr => ∃ p : Nat, p ≤ n ∧ padN p ≤ kx ∧ Hid (Fr (fun k => k = Tb) w wr ∧ TX Tb a n c p wr ∧ zrF b (padN P) P = zrF b (padN p) p))
  case atStart => exact ⟨P, hP, by have := padN_lt P; omega, Fr.refl _ _, HT.out, rfl⟩
  case round =>
    obtain ⟨p, hp, hkx, HI⟩ := hrel
    obtain ⟨hF, hTx, hZ⟩ := HI.out
    obtain ⟨t0, t1, t2⟩ := hTx.cells
    have hrem := rem512 p
    by_cases hz : p % 512 = 0
    · rw [padN_zero hz, zrF] at hZ
      rw [hz] at hrem
      have hrem2 : (p : Int) % 512 = 0 := by omega
      have HQ := tHid (HFin.out wr p 0 hZ hF (fun _ => hTx))
      clear HFin HCB HI hF hTx hZ HT
      go_wp2_with fail
      first | exact HQ.out | (go_ret; exact HQ.out)
    · have hps := padN_succ hz
      rw [hps, zrF] at hZ
      obtain ⟨R, hR⟩ : ∃ R, p % 512 = R := ⟨_, rfl⟩
      rw [hR] at hrem hz
      have hrem2 : (p : Int) % 512 = (R : Int) := by omega
      have hRz : ¬ ((R : Int) = 0) := by omega
      by_cases hpe : p = n
      · rw [if_pos (by rw [HBN.out]; omega)] at hZ
        have HQ : Hid (∀ V, Nw wr V → Q (.returned (.int .i64 4)) V) := fun V hV => HFin.out V 0 4 hZ (hF.trans hV.any) (fun h => by cases h)
        subst hpe
        clear HFin HCB HI hF hTx hZ HT hR
        go_upto_region 3 with fail
        go_quiet (fail)
        go_wp2_with fail
        first | exact HQ.out _ ((Fr.refl _ _).drewN _) | (go_ret; exact HQ.out _ ((Fr.refl _ _).drewN _))
      · rw [if_neg (by rw [HBN.out]; omega)] at hZ
        have hpb : p < b.length := by rw [HBN.out]; omega
        obtain ⟨g, o, rfl, hcell⟩ := HCB.out wr hF p hpb
        have hne : ¬ ((p : Int) = (n : Int)) := by omega
        have hneb : ((p : Int) == (n : Int)) = false := by rw [beq_eq_false_iff_ne]; exact hne
        have hpi : (p : Int) < (n : Int) := by omega
        have hnc : (n : Int) ≤ (c : Int) := by omega
        rw [List.getElem?_eq_getElem hpb] at hZ
        by_cases hx : b[p] = 0#8
        · rw [if_pos (by rw [hx])] at hZ
          rw [hx] at hcell
          simp only [BitVec.toNat_ofNat, Nat.zero_mod, Int.natCast_zero] at hcell
          obtain ⟨p1, hp1⟩ : ∃ p1, p + 1 = p1 := ⟨_, rfl⟩
          rw [hp1] at hps hZ
          have hp1i : (p : Int) + 1 = (p1 : Int) := by omega
          have HNX : Hid (∀ V, Nw wr V → Hid (Fr (fun k => k = Tb) w (V.setCell ⟨Tb, 1, none⟩ (.int .i64 (p1 : Int))) ∧ TX Tb (some ⟨g, o, none⟩) n c p1 (V.setCell ⟨Tb, 1, none⟩ (.int .i64 (p1 : Int))) ∧ zrF b (padN P) P = zrF b (padN p1) p1)) := fun V hV => by
            obtain ⟨q1, q2⟩ := (hTx.kept hV (fun h => h)).set p1
            exact ⟨(hF.trans hV.any).trans q2, q1, hZ⟩
          have hpd : padN p1 < padN p := by omega
          clear HFin HCB HI hF hTx hZ HT hR hx
          go_upto_region 3 with fail
          go_quiet (fail)
          go_upto_region 5 with fail
          go_quiet (fail)
          go_upto_region 2 with fail
          go_wp2_with fail
          go_roundg (padN p1)
          case measure => omega
          case rel => exact ⟨p1, by omega, Nat.le_refl _, HNX.out _ ((Fr.refl _ _).drewN _)⟩
        · rw [if_neg (fun h => by injection h with h; exact hx h)] at hZ
          have hxi := by_ne hx
          have hxb : (((b[p]'hpb).toNat : Int) != 0) = true := by rw [bne, beq_eq_false_iff_ne.2 hxi]; rfl
          have HQ : Hid (∀ V, Nw wr V → Q (.returned (.int .i64 3)) V) := fun V hV => HFin.out V 0 3 hZ (hF.trans hV.any) (fun h => by cases h)
          clear HFin HCB HI hF hTx hZ HT hR hx
          generalize (b[p]'hpb).toNat = y at *
          go_upto_region 3 with fail
          go_quiet (fail)
          go_upto_region 5 with fail
          go_quiet (fail)
          go_wp2_with fail
          first | exact HQ.out _ ((Fr.refl _ _).drewN _) | exact HQ.out _ (((Fr.refl _ _).drewN _).drewN _) | (go_ret; exact HQ.out _ ((Fr.refl _ _).drewN _)) | (go_ret; exact HQ.out _ (((Fr.refl _ _).drewN _).drewN _))
/-- What Read answers. -/
def RdA (w : World) (b : List By) (e : Ending) (V : World) : Prop := ∃ a' m' c', e = .returned (.tuple #[.slice a' m' c', .int .i64 ((rdT b).2.1 : Int), .int .i64 ((rdT b).2.2 : Int)]) ∧ Hid (Nw w V ∧ NewG w (.slice a' m' c') (rgL (rdT b).1) V)
theorem rsT_bound (b : List By) (h : (rsT b).2.2 = 0) : (rsT b).2.1 ≤ b.length := by
  unfold rsT at h ⊢
  simp only at h ⊢
  by_cases h1 : (nr 0 0 b).2.2 ≠ 0
  · rw [if_pos h1] at h; exact absurd h h1
  · rw [if_neg h1] at h ⊢
    by_cases h2 : 65536 < (nr 0 0 b).1
    · rw [if_pos h2] at h; cases h
    · rw [if_neg h2] at h ⊢
      have hi := num_inv b _ _ (Prod.ext rfl (Prod.ext rfl (Classical.not_not.1 h1)))
      obtain ⟨l, _, _, _, _, h5, _⟩ := rdA_inv b _ 0 _ [] _ _ hi.2.2.1 (Prod.ext rfl (Prod.ext rfl h))
      exact h5
set_option maxHeartbeats 8000000 in
set_option maxRecDepth 100000 in
theorem read_any15 (w : World) (a : Option Addr) (n c : Nat) (b : List By) (hb : Old w (.slice a n c) b) (hn : n ≤ 140737488351232) :
    Calls Tryd.prog 9 #[.slice a n c] w (RdA w b) := by
  obtain ⟨Q, hQ⟩ : ∃ Q : Ending → World → Prop, Q = RdA w b := ⟨_, rfl⟩
  rw [← hQ]
  obtain ⟨hbn, k1, k2⟩ := slx_len hb
  obtain ⟨Tb, hTb⟩ : ∃ Tb, w.heap.size = Tb := ⟨_, rfl⟩
  obtain ⟨w0, hw0⟩ : ∃ w0, w.alloc (.cells #[.slice a n c, .int .i64 0] 54) = w0 := ⟨_, rfl⟩
  have hN0 : Nw w w0 := by rw [← hw0]; exact (Fr.refl _ _).alloc _
  have hsz : w0.heap.size = Tb + 1 := by rw [← hw0, ← hTb]; simp
  have hT0 : TX Tb a n c 0 w0 := by unfold TX; rw [← hw0, ← hTb]; exact nHeap _ _
  have hb0 : Sl (fun k => k = Tb ∨ w0.heap.size ≤ k) (.slice a n c) b w0 := (hb.nw hN0).mono (fun g hg => by omega)
  have hC := rs_any w0 Tb a n c b hb0 hn hT0
  unfold RsA at hC
  have hrd := rdT_rs b
  have HBad : Hid (∀ V (e : Nat), rdT b = ([], 0, e) → Fr (fun k => k = Tb) w0 V → Q (.returned (.tuple #[.slice none 0 0, .int .i64 0, .int .i64 (e : Int)])) V) := fun V e h1 h2 => by
    rw [hQ]
    unfold RdA
    rw [h1]
    exact ⟨none, 0, 0, rfl, hN0.then h2 (fun i hi => .inr (by omega)), none, ⟨rfl, rfl⟩, fun g h => by cases h⟩
  have HOk : Hid (∀ V L p a' m' c', rdT b = (L, p, 0) → Fr (fun k => k = Tb) w0 V → NewG w0 (.slice a' m' c') (rgL L) V → Q (.returned (.tuple #[.slice a' m' c', .int .i64 (p : Int), .int .i64 0])) V) := fun V L p a' m' c' h1 h2 h3 => by
    rw [hQ]
    unfold RdA
    rw [h1]
    obtain ⟨og, q1, q2⟩ := h3
    exact ⟨a', m', c', rfl, hN0.then h2 (fun i hi => .inr (by omega)), og, q1, fun g hg => by have := q2 g hg; omega⟩
  have HZ : Hid (∀ V p, Fr (fun k => k = Tb) w0 V → TX Tb a n c p V → p ≤ n → Calls Tryd.prog 29 #[.pointer (some ⟨Tb, 0, none⟩)] V (ZrA V Tb a n c (zrF b (padN p) p))) := fun V p hV ht hp => zeros_any V Tb a n c p b ((hb0.kept hV (fun g h => .inl h)).mono (fun g h => .inl h)) hn hp ht
  have HLE : Hid ((rsT b).2.2 = 0 → (rsT b).2.1 ≤ n) := fun h => by have := rsT_bound b h; omega
  have HTB := tHid hTb
  have HW0 := tHid hw0
  have hTw0 : Hid (Tb < w0.heap.size) := by show _ < _; omega
  clear hQ hb hb0 hT0 hN0 hbn hTb hw0 hsz
  cases hrs : rsT b with
  | mk L r' =>
  obtain ⟨p, e1⟩ := r'
  rw [hrs] at hC hrd HLE
  simp only at hC hrd HLE
  have HC := tHid hC
  by_cases he1 : e1 = 0
  · subst he1
    rw [if_neg (by simp)] at hrd
    have hpn := HLE.out rfl
    cases hzr : zrF b (padN p) p with
    | mk p2 e2 =>
    rw [hzr] at hrd
    simp only at hrd
    have HZ2 : Hid (∀ V, Fr (fun k => k = Tb) w0 V → TX Tb a n c p V → Calls Tryd.prog 29 #[.pointer (some ⟨Tb, 0, none⟩)] V fun e V' => e = .returned (.int .i64 (e2 : Int)) ∧ Hid (Fr (fun k => k = Tb) V V' ∧ (e2 = 0 → TX Tb a n c p2 V'))) := fun V hV ht => by
      have := HZ.out V p hV ht hpn
      unfold ZrA at this
      rw [hzr] at this
      exact this
    by_cases he2 : e2 = 0
    · subst he2
      rw [if_neg (by simp)] at hrd
      clear HZ hC hrs hzr HBad HLE
      go_enter Tryd.func9, Tryd.ntmps9
      go_upto_region 2 with fail
      rw [HTB.out, HW0.out]
      go_upto_region 7 with (first
        | (go_at_call 28; with_reducible refine HC.out.mono ?_; rintro e w1 ⟨a', m', c', rfl, H1⟩)
        | (go_at_call 29; (with_reducible refine (HZ2.out w1 H1.out.1 H1.out.2.1).mono ?_); rintro e w2 ⟨rfl, H2⟩)
        | (go_at_call 29; (with_reducible refine (HZ2.out w1 H1.out.1 (H1.out.2 trivial).1).mono ?_); rintro e w2 ⟨rfl, H2⟩))
      have h1 := H1.out.1
      have h2 : NewG w0 (.slice a' m' c') (rgL L) w1 := by first | exact H1.out.2.2 | exact (H1.out.2 trivial).2
      have h3 := H2.out.1
      have h4 : TX Tb a n c p2 w2 := by first | exact H2.out.2 | exact H2.out.2 trivial
      obtain ⟨t0, t1, t2⟩ := h4.cells
      have hnew : NewG w0 (.slice a' m' c') (rgL L) w2 := by
        obtain ⟨og, q1, q2⟩ := h2
        exact ⟨og, q1.kept h3 (fun g hg e => by have := q2 g hg; have := hTw0.out; omega), q2⟩
      have HQ : Hid (∀ V, Nw w2 V → Q (.returned (.tuple #[.slice a' m' c', .int .i64 (p2 : Int), .int .i64 0])) V) := fun V hV => HOk.out V L p2 a' m' c' hrd ((h1.trans h3).trans hV.any) (hnew.nw hV)
      clear HOk HC HZ2 H1 H2 h1 h2 h3 h4 hnew hrd
      go_quiet (fail)
      go_wp2_with fail
      first | exact HQ.out _ ((Fr.refl _ _).drewN _) | (go_ret; exact HQ.out _ ((Fr.refl _ _).drewN _))
    · rw [if_pos he2] at hrd
      have he2i : ¬ ((e2 : Int) = 0) := by omega
      clear HZ hC hrs hzr HOk HLE
      go_enter Tryd.func9, Tryd.ntmps9
      go_upto_region 2 with fail
      rw [HTB.out, HW0.out]
      go_wp2_with (first
        | (go_at_call 28; with_reducible refine HC.out.mono ?_; rintro e w1 ⟨a', m', c', rfl, H1⟩)
        | (go_at_call 29; (with_reducible refine (HZ2.out w1 H1.out.1 H1.out.2.1).mono ?_); rintro e w2 ⟨rfl, H2⟩)
        | (go_at_call 29; (with_reducible refine (HZ2.out w1 H1.out.1 (H1.out.2 trivial).1).mono ?_); rintro e w2 ⟨rfl, H2⟩))
      first | exact HBad.out _ e2 hrd (H1.out.1.trans H2.out.1) | (go_ret; exact HBad.out _ e2 hrd (H1.out.1.trans H2.out.1))
  · rw [if_pos he1] at hrd
    have he1i : ¬ ((e1 : Int) = 0) := by omega
    clear HZ hC hrs HOk HLE
    go_enter Tryd.func9, Tryd.ntmps9
    go_upto_region 2 with fail
    rw [HTB.out, HW0.out]
    go_wp2_with (first
      | (go_at_call 28; with_reducible refine HC.out.mono ?_; rintro e w1 ⟨a', m', c', rfl, H1⟩))
    first | exact HBad.out _ e1 hrd H1.out.1 | (go_ret; exact HBad.out _ e1 hrd H1.out.1)
end Go.Proofs.YtffhpoilifgcdaaDoor

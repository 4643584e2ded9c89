import Derived.Test.YtcogkhcfpgelhabGreatVlQq
import Derived.BigRegion
import Derived.Great.BuildSlice
import Derived.Laws.Tables
import Derived.Carry
namespace Go.Proofs.YtcogkhcfpgelhabGreat
open Go.RowKit
set_option linter.unusedVariables false
set_option maxRecDepth 100000
set_option maxHeartbeats 16000000 in
theorem trace_walk (w : World) (X : Im) (l : List Nq) (a : Option Addr) (n c : Nat) (hl : l.map Nq.x = X.l) (hn : n = l.length) (hm : ImR (.slice a n c) l w) (hw : ∀ y ∈ l, NdW y.x) (hn9 : n ≤ 1000000000)
    (va : Option Addr) (N vc : Nat) (ops : List Oq) (hN : N = ops.length) (ho : InO (.slice va N vc) ops w) (ht : totE X.l + N ≤ 1000000) :
    Calls Tryz.prog 4 #[imV X (.slice a n c), .slice va N vc] w fun e w' => e = .returned (.bool true) ∧ Nw w w' := by
  obtain ⟨P, hP⟩ : ∃ P : Ending → World → Prop, P = fun e w' => e = .returned (.bool true) ∧ Nw w w' := ⟨_, rfl⟩
  rw [← hP]
  have HF : Hid (∀ V, Nw w V → P (.returned (.bool true)) V) := fun V hV => by rw [hP]; exact ⟨rfl, hV⟩
  obtain ⟨V, hV⟩ : ∃ V, V = w.alloc (.cells (ciC X (.slice a n c)) 24) := ⟨_, rfl⟩
  have hNV : Nw w V := by rw [hV]; exact (Fr.refl _ _).alloc _
  have HI : Hid (∀ U, Nw V U → U.cell? ⟨w.heap.size, 0, none⟩ = some (.int .i64 X.nodes) ∧ U.cell? ⟨w.heap.size, 1, none⟩ = some (.int .i64 X.bytes) ∧ U.cell? ⟨w.heap.size, 2, none⟩ = some (.int .i64 X.next) ∧ U.cell? ⟨w.heap.size, 3, none⟩ = some (.slice a n c)) := fun U hU => by
    have hr := hU.heap (show V.heap[w.heap.size]? = some (.cells (ciC X (.slice a n c)) 24) by rw [hV]; exact nh w _)
    exact ⟨(rc hr 0 _ rfl).1, (rc hr 1 _ rfl).1, (rc hr 2 _ rfl).1, (rc hr 3 _ rfl).1⟩
  have HLV : Hid (Calls Tryz.prog 8 #[] V fun e w' => e = .returned (.bool true) ∧ Hid (Nw V w')) := lives_any V
  have HLD : Hid (∀ U, Nw V U → Calls Tryz.prog 15 #[imV X (.slice a n c)] U fun e w' => ∃ fb, e = .returned (.pointer (some ⟨fb, 0, none⟩)) ∧ Hid (Nw U w' ∧ Fq w (fun k => U.heap.size ≤ k ∧ k < w'.heap.size) (totE X.l) fb 0 (ldI X) [] w')) := fun U hU => by
    have hNU := hNV.trans hU
    refine Calls.mono (loaded_one X l a n c hl hn (hm.nw hNU) hw hn9) (fun e w' hh => ?_)
    obtain ⟨fb, mb, X', rfl, ⟨h1, rfl⟩, h2⟩ := hh
    refine ⟨fb, rfl, ?_, fq_made h2 hNU h1.1 h1.2⟩
    obtain ⟨L, k1, k2, k3⟩ := h2
    exact k2
  have HO := tHid ho
  have HNN := tHid hN
  obtain ⟨t0, ht0⟩ : ∃ t0, totE X.l = t0 := ⟨_, rfl⟩
  rw [ht0] at HLD ht
  have HT := tHid ht
  have hN6 : N ≤ 1000000 := by omega
  have HV := tHid hV
  clear hV hP hl hn hm hw hn9 hNV ho hN ht0 ht
  go_enter Tryz.func4, Tryz.ntmps4
  go_upto_region 1 with fail
  rw [← HV.out]
  clear HV
  go_upto_region 3 with (first | (go_at_call 8; with_reducible refine HLV.out.mono ?_; rintro e w1 ⟨rfl, H1⟩))
  obtain ⟨c0, c1, c2, c3⟩ := HI.out w1 H1.out
  have HL1 := tHid (HLD.out w1 H1.out)
  clear HLV
  go_upto_region 4 with (first | (go_at_call 15; with_reducible refine HL1.out.mono ?_; rintro e w2 ⟨fb, rfl, H2⟩))
  clear HL1 c0 c1 c2 c3
  have hV2 := H1.out.trans H2.out.1
  obtain ⟨c0, c1, c2, c3⟩ := HI.out w2 hV2
  have HL1 := tHid (HLD.out w2 hV2)
  clear HLD HI H1 hV2
  go_upto_region 5 with (first | (go_at_call 15; with_reducible refine HL1.out.mono ?_; rintro e w3 ⟨fg, rfl, H3⟩))
  clear HL1 c0 c1 c2 c3
  have HS : Hid (∃ X1 T, Tr w t0 fb fg 0 0 (fun _ => False) X1 X1 T w3 ∧ T.length = 0) := ⟨_, [], tr_made H2.out.2 H3.out.1 H3.out.2, rfl⟩
  clear H2 H3
  go_wp2_with fail
  go_loopg [7, 8] N (fun kx s i wr => ∃ I S : Nat, I ≤ N ∧ N - I ≤ kx ∧ s = .int .i64 S ∧ i = .int .i64 I ∧ Hid (∃ X1 T, Tr w t0 fb fg I I (fun _ => False) X1 X1 T wr ∧ T.length = S))
  case atStart => exact ⟨0, 0, by omega, by omega, rfl, rfl, HS⟩
  case round =>
    clear HS
    obtain ⟨I, S, hI, hkx, rfl, rfl, HR⟩ := hrel
    by_cases hlt : I < N
    · obtain ⟨X1, T, hT, hTS⟩ := HR.out
      obtain ⟨g, o, y, rfl, hy, hoy, CL, hop, hra, hsz⟩ := tr_at HO.out HNN.out I hlt
      have hSI : S ≤ I := by rw [← hTS]; exact hT.acts
      have hbb : t0 + I ≤ 1000000 := by have := HT.out; omega
      have HRA := tHid (hra _ hT.n)
      have HSZ : Hid ((Tryz.prog.info? 40).map (·.size) = some CL.toArray.size) := by show _ = _; simpa using hsz
      have HSL := tHid hsz
      have HZ : Hid (CL.toArray.size = 20) := by rw [← hop]; rfl
      have HON : Hid (CL.toArray.all (·.oneCell') = true) := by rw [← hop]; exact op_one y
      have hlt2 : (I : Int) < (N : Int) := by omega
      have hltd := decide_eq_true hlt2
      have hltn := decide_eq_true hlt
      have zwj : IntKind.i64.wrap ((I : Int) + 1) = (I : Int) + 1 := by rw [IntKind.wrap_i64]; omega
      have HTR := tHid hT
      have HOY := tHid hoy
      have HOP := tHid hop
      have HTS := tHid hTS
      clear hT hTS hy hoy hop hra hsz HR HO HF
      go_upto_region 12 with (first
        | (refine wpList_load_mid rfl 40 _ rfl g (o + I * 20) (by first | rfl | simp [Act.eval]) CL _ HRA.out Tryz.underlying40 rfl HSL.out ?_)
        | (refine wpList_store_row rfl 40 _ _ rfl wr.heap.size CL.toArray (by first | rfl | simp [Act.eval]) (by first | rfl | simp [Act.eval]) 40 _ (nh wr _) HSZ.out (by rw [HZ.out]; rfl) HON.out ?_))
      obtain ⟨W2, hW2⟩ : ∃ W2, (wr.alloc (.cells opZ 40)).setRow wr.heap.size CL.toArray = W2 := ⟨_, rfl⟩
      obtain ⟨f1, f2, f3⟩ := row_put wr opZ CL.toArray 40
      rw [hW2] at f1 f2 f3
      unfold opZ at hW2
      rw [hW2]
      rw [← HOP.out] at f2
      have k0 := (rc f2 0 _ rfl).1
      have HT2 := tHid (HTR.out.more f1 wr.heap.size ⟨Nat.le_refl _, by omega⟩)
      have HOY2 := tHid (HOY.out W2 HT2.out.n)
      have HF2 := tHid f2
      have HOI := tHid (op_info y)
      obtain ⟨R, hR⟩ : ∃ R, opR X1 y = R := ⟨_, rfl⟩
      have HC := tHid (tr_f HT2.out hbb HOY2.out hR)
      have HR := tHid hR
      generalize hnb : wr.heap.size = nb at *
      clear hW2 f1 f2 f3 HRA HSZ HSL HZ HON HTR HOP hnb hR
      by_cases hA : y.kind < 1 ∨ 10 < y.kind
      · have hlk := opR_looks X1 y hA
        rw [HR.out] at hlk
        have HE : Hid (∀ w4, Tr w t0 fb fg (I + 1) I (fun k => False ∨ k = nb) R.X X1 (T ++ R.acts) w4 → Hid (∃ X1 T, Tr w t0 fb fg (I + 1) (I + 1) (fun _ => False) X1 X1 T w4 ∧ T.length = S)) := fun w4 h4 => by
          rw [hlk.1, hlk.2, List.append_nil] at h4
          exact ⟨X1, T, h4.none (by omega), HTS.out⟩
        clear hlk HR HTS HT2 HOY2 HOY
        have hA' : y.kind < 1 ∨ (¬ y.kind < 1 ∧ 10 < y.kind) := by omega
        rcases hA' with hA1 | ⟨hA1, hA2⟩
        · have hd1 := decide_eq_true hA1
          clear hA
          go_wp2_with (first
            | (refine wpList_load_row rfl 40 _ rfl nb (by first | rfl | simp [Act.eval]) 40 (opC y) (0, 0) _ HF2.out Tryz.underlying40 rfl HOI.out ?_)
            | (go_at_call 12; with_reducible refine HC.out.mono ?_; rintro e w4 ⟨rfl, H4⟩))
          go_roundg (N - (I + 1))
          case measure => omega
          case rel => exact ⟨I + 1, S, by omega, by omega, rfl, by first | rfl | (congr 1), HE.out _ H4.out.1⟩
        · have hd1 := decide_eq_false hA1
          have hd2 := decide_eq_true hA2
          clear hA
          go_wp2_with (first
            | (refine wpList_load_row rfl 40 _ rfl nb (by first | rfl | simp [Act.eval]) 40 (opC y) (0, 0) _ HF2.out Tryz.underlying40 rfl HOI.out ?_)
            | (go_at_call 12; with_reducible refine HC.out.mono ?_; rintro e w4 ⟨rfl, H4⟩))
          go_roundg (N - (I + 1))
          case measure => omega
          case rel => exact ⟨I + 1, S, by omega, by omega, rfl, by first | rfl | (congr 1), HE.out _ H4.out.1⟩
      · have hA1 : ¬ y.kind < 1 := by omega
        have hA2 : ¬ 10 < y.kind := by omega
        have hd1 := decide_eq_false hA1
        have hd2 := decide_eq_false hA2
        have hag := ag_any HT2.out.wf.1 HOY2.out.ok (by omega) (by omega)
        rw [HR.out] at hag
        have HAG := tHid hag
        clear hA hag
        go_upto_region 15 with (first
          | (refine wpList_load_row rfl 40 _ rfl nb (by first | rfl | simp [Act.eval]) 40 (opC y) (0, 0) _ HF2.out Tryz.underlying40 rfl HOI.out ?_)
          | (go_at_call 12; with_reducible refine HC.out.mono ?_; rintro e w4 ⟨rfl, H4⟩))
        clear HC
        have hn4 := H4.out.1.n
        have hF4 := H4.out.2.heap HF2.out (fun h => h (.inr rfl))
        have HT4 := tHid H4.out.1
        have HF4 := tHid hF4
        clear HF2 H4 k0 hF4 HOY2 HT2 hd1 hd2 hA1 hA2
        by_cases hre : R.e = 0
        · obtain ⟨x, hx1, hx2, hx3, hx4, hx5⟩ := HAG.out.good hre
          have hre2 := decide_eq_true hre
          obtain ⟨AL, hAL⟩ : ∃ AL, RAc.enc x = AL := ⟨_, rfl⟩
          obtain ⟨S1, hS1⟩ : ∃ S1, S1 = S + 1 := ⟨_, rfl⟩
          have zw1 : IntKind.i64.wrap ((S : Int) + 1) = (S1 : Int) := by rw [IntKind.wrap_i64]; omega
          have zw2 : IntKind.i64.wrap ((S1 : Int) - 1) = (S : Int) := by rw [IntKind.wrap_i64]; omega
          have hb0 : (0 : Int) ≤ (S : Int) := by omega
          have hb1 : (S : Int) < (S1 : Int) := by omega
          have hb2 : S < S1 := by omega
          have HTC : Hid (Calls Tryz.prog 16 #[.pointer (some ⟨fb, 0, none⟩)] w4 fun e w5 => ∃ g5 o5 c5, e = .returned (.slice (some ⟨g5, o5, none⟩) S1 c5) ∧ Hid (Nw w4 w5 ∧ w5.rangeAt g5 (o5 + S * 8) AL)) := by
            have h4 := HT4.out
            rw [hx1] at h4
            have hlen : (T ++ [x]).length = S1 := by rw [List.length_append, HTS.out, hS1]; rfl
            have hix : (T ++ [x])[S]? = some x := by rw [← HTS.out]; simp
            refine Calls.mono (tr_trace h4 (by omega)) (fun e w5 hh => ?_)
            obtain ⟨a, c, e1, e2⟩ := hh
            obtain ⟨q1, q2, _⟩ := e2.out
            obtain ⟨g5, o5, ea, hr5⟩ := q2 S x hix
            rw [hlen, ea] at e1
            rw [hAL] at hr5
            exact ⟨g5, o5, c, e1, q1, hr5⟩
          have HSA : Hid ((Tryz.prog.info? 51).map (·.size) = some AL.length) := by rw [← hAL]; exact ac_info x
          have HSA' : Hid ((Tryz.prog.info? 51).map (·.size) = some AL.toArray.size) := by rw [← hAL]; exact ac_info x
          have HZA : Hid (AL.toArray.size = 8) := by rw [← hAL]; rfl
          have HONA : Hid (AL.toArray.all (·.oneCell') = true) := by rw [← hAL]; exact ac_one x
          have HAL := tHid hAL
          have HX1 := tHid hx1
          have HX2 := tHid hx2
          have HX3 := tHid hx3
          have HX4 := tHid hx4
          have HX5 := tHid hx5
          have HS1 := tHid hS1
          clear hAL hx1 hx2 hx3 hx4 hx5 HAG hS1
          go_upto_region 21 with (first | (go_at_call 16; with_reducible refine HTC.out.mono ?_; rintro e w5 ⟨g5, o5, c5, rfl, H5⟩))
          clear HTC
          have HR5 := tHid H5.out.2
          go_upto_region 22 with (first
            | (refine wpList_load_mid rfl 51 _ rfl g5 (o5 + S * 8) (by first | rfl | simp [Act.eval]) AL _ HR5.out Tryz.underlying51 rfl HSA.out ?_)
            | (refine wpList_store_row rfl 51 _ _ rfl w5.heap.size AL.toArray (by first | rfl | simp [Act.eval]) (by first | rfl | simp [Act.eval]) 51 _ (nh w5 _) HSA'.out (by rw [HZA.out]; rfl) HONA.out ?_))
          obtain ⟨W6, hW6⟩ : ∃ W6, (w5.alloc (.cells acZ 51)).setRow w5.heap.size AL.toArray = W6 := ⟨_, rfl⟩
          obtain ⟨f1, f2, f3⟩ := row_put w5 acZ AL.toArray 51
          rw [hW6] at f1 f2 f3
          unfold acZ at hW6
          rw [hW6]
          rw [← HAL.out] at f2
          have n56 := H5.out.1.trans f1
          have HT6 := tHid ((HT4.out.nw H5.out.1).more f1 w5.heap.size ⟨Nat.le_refl _, by omega⟩)
          have hF6 := n56.heap HF4.out
          obtain ⟨a0, a1, a2, a3, a4, a5, a6, a7⟩ := ac_cells f2
          obtain ⟨b7, b15⟩ := op_cells hF6
          have HM6 := tHid (op_meta hF6)
          have HMI := tHid (mt_info y.mt)
          have HF6 := tHid hF6
          have HA6 := tHid f2
          generalize hna : w5.heap.size = na at *
          clear hW6 f1 f2 f3 n56 hF6 HR5 H5 HT4 HF4 HSA HSA' HZA HONA HAL hna hn4
          have HOI2 := tHid (op_info (agO x y))
          have HON2 := tHid (op_one (agO x y))
          go_upto_region 23 with (first
            | (refine wpList_load_mid rfl 37 _ rfl nb 8 (by first | rfl | simp [Act.eval]) (mtL y.mt) _ HM6.out Tryz.underlying37 rfl HMI.out ?_)
            | (refine wpList_buildTo rfl 40 _ rfl _ rfl (opC (agO x y)) (by kernel_rfl) ?_)
            | (refine wpList_store_row rfl 40 _ _ rfl W6.heap.size (opC (agO x y)) (by first | rfl | simp [Act.eval]) (by first | rfl | simp [Act.eval]) 40 _ (nh W6 _) HOI2.out rfl HON2.out ?_))
          obtain ⟨W7, hW7⟩ : ∃ W7, (W6.alloc (.cells opZ 40)).setRow W6.heap.size (opC (agO x y)) = W7 := ⟨_, rfl⟩
          obtain ⟨f1, f2, f3⟩ := row_put W6 opZ (opC (agO x y)) 40
          rw [hW7] at f1 f2 f3
          unfold opZ at hW7
          rw [hW7]
          have hT7 := HT6.out.nw f1
          have hoy7 := HOY.out W7 hT7.n
          have HG := tHid (tr_g hT7 hbb (show OqR (agO x y) W7 from ⟨HX5.out, hoy7.bn, hoy7.bsl⟩) HX2.out)
          rw [hre] at HG
          have HB7 := tHid (f1.heap HF6.out)
          have HA7 := tHid (f1.heap HA6.out)
          have HF7 := tHid f2
          have hbn := hoy7.bn
          have hxn : x.op = 5 → x.n = (y.bs.n : Int) := fun h => by rw [HX4.out h, hbn]
          generalize hnc : W6.heap.size = nc at *
          clear hW7 f1 f2 f3 hT7 hoy7 hbn HT6 HF6 HA6 HM6 HMI a0 a1 a2 a3 a4 a5 a6 a7 b7 b15 hnc HOI HON2 HOY HX4 HX5 HX2
          go_upto_region 24 with (first
            | (refine wpList_load_row rfl 40 _ rfl nc (by first | rfl | simp [Act.eval]) 40 (opC (agO x y)) (0, 0) _ HF7.out Tryz.underlying40 rfl HOI2.out ?_)
            | (go_at_call 12; with_reducible refine HG.out.mono ?_; rintro e w8 ⟨rfl, H8⟩))
          have hB8 := H8.out.2.heap HB7.out (fun h => h (.inl (.inr rfl)))
          have hA8 := H8.out.2.heap HA7.out (fun h => h (.inr rfl))
          obtain ⟨a0, a1, a2, a3, a4, a5, a6, a7⟩ := ac_cells hA8
          obtain ⟨b7, b15⟩ := op_cells hB8
          have HE : Hid (∃ X1 T, Tr w t0 fb fg (I + 1) (I + 1) (fun _ => False) X1 X1 T w8 ∧ T.length = S1) := by
            refine ⟨R.X, T ++ R.acts, H8.out.1.none (Nat.le_refl _), ?_⟩
            rw [HX1.out, List.length_append, HTS.out, HS1.out]; rfl
          have hx3 := HX3.out
          clear HG HB7 HA7 HF7 HOI2 hB8 hA8 a1 a2 a4 a5 a6 b7 H8 HX1 HTS HS1 HX3
          have hx3' : R.n = 0 ∨ (¬ R.n = 0 ∧ R.n = x.node) := by omega
          rcases hx3' with hz | ⟨hz, hz'⟩
          · by_cases h5 : x.op = 5
            · have hxn5 := hxn h5
              have d1 := decide_eq_true hz
              have d2 := decide_eq_true h5
              go_wp2_with fail
              go_roundg (N - (I + 1))
              case measure => omega
              case rel => exact ⟨I + 1, S1, by omega, by omega, rfl, by first | rfl | (congr 1), HE⟩
            · have d1 := decide_eq_true hz
              have d2 := decide_eq_false h5
              go_wp2_with fail
              go_roundg (N - (I + 1))
              case measure => omega
              case rel => exact ⟨I + 1, S1, by omega, by omega, rfl, by first | rfl | (congr 1), HE⟩
          · by_cases h5 : x.op = 5
            · have hxn5 := hxn h5
              have d1 := decide_eq_false hz
              have d3 := decide_eq_true hz'
              have d2 := decide_eq_true h5
              go_wp2_with fail
              go_roundg (N - (I + 1))
              case measure => omega
              case rel => exact ⟨I + 1, S1, by omega, by omega, rfl, by first | rfl | (congr 1), HE⟩
            · have d1 := decide_eq_false hz
              have d3 := decide_eq_true hz'
              have d2 := decide_eq_false h5
              go_wp2_with fail
              go_roundg (N - (I + 1))
              case measure => omega
              case rel => exact ⟨I + 1, S1, by omega, by omega, rfl, by first | rfl | (congr 1), HE⟩
        · have hre2 := decide_eq_false hre
          have hre3 : (R.e == 0) = false := by simpa using hre
          obtain ⟨hb1, hb2⟩ := HAG.out.bad hre
          have HTC : Hid (Calls Tryz.prog 16 #[.pointer (some ⟨fb, 0, none⟩)] w4 fun e w5 => ∃ a c, e = .returned (.slice a S c) ∧ Hid (∃ X1 T, Tr w t0 fb fg (I + 1) (I + 1) (fun _ => False) X1 X1 T w5 ∧ T.length = S)) := by
            have h4 := HT4.out
            rw [hb1, hb2, List.append_nil] at h4
            refine Calls.mono (tr_trace h4 (by omega)) (fun e w5 hh => ?_)
            obtain ⟨a, c, e1, e2⟩ := hh
            rw [HTS.out] at e1
            exact ⟨a, c, e1, X1, T, (h4.nw e2.out.1).none (by omega), HTS.out⟩
          clear hb1 hb2 HAG HT4 HTS HF4 hn4
          go_wp2_with (first | (go_at_call 16; with_reducible refine HTC.out.mono ?_; rintro e w5 ⟨a5, c5, rfl, H5⟩))
          go_roundg (N - (I + 1))
          case measure => omega
          case rel => exact ⟨I + 1, S, by omega, by omega, rfl, by first | rfl | (congr 1), H5⟩
    · obtain rfl : I = N := by omega
      obtain ⟨X1, T, hT, hTS⟩ := HR.out
      have hlt2 : ¬ (I : Int) < (I : Int) := by omega
      have hltd := decide_eq_false hlt2
      have hltn := decide_eq_false hlt
      have hbb : t0 + I ≤ 1000000 := by have := HT.out; omega
      have HA := tHid (tr_image hT hbb hbb)
      have HD := tHid hT.n
      clear HR hT hTS HO HNN
      go_wp2_with (first
        | (go_at_call 13; with_reducible refine HA.out.mono ?_; rintro e w17 ⟨a17, n17, c17, rfl, H17⟩)
        | (go_at_call 13; with_reducible refine H17.out.mono ?_; rintro e w18 ⟨a18, n18, c18, rfl, H18⟩)
        | (go_at_call 14; with_reducible refine H18.out.mono ?_; rintro e w19 ⟨rfl, H19⟩))
      exact HF.out _ (HD.out.trans H19.out)
end Go.Proofs.YtcogkhcfpgelhabGreat

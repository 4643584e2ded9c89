import Derived.Test.YtkpkiajehclbhaaCpE
namespace Go.Proofs.Ytkpkiajehclbhaa
open Go.RowKit
set_option linter.unusedVariables false
set_option maxHeartbeats 32000000 in
set_option maxRecDepth 100000 in
theorem px_yes (w : World) (v0 : Value) (ls : List Nat) (h0 : SlR RI (fun _ => False) v0 (toI ls) w) (hk : Cod ls) (v1 : Value) (ys : List Int) (h1 : SlR RI (fun _ => False) v1 ys w) (hy : ys.length ≤ 17592186043904) : Calls Try.prog 8 #[v0, v1] w fun e w' => e = .returned (.bool true) ∧ Nw w w' := by
  obtain ⟨P, hP⟩ : ∃ P : Ending → World → Prop, P = fun e w' => e = .returned (.bool true) ∧ Nw w w' := ⟨_, rfl⟩
  rw [← hP]
  have hll := hk.len
  have hl0 := hk.some
  obtain ⟨g, c, W, HAP, hO, hN, hg⟩ := ints_copy w v0 (toI ls) h0 (by rw [toI_length]; omega)
  rw [toI_length] at HAP hO
  obtain ⟨a0, c0, rfl, hc0, hc02, _⟩ := h0.form
  rw [toI_length] at h0 hc0
  have HY : Hid (SlR RI (fun _ => False) v1 ys w) := h1
  obtain ⟨a1, c1, rfl, hc1, hc12, _⟩ := h1.form
  obtain ⟨gl, ol, rfl, hls⟩ := lens_at w a0 _ c0 ls h0 hl0
  rw [toI_length] at HAP
  have HLS : Hid (∀ V i, Nw w V → i < ls.length → V.cell? ⟨gl, ol + i, none⟩ = some (.int .i64 ((ls.getD i 0 : Nat) : Int))) := hls
  have HC : Hid (Calls Try.prog 32 #[.slice (some ⟨g, 0, none⟩) ls.length c] W fun e w1 => ∃ cb, e = .returned (.tuple #[.pointer (some ⟨cb, 0, none⟩), .int .i64 0]) ∧ Hid (∃ gw gs ws ss, CodeI cb gw gs ls ws ss w1) ∧ Hid (Nw w w1)) := by
    refine (newCode_yes W _ ls hO.low hk).mono ?_
    rintro e w1 ⟨cb, gw, gs, ws, ss, rfl, h2, h3, _⟩
    exact ⟨cb, rfl, ⟨gw, gs, ws, ss, h2⟩, hN.trans h3⟩
  have HF : Hid (∀ W, Nw w W → P (.returned (.bool true)) W) := fun W hW => by rw [hP]; exact ⟨rfl, hW⟩
  have HK : Hid (Cod ls) := hk
  have hnn : ∀ (b : Nat) w, (binOp BinOp.eql 55 (.pointer (some ⟨b, 0, none⟩)) (.pointer none)).run Try.prog w = .ok (.bool false) w := fun _ _ => by kernel_rfl
  have her : ∀ (b : Nat) w, (binOp BinOp.eql 26 (.pointer (some ⟨b, 0, none⟩)) (.pointer none)).run Try.prog w = .ok (.bool false) w := fun _ _ => by kernel_rfl
  clear hP hO h0 hN hg hk h1 hls
  obtain ⟨L, hL⟩ : ∃ L, L = ls.length := ⟨_, rfl⟩
  rw [← hL] at hll hl0 HAP hc0 HLS HC
  rw [toI_length, ← hL]
  have HL : Hid (L = ls.length) := hL
  clear hL
  generalize hM : ys.length = M at *
  have HM : Hid (ys.length = M) := hM
  clear hM
  go_enter Try.func8, Try.ntmps8
  go_upto_region 5 with (first
    | (at_builtin; refine Lib.wpList_append_run _ rfl _ _ 54 54 rfl (.slice (some ⟨w.heap.size, 0, none⟩) 0 0) (.slice (some ⟨gl, ol, none⟩) L c0) (by simp [Act.eval]) (by simp [Act.eval]) _ _ (HAP.out _) ?_)
    | (go_at_call 32; (with_reducible refine HC.out.mono ?_); rintro e w1 ⟨cb, rfl, HCD, HN1⟩))
  clear HC HAP
  have HI0 : Hid (PxM w1 ls w1.heap.size none (w1.heap.size + 1) 0 [] [] ((w1.alloc (.cells #[.slice none 0 0, .int .i64 0] 46)).alloc (.cells #[] 3))) := px_start w1 ls
  go_upto_region 7 with fail
  generalize (w1.alloc (.cells #[.slice none 0 0, .int .i64 0] 46)).alloc (.cells #[] 3) = w4 at *
  obtain ⟨gd0, hgd0⟩ : ∃ g, g = w1.heap.size + 1 := ⟨_, rfl⟩
  obtain ⟨wb, hwb⟩ : ∃ wb, wb = w1.heap.size := ⟨_, rfl⟩
  rw [← hgd0, ← hwb] at HI0
  rw [← hgd0, ← hwb]
  clear hgd0 hwb
  have HWD : Hid (∀ V z, Nw w1 V → Calls Try.prog 35 #[.pointer (some ⟨cb, 0, none⟩), .int .i64 z] V fun e w2 => e = .returned (wordV (wordA ls z)) ∧ Hid (Nw V w2)) := fun V z hV => by
    obtain ⟨gw, gs, ws, ss, hC⟩ := HCD.out
    exact word_any (hC.nw hV) HK.out z
  go_wp2_with fail
  go_loopg [10, 11] M (fun kx v i wr => ∃ (I gd cd ln : Nat), I ≤ M ∧ M - I ≤ kx ∧ v = .slice (some ⟨gd, 0, none⟩) ln cd ∧ i = .int .i64 I ∧ Hid (∃ og ds, ln = ds.length ∧ PxM w1 ls wb og gd cd ds ds wr ∧ ds.length ≤ I))
  case atStart => exact ⟨0, gd0, 0, 0, by omega, by omega, rfl, rfl, ⟨none, [], rfl, HI0, by simp⟩⟩
  case round =>
    obtain ⟨I, gd, cd, ln, hI, hkx, rfl, rfl, HI⟩ := hrel
    clear HI0
    obtain ⟨og, ds, hln, hR, hdI⟩ := HI.out
    have hN0 := hR.nw
    have hlnb : ln ≤ 17592186043904 := by omega
    have hcd : ln ≤ cd ∧ cd < 9223372036854775808 := by
      obtain ⟨c', e, h1, h2⟩ := hR.d.form
      injection e with _ _ e
      rw [toI_length] at h1
      omega
    obtain ⟨hcd1, hcd2⟩ := hcd
    by_cases hlt : I < M
    · obtain ⟨x, hx⟩ : ∃ x, ys[I]? = some x := ⟨_, List.getElem?_eq_getElem (by rw [HM.out]; exact hlt)⟩
      obtain ⟨gy, oy, rfl, _, hcell⟩ := ri_at (HY.out.nw (HN1.out.trans hN0)) I x hx
      have hz : (I : Int) < (M : Int) := by omega
      rcases wordA_some ls x with ⟨q1, q2, q3, hq, hq3, hq52⟩ | ⟨i, rfl, hi, hi0, hq⟩
      · have HW := HWD.out wr x hN0
        rw [hq] at HW
        have HW : Hid (Calls Try.prog 35 #[.pointer (some ⟨cb, 0, none⟩), .int .i64 x] wr fun e w2 => e = .returned (.tuple #[.agg #[.int .u32 q1, .int .i64 q2], .int .i64 q3]) ∧ Hid (Nw wr w2)) := HW
        have HN : Hid (∀ V, Nw wr V → ∃ og ds, ln = ds.length ∧ PxM w1 ls wb og gd cd ds ds V ∧ ds.length ≤ I + 1) := fun V hV => ⟨og, ds, hln, hR.keep hV, by omega⟩
        have hq3i : ¬ ((q3 : Nat) : Int) = 0 := by omega
        clear HI hR hq hx HY HLS HF HWD HCD HK hN0 hln
        go_wp2_with (first | (go_at_call 35; (with_reducible refine HW.out.mono ?_); rintro e w5 ⟨rfl, H5⟩))
        go_roundg (M - (I + 1))
        case measure => omega
        case rel => exact ⟨I + 1, gd, cd, ln, by omega, by omega, rfl, by first | rfl | (congr 1), HN.out _ (H5.out.trans ((Fr.refl _ _).alloc _))⟩
      · have HW := HWD.out wr i hN0
        rw [hq] at HW
        have HW : Hid (Calls Try.prog 35 #[.pointer (some ⟨cb, 0, none⟩), .int .i64 i] wr fun e w2 => e = .returned (.tuple #[.agg #[.int .u32 (wdP ls i).1, .int .i64 (ls.getD i 0 : Nat)], .int .i64 0]) ∧ Hid (Nw wr w2)) := HW
        have hiL : i < L := by rw [HL.out]; exact hi
        have HPT : Hid (∀ V xb, Nw wr V → xb = wr.heap.size ∨ wr.heap.size ≤ xb → V.heap[xb]? = some (.cells #[.int .u32 (wdP ls i).1, .int .i64 (ls.getD i 0 : Nat)] 62) → Calls Try.prog 23 #[.pointer (some ⟨wb, 0, none⟩), .int .u32 (wdP ls i).1, .int .i64 (ls.getD i 0 : Nat)] V.drew fun e w2 => e = .returned (.int .i64 0) ∧
            (w2.cell? ⟨xb, 0, none⟩ = some (.int .u32 (wdP ls i).1) ∧ w2.cell? ⟨xb, 1, none⟩ = some (.int .i64 (ls.getD i 0 : Nat)) ∧ w2.cell? ⟨gl, ol + i, none⟩ = some (.int .i64 (ls.getD i 0 : Nat)) ∧ w2.cell? ⟨gy, oy + I, none⟩ = some (.int .i64 i)) ∧ Hid (∃ og', PxM w1 ls wb og' gd cd (ds ++ [i]) ds w2)) := by
          intro V xb hV hxb hrow
          have hV' : Nw wr V.drew := hV.drew
          have hwi : (wdP ls i).2 = ls.getD i 0 := by unfold wdP; rw [if_neg hi0]
          have hp := hR.put HK.out (by omega) i hi hi0 V.drew hV'
          rw [hwi] at hp
          refine hp.mono ?_
          rintro e w2 ⟨rfl, ⟨og', h2⟩, h3⟩
          have k1 := hR.p.lt
          have k2 := hR.p.olt
          have hrow2 : w2.heap[xb]? = some (.cells #[.int .u32 (wdP ls i).1, .int .i64 (ls.getD i 0 : Nat)] 62) := row_kept (w := V.drew) hrow h3 (by
            rintro (e | e)
            · omega
            · have := k2 _ e; omega)
          refine ⟨rfl, ⟨(row_cell hrow2 0 _ rfl).1, (row_cell hrow2 1 _ rfl).1, HLS.out w2 i (HN1.out.trans h2.nw) hiL, ?_⟩, ⟨og', h2⟩⟩
          obtain ⟨gy', oy', e', _, hc⟩ := ri_at (HY.out.nw (HN1.out.trans h2.nw)) I _ hx
          injection e' with e'
          injection e' with e1 e2
          subst e1 e2
          exact hc
        have HLC : Hid (∀ V, Nw wr V → V.cell? ⟨gl, ol + i, none⟩ = some (.int .i64 (ls.getD i 0 : Nat)) ∧ V.cell? ⟨gy, oy + I, none⟩ = some (.int .i64 i)) := fun V hV => ⟨HLS.out V i (HN1.out.trans (hN0.trans hV)) hiL, hV.cell hcell⟩
        have HPU : Hid (∀ V og', PxM w1 ls wb og' gd cd (ds ++ [i]) ds V → ∃ gd' cd' W', Hid (∀ ty, (Builtin.append_ #[54, 54] ty #[.slice (some ⟨gd, 0, none⟩) ln cd, .slice (some ⟨V.heap.size, 0, none⟩) 1 1]).run Try.prog (V.alloc (.cells #[.int .i64 (i : Nat)] 3)) = .ok (.slice (some ⟨gd', 0, none⟩) (ln + 1) cd') W') ∧ Hid (∃ og ds, ln + 1 = ds.length ∧ PxM w1 ls wb og gd' cd' ds ds W' ∧ ds.length ≤ I + 1)) := fun V og' hV => by
          obtain ⟨gd', cd', W', k1, k2⟩ := hV.push (by omega)
          rw [← hln] at k1
          exact ⟨gd', cd', W', k1, ⟨og', ds ++ [i], by simp; omega, k2, by simp; omega⟩⟩
        have hl15 := HK.out.each i
        have hw32 : (wdP ls i).1 < 4294967296 := by
          have h1 := wdP_lt (ls := ls) i
          have h2 : (2 : Nat) ^ ls.getD i 0 ≤ 2 ^ 15 := Nat.pow_le_pow_right (by decide) hl15
          omega
        have hil0 : ((0 : Nat) : Int) ≤ (i : Int) := by omega
        have hil1 : (i : Int) < (L : Int) := by omega
        have hlt1 : ¬ ((ls.getD i 0 : Nat) : Int) < 1 := by omega
        have hlt2 : ¬ (15 : Int) < ((ls.getD i 0 : Nat) : Int) := by omega
        have hd1 : decide (((ls.getD i 0 : Nat) : Int) < 1) = false := decide_eq_false hlt1
        have hd2 : decide ((15 : Int) < ((ls.getD i 0 : Nat) : Int)) = false := decide_eq_false hlt2
        clear HI hR hq hx HY HLS HF HWD HCD HK hN0 hi hi0 HL HM hln
        generalize ls.getD i 0 = l at *
        generalize (wdP ls i).1 = q at *
        go_upto_region 12 with (first | (go_at_call 35; (with_reducible refine HW.out.mono ?_); rintro e w5 ⟨rfl, H5⟩))
        obtain ⟨hbx, hbn⟩ := box_word w5 (.int .u32 q) (.int .i64 l)
        have H6 : Hid (Nw wr (w5.alloc (.cells #[.int .u32 q, .int .i64 l] 62))) := H5.out.trans hbn
        obtain ⟨c2, c3⟩ := HLC.out _ H6.out
        have c0' := (row_cell hbx 0 _ rfl).1
        have c1' := (row_cell hbx 1 _ rfl).1
        have HC6 := HPT.out _ w5.heap.size H6.out (.inr H5.out.size) hbx
        have HC6 : Hid (Calls Try.prog 23 #[.pointer (some ⟨wb, 0, none⟩), .int .u32 q, .int .i64 l] (w5.alloc (.cells #[.int .u32 q, .int .i64 l] 62)).drew fun e w2 => e = .returned (.int .i64 0) ∧
            (w2.cell? ⟨w5.heap.size, 0, none⟩ = some (.int .u32 q) ∧ w2.cell? ⟨w5.heap.size, 1, none⟩ = some (.int .i64 l) ∧ w2.cell? ⟨gl, ol + i, none⟩ = some (.int .i64 l) ∧ w2.cell? ⟨gy, oy + I, none⟩ = some (.int .i64 i)) ∧ Hid (∃ og', PxM w1 ls wb og' gd cd (ds ++ [i]) ds w2)) := HC6
        generalize w5.alloc (.cells #[.int .u32 q, .int .i64 l] 62) = w6 at *
        generalize w5.heap.size = xb at *
        have d0 : w6.drew.cell? ⟨xb, 0, none⟩ = some (.int .u32 q) := c0'
        have d1 : w6.drew.cell? ⟨xb, 1, none⟩ = some (.int .i64 l) := c1'
        have d2 : w6.drew.cell? ⟨gl, ol + i, none⟩ = some (.int .i64 l) := c2
        have d3 : w6.drew.cell? ⟨gy, oy + I, none⟩ = some (.int .i64 i) := c3
        clear HW H5 HPT HLC H6 hbx hbn
        go_region_held3 (fun w' => w'.cell? ⟨xb, 0, none⟩ = some (.int .u32 q) ∧ w'.cell? ⟨xb, 1, none⟩ = some (.int .i64 l) ∧ w'.cell? ⟨gl, ol + i, none⟩ = some (.int .i64 l) ∧ w'.cell? ⟨gy, oy + I, none⟩ = some (.int .i64 i))
          (first | assumption | (refine ⟨?_, ?_, ?_, ?_⟩ <;> assumption))
          (first | (go_at_call 23; (with_reducible refine HC6.out.mono ?_); rintro e w7 ⟨rfl, ⟨f0, f1, f2, f3⟩, H7⟩))
        obtain ⟨og', h7⟩ := H7.out
        obtain ⟨gd', cd', W', HAP, HN'⟩ := HPU.out w7 og' h7
        clear HPU H7 h7 HC6 d0 d1 d2 d3 c0' c1' c2 c3
        go_wp2_with (first | (at_builtin; refine Lib.wpList_append_run _ rfl _ _ 54 54 rfl (.slice (some ⟨gd, 0, none⟩) ln cd) (.slice (some ⟨_, 0, none⟩) 1 1) (by simp [Act.eval]) (by simp [Act.eval]) _ _ (HAP.out _) ?_))
        go_roundg (M - (I + 1))
        case measure => omega
        case rel => exact ⟨I + 1, gd', cd', ln + 1, by omega, by omega, rfl, by first | rfl | (congr 1), HN'⟩
    · have HT := hR.turn HK.out (by omega)
      have hz : ¬ (I : Int) < (M : Int) := by omega
      have HQ : Hid (ln = ds.length) := hln
      clear HI hR hln hN0 HY HM
      go_upto_region 18 with (first | (go_at_call 29; (with_reducible refine HT.out.mono ?_); rintro e w5 ⟨x, rfl, H5⟩) | (go_at_call 10; (with_reducible refine H5.out.mono ?_); rintro e w6 ⟨rb, rfl, H6⟩))
      have HI1 : Hid (∃ K, PxR w1 ls gd cd ds K rb x (pn ls (ds.take 0)) w6) := H6.out
      clear HT H5 H6
      go_wp2_with fail
      go_loopg [15] ln (fun kx i wr => ∃ (J : Nat), J ≤ ln ∧ ln - J ≤ kx ∧ i = .int .i64 J ∧ Hid (∃ K, PxR w1 ls gd cd ds K rb x (pn ls (ds.take J)) wr))
      case atStart => exact ⟨0, by omega, by omega, rfl, HI1⟩
      case round =>
        obtain ⟨J, hJ, hkx2, rfl, HJ⟩ := hrel
        clear HI1
        obtain ⟨K, hB⟩ := HJ.out
        by_cases hlt2 : J < ln
        · obtain ⟨i, hi⟩ : ∃ i, ds[J]? = some i := ⟨_, List.getElem?_eq_getElem (by rw [← HQ.out]; exact hlt2)⟩
          have HR : Hid (Calls Try.prog 37 #[.pointer (some ⟨cb, 0, none⟩), .pointer (some ⟨rb, 0, none⟩)] wr fun e w1' => e = .returned (.tuple #[.int .i64 (i : Nat), .int .i64 0]) ∧ w1'.cell? ⟨gd, J, none⟩ = some (.int .i64 (i : Nat)) ∧ Hid (∃ K, PxR w1 ls gd cd ds K rb x (pn ls (ds.take (J + 1))) w1')) := by
            obtain ⟨gw, gs, ws, ss, hC⟩ := HCD.out
            refine (hB.read hC HK.out i hi).out.mono ?_
            rintro e w2 ⟨rfl, h2, h3⟩
            exact ⟨rfl, h2, K, h3.out⟩
          have hz2 : (J : Int) < (ln : Int) := by omega
          clear HJ hB hi HCD HF HWD HLS
          go_wp2_with (first | (go_at_call 37; (with_reducible refine HR.out.mono ?_); rintro e w7 ⟨rfl, f0, H7⟩))
          go_roundg (ln - (J + 1))
          case measure => omega
          case rel => exact ⟨J + 1, by omega, by omega, by first | rfl | (congr 1), H7⟩
        · obtain rfl : J = ln := by omega
          have hz2 : ¬ (J : Int) < (J : Int) := by omega
          have HI3 : Hid (∃ K, PxR w1 ls gd cd ds K rb x (pn ls ds) wr) := ⟨K, by rw [HQ.out, List.take_length] at hB; exact hB⟩
          have HWX : Hid (∀ V i, Nw w1 V → i < L → ls.getD i 0 ≠ 0 → Calls Try.prog 35 #[.pointer (some ⟨cb, 0, none⟩), .int .i64 (i : Nat)] V fun e w2 => e = .returned (.tuple #[.agg #[.int .u32 (wdP ls i).1, .int .i64 (ls.getD i 0 : Nat)], .int .i64 0]) ∧ Hid (Nw V w2)) := fun V i hV hi h0 => by
            have hiL : i < ls.length := by rw [← HL.out]; exact hi
            have e : wordA ls (i : Int) = (((wdP ls i).1, ls.getD i 0), 0) := by
              unfold wordA
              rw [if_neg (by omega), Int.toNat_natCast, if_neg h0]
              unfold wdP
              rw [if_neg h0]
            have := HWD.out V (i : Int) hV
            rw [e] at this
            exact this
          have HRI : Hid (∀ i j, j < i → i < L → ls.getD i 0 ≠ 0 → ls.getD i 0 = ls.getD j 0 → rev (ls.getD j 0) (wdP ls j).1 < rev (ls.getD i 0) (wdP ls i).1) := fun i j hj hi h0 he => by
            have := turned_rise HK.out i j hj (by rw [← HL.out]; exact hi) h0 he
            rwa [show (wdP ls j).2 = ls.getD j 0 by unfold wdP; rw [if_neg (by rw [← he]; exact h0)], show (wdP ls i).2 = ls.getD i 0 by unfold wdP; rw [if_neg h0]] at this
          have HLS2 : Hid (∀ V i, Nw w1 V → i < L → V.cell? ⟨gl, ol + i, none⟩ = some (.int .i64 ((ls.getD i 0 : Nat) : Int))) := fun V i hV hi => HLS.out V i (HN1.out.trans hV) hi
          have HF2 : Hid (∀ V K, PxR w1 ls gd cd ds K rb x (pn ls ds) V → Calls Try.prog 20 #[.pointer (some ⟨rb, 0, none⟩)] V fun e w2 => ∃ q : Nat, q < 8 ∧ e = .returned (.int .i64 q) ∧ Hid (P (.returned (.bool true)) w2)) := fun V K hV => by
            refine (hV.left rfl).out.mono ?_
            rintro e w2 ⟨q, hq, rfl, h2⟩
            exact ⟨q, hq, rfl, HF.out _ (HN1.out.trans h2.out)⟩
          have HE : Hid (∀ i, ls.getD i 0 ≤ 15) := HK.out.each
          have HQL : Hid (∀ i, (wdP ls i).1 < 4294967296) := fun i => by
            have h1 := wdP_lt (ls := ls) i
            have h2 : (2 : Nat) ^ ls.getD i 0 ≤ 2 ^ 15 := Nat.pow_le_pow_right (by decide) (HE.out i)
            show (wdP ls i).1 < 4294967296
            omega
          clear HJ hB HQ HLS HF HWD HCD HK HN1 HL
          go_wp2_with fail
          go_loopg [18] L (fun kx i wr => ∃ (I2 : Nat), I2 ≤ L ∧ L - I2 ≤ kx ∧ i = .int .i64 I2 ∧ Hid (∃ K, PxR w1 ls gd cd ds K rb x (pn ls ds) wr))
          case atStart => exact ⟨0, by omega, by omega, rfl, HI3⟩
          case round =>
            obtain ⟨I2, hI2, hkx3, rfl, HI4⟩ := hrel
            clear HI3
            by_cases hlt3 : I2 < L
            · have hz3 : (I2 : Int) < (L : Int) := by omega
              go_wp2_with fail
              go_loopg [19] I2 (fun kx j wr => ∃ (J2 : Nat), J2 ≤ I2 ∧ I2 - J2 ≤ kx ∧ j = .int .i64 J2 ∧ Hid (∃ K, PxR w1 ls gd cd ds K rb x (pn ls ds) wr))
              case atStart => exact ⟨0, by omega, by omega, rfl, HI4⟩
              case round =>
                obtain ⟨J2, hJ2, hkx4, rfl, HI5⟩ := hrel
                clear HI4
                obtain ⟨K2, hX⟩ := HI5.out
                have hXN := hX.nw
                have HKP : Hid (∀ V, Nw wr V → ∃ K, PxR w1 ls gd cd ds K rb x (pn ls ds) V) := fun V hV => ⟨K2, hX.keep hV⟩
                by_cases hlt4 : J2 < I2
                · have hz4 : (J2 : Int) < (I2 : Int) := by omega
                  have ci := HLS2.out wr I2 hXN (by omega)
                  have cj := HLS2.out wr J2 hXN (by omega)
                  have hz5 : (J2 : Int) < (L : Int) := by omega
                  have ei := HE.out I2
                  have ej := HE.out J2
                  by_cases e0 : ls.getD I2 0 = 0
                  · rw [e0] at ci
                    have hd0 : (((0 : Nat) : Int) == 0) = true := by decide
                    clear HWX HRI HF2 HI5 hX hXN HE HQL HLS2
                    generalize ls.getD J2 0 = b at *
                    go_wp2_with fail
                    go_quiet (fail)
                    go_wp2_with fail
                    go_roundg (I2 - (J2 + 1))
                    case measure => omega
                    case rel => exact ⟨J2 + 1, by omega, by omega, by first | rfl | (congr 1), HKP.out _ ((Fr.refl _ _).drewN _)⟩
                  · by_cases e1 : ls.getD I2 0 = ls.getD J2 0
                    · have e0j : ls.getD J2 0 ≠ 0 := by rw [← e1]; exact e0
                      have hri := HRI.out I2 J2 hlt4 (by omega) e0 e1
                      have q1l := HQL.out I2
                      have q2l := HQL.out J2
                      have HWI : Hid (∀ V, Nw wr V → Calls Try.prog 35 #[.pointer (some ⟨cb, 0, none⟩), .int .i64 (I2 : Nat)] V fun e w2 => e = .returned (.tuple #[.agg #[.int .u32 (wdP ls I2).1, .int .i64 (ls.getD I2 0 : Nat)], .int .i64 0]) ∧ Hid (Nw V w2)) := fun V hV => HWX.out V I2 (hXN.trans hV) (by omega) e0
                      have HWJ : Hid (∀ V, Nw wr V → Calls Try.prog 35 #[.pointer (some ⟨cb, 0, none⟩), .int .i64 (J2 : Nat)] V fun e w2 => e = .returned (.tuple #[.agg #[.int .u32 (wdP ls J2).1, .int .i64 (ls.getD J2 0 : Nat)], .int .i64 0]) ∧ Hid (Nw V w2)) := fun V hV => HWX.out V J2 (hXN.trans hV) (by omega) e0j
                      rw [← e1] at cj HWJ hri
                      clear HWX HRI HF2 HI5 hX hXN HE HQL HLS2 e1 e0j ej
                      generalize ls.getD I2 0 = a at *
                      generalize (wdP ls I2).1 = q1 at *
                      generalize (wdP ls J2).1 = q2 at *
                      have hd0 : ((a : Int) == 0) = false := by simp; omega
                      have hd1 : ((a : Int) != (a : Int)) = false := by simp
                      have HDR : Hid (∀ n, Nw wr (wr.drewN n)) := fun n => (Fr.refl _ _).drewN n
                      have HTU : Hid (∀ V (q : Nat), q < 4294967296 → Calls Try.prog 42 #[.agg #[.int .u32 q, .int .i64 a]] V fun e w2 => e = .returned (.int .u32 (rev a q)) ∧ Nw V w2) := fun V q hq => lturned_any q a hq ei V
                      go_wp2_with fail
                      go_quiet (fail)
                      go_upto_region 32 with (first | (go_at_call 35; (with_reducible refine (HWI.out _ (HDR.out _)).mono ?_); rintro e w7 ⟨rfl, H7⟩))
                      obtain ⟨hbx, hbn⟩ := box_word w7 (.int .u32 q1) (.int .i64 a)
                      have H8 : Hid (Nw wr (w7.alloc (.cells #[.int .u32 q1, .int .i64 a] 62))) := (HDR.out _).trans (H7.out.trans hbn)
                      generalize w7.alloc (.cells #[.int .u32 q1, .int .i64 a] 62) = w8 at *
                      clear H7 hbn
                      generalize w7.heap.size = xb at *
                      go_upto_region 33 with (first | (go_at_call 35; (with_reducible refine (HWJ.out _ H8.out).mono ?_); rintro e w9 ⟨rfl, H9⟩))
                      obtain ⟨hby, hbn2⟩ := box_word w9 (.int .u32 q2) (.int .i64 a)
                      have hbx2 := (H9.out.trans hbn2).heap hbx
                      have H10 : Hid (Nw wr (w9.alloc (.cells #[.int .u32 q2, .int .i64 a] 62))) := H8.out.trans (H9.out.trans hbn2)
                      generalize w9.alloc (.cells #[.int .u32 q2, .int .i64 a] 62) = w10 at *
                      clear H9 hbn2
                      generalize w9.heap.size = yb at *
                      have x0 := (row_cell hbx2 0 _ rfl).1
                      have x1 := (row_cell hbx2 1 _ rfl).1
                      have y0 := (row_cell hby 0 _ rfl).1
                      have y1 := (row_cell hby 1 _ rfl).1
                      have x0d : w10.drew.cell? ⟨xb, 0, none⟩ = some (.int .u32 q1) := x0
                      have x1d : w10.drew.cell? ⟨xb, 1, none⟩ = some (.int .i64 a) := x1
                      have y0d : w10.drew.cell? ⟨yb, 0, none⟩ = some (.int .u32 q2) := y0
                      have y1d : w10.drew.cell? ⟨yb, 1, none⟩ = some (.int .i64 a) := y1
                      have HC : Hid (Calls Try.prog 42 #[.agg #[.int .u32 q1, .int .i64 a]] w10.drew fun e w2 => e = .returned (.int .u32 (rev a q1)) ∧ (w2.cell? ⟨xb, 0, none⟩ = some (.int .u32 q1) ∧ w2.cell? ⟨xb, 1, none⟩ = some (.int .i64 a) ∧ w2.cell? ⟨yb, 0, none⟩ = some (.int .u32 q2) ∧ w2.cell? ⟨yb, 1, none⟩ = some (.int .i64 a)) ∧ Hid (Calls Try.prog 42 #[.agg #[.int .u32 q2, .int .i64 a]] w2 fun e w3 => e = .returned (.int .u32 (rev a q2)) ∧ (w3.cell? ⟨xb, 0, none⟩ = some (.int .u32 q1) ∧ w3.cell? ⟨xb, 1, none⟩ = some (.int .i64 a) ∧ w3.cell? ⟨yb, 0, none⟩ = some (.int .u32 q2) ∧ w3.cell? ⟨yb, 1, none⟩ = some (.int .i64 a)) ∧ Hid (Nw wr w3))) := by
                        refine (HTU.out _ q1 q1l).mono ?_
                        rintro e w2 ⟨rfl, k2⟩
                        refine ⟨rfl, ⟨k2.cell x0d, k2.cell x1d, k2.cell y0d, k2.cell y1d⟩, (HTU.out _ q2 q2l).mono ?_⟩
                        rintro e w3 ⟨rfl, k3⟩
                        exact ⟨rfl, ⟨k3.cell (k2.cell x0d), k3.cell (k2.cell x1d), k3.cell (k2.cell y0d), k3.cell (k2.cell y1d)⟩, (H10.out.drew).trans (k2.trans k3)⟩
                      have r1l : rev a q1 < 4294967296 := by
                        have h1 := rev_lt a q1
                        have h2 : (2 : Nat) ^ a ≤ 2 ^ 15 := Nat.pow_le_pow_right (by decide) ei
                        omega
                      have hfin : ¬ ((rev a q1 : Nat) : Int) ≤ ((rev a q2 : Nat) : Int) := by omega
                      clear HTU HWI HWJ H8 hbx hby hbx2 HDR hri
                      generalize rev a q1 = r1 at *
                      generalize rev a q2 = r2 at *
                      go_region_held3 (fun w' => w'.cell? ⟨xb, 0, none⟩ = some (.int .u32 q1) ∧ w'.cell? ⟨xb, 1, none⟩ = some (.int .i64 a) ∧ w'.cell? ⟨yb, 0, none⟩ = some (.int .u32 q2) ∧ w'.cell? ⟨yb, 1, none⟩ = some (.int .i64 a))
                        (first | assumption | (refine ⟨?_, ?_, ?_, ?_⟩ <;> assumption))
                        (first | (go_at_call 42; (with_reducible refine HC.out.mono ?_); rintro e w11 ⟨rfl, ⟨f0, f1, f2, f3⟩, H11⟩) | (go_at_call 42; (with_reducible refine H11.out.mono ?_); rintro e w12 ⟨rfl, ⟨f4, f5, f6, f7⟩, H12⟩))
                      go_wp2_with fail
                      go_roundg (I2 - (J2 + 1))
                      case measure => omega
                      case rel => exact ⟨J2 + 1, by omega, by omega, by first | rfl | (congr 1), HKP.out _ H12.out⟩
                    · clear HWX HRI HF2 HI5 hX hXN HE HQL HLS2
                      generalize ls.getD I2 0 = a at *
                      generalize ls.getD J2 0 = b at *
                      have hd0 : ((a : Int) == 0) = false := by simp; omega
                      have hd1 : ((a : Int) != (b : Int)) = true := by simp; omega
                      go_wp2_with fail
                      go_quiet (fail)
                      go_wp2_with fail
                      go_roundg (I2 - (J2 + 1))
                      case measure => omega
                      case rel => exact ⟨J2 + 1, by omega, by omega, by first | rfl | (congr 1), HKP.out _ ((Fr.refl _ _).drewN _)⟩
                · have hz4 : ¬ (J2 : Int) < (I2 : Int) := by omega
                  clear HWX HRI HF2 hX hXN HE HQL HLS2 HKP
                  go_wp2_with fail
                  go_roundg (L - (I2 + 1))
                  case measure => omega
                  case rel => exact ⟨I2 + 1, by omega, by omega, by first | rfl | (congr 1), HI5⟩
            · have hz3 : ¬ (I2 : Int) < (L : Int) := by omega
              obtain ⟨K2, hX⟩ := HI4.out
              have HLf := HF2.out wr K2 hX
              have HLf : Hid (Calls Try.prog 20 #[.pointer (some ⟨rb, 0, none⟩)] wr fun e w2 => ∃ q : Nat, q < 8 ∧ e = .returned (.int .i64 q) ∧ Hid (P (.returned (.bool true)) w2)) := HLf
              clear HWX HRI HF2 HI4 hX HE HQL HLS2
              go_upto_region 35 with fail
              go_wp2_with (first | (go_at_call 20; (with_reducible refine HLf.out.mono ?_); rintro e w7 ⟨q, hq8, rfl, H7⟩; have hq8i : ((q : Nat) : Int) < 8 := by omega))
              exact H7.out
theorem px_walk (w : World) (v0 : Value) (zs : List Int) (h0 : SlR RI (fun _ => False) v0 zs w) (hz : zs.length ≤ 17592186043904) (v1 : Value) (ys : List Int) (h1 : SlR RI (fun _ => False) v1 ys w) (hy : ys.length ≤ 17592186043904) : Calls Try.prog 8 #[v0, v1] w fun e w' => e = .returned (.bool true) ∧ Nw w w' := by
  by_cases hc : IsCode zs
  · obtain ⟨ls, rfl, hk⟩ := hc
    exact px_yes w v0 ls h0 hk v1 ys h1 hy
  · exact px_no w v0 zs h0 hz v1 hc
end Go.Proofs.Ytkpkiajehclbhaa

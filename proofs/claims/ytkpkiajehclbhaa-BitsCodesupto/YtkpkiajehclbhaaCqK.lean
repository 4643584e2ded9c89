import Derived.Test.YtkpkiajehclbhaaCqJ
namespace Go.Proofs.Ytkpkiajehclbhaa
open Go.RowKit
set_option linter.unusedVariables false
theorem SlR.oldI {v : Value} {zs : List Int} {w : World} (h : SlR RI (fun _ => False) v zs w) (hz : 0 < zs.length) : SlR RI (fun k => w.heap.size ≤ k) v zs w := by
  rcases h with ⟨a, _, rfl⟩ | ⟨g, o, c, h1, h2, h3, h4, h5⟩
  · simp at hz
  · refine .inr ⟨g, o, c, ?_, h2, h3, h4, h5⟩
    have := h5 0 zs[0] 0 (.int .i64 zs[0]) (List.getElem?_eq_getElem hz) rfl
    have := World.block_lt_of_cell? _ _ this
    simp only at this
    omega
set_option maxHeartbeats 32000000 in
set_option maxRecDepth 100000 in
theorem bc_yes (w : World) (v0 : Value) (ls : List Nat) (h0 : SlR RI (fun _ => False) v0 (toI ls) w) (hk : Cod ls) (vb : Value) (b : List By) (hb : Sl (fun _ => False) vb b w) (hbl : b.length ≤ 1099511627776) (z : Int) : Calls Try.prog 5 #[v0, vb, .int .i64 z] w fun e w' => e = .returned (.bool true) ∧ Nw w w' := by
  obtain ⟨P, hP⟩ : ∃ P : Ending → World → Prop, P = fun e w' => e = .returned (.bool true) ∧ Nw w w' := ⟨_, rfl⟩
  rw [← hP]
  have hll := hk.len
  have hl0 := hk.some
  have hzl : (toI ls).length ≤ 17592186043904 := by rw [toI_length]; omega
  have hold := h0.oldI (by rw [toI_length]; exact hl0)
  have hNZ : (kraft_code ls hk).1 = (kraft_code ls hk).1 := rfl
  have hroom := (kraft_code ls hk).1
  obtain ⟨g, c, W, gm, cm, W', HAP1, HAP2, hO, hN, hg⟩ := ints_two w v0 (toI ls) h0 hzl
  obtain ⟨a0, c0, rfl, hc0, hc02, _⟩ := h0.form
  have hO1 := hO.cutI (by simp)
  rw [toI_length] at *
  have hcm : ls.length + 2 ≤ cm ∧ cm < 9223372036854775808 := by
    obtain ⟨c', e, k1, k2⟩ := hO.form
    rw [List.length_append, toI_length] at e k1
    cases e
    exact ⟨k1, k2⟩
  obtain ⟨hcm1, hcm2⟩ := hcm
  have HS : Hid (∀ V, Nw w V → SlR RI (fun k => V.heap.size ≤ k) (.slice a0 ls.length c0) (toI ls) V) := fun V hV => (hold.nw hV).mono (fun k hk => Nat.le_trans hV.size hk)
  have HC : Hid (Calls Try.prog 32 #[.slice (some ⟨gm, 0, none⟩) ls.length cm] W' fun e w1 => ∃ cb, e = .returned (.tuple #[.pointer (some ⟨cb, 0, none⟩), .int .i64 0]) ∧ Hid (Calls Try.prog 33 #[.slice a0 ls.length c0] w1 fun e w2 => e = .returned (.tuple #[.bool true, .bool (decide (room ls = 32768))]) ∧ (w2.cell? ⟨gm, ls.length, none⟩ = some (.int .i64 77) ∧ w2.cell? ⟨gm, ls.length + 1, none⟩ = some (.int .i64 78)) ∧ Hid (OvI (toI ls) gm 0 w2 w2) ∧ Hid (Nw w w2) ∧ Hid (∃ gw gs ws ss, CodeI cb gw gs ls ws ss w2 ∧ cb ≠ gm ∧ gw ≠ gm ∧ gs ≠ gm))) := by
    refine (newCode_yes W' _ ls hO1.low hk).mono ?_
    rintro e w1 ⟨cb, gw, gs, ws, ss, rfl, hcd, h1, k1, k2, k3⟩
    have hz0 : SlR RI (fun _ => False) (.slice a0 ls.length c0) (toI ls) w1 := h0.nw (hN.trans h1)
    refine ⟨cb, rfl, (scode_any w1 _ (toI ls) hz0 (by rw [toI_length]; exact hzl)).mono ?_⟩
    rintro e w2 ⟨⟨b, q, rfl, hb, hq⟩, rfl⟩
    have hic : IsCode (toI ls) := ⟨ls, rfl, hk⟩
    rw [hb.2 hic, hq hic, hroom]
    have hO2 := hO.nw h1
    have hgl := hO.lt
    refine ⟨rfl, ⟨?_, ?_⟩, OvI.start hO2, hN.trans h1, gw, gs, ws, ss, hcd, by omega, by omega, by omega⟩
    · have a := (hO2.cell riOk ls.length 0 77 _ (by simp [toI_length]) rfl).1
      rw [show RI.k = 1 from rfl, Nat.mul_one, Nat.add_zero] at a
      exact a
    · have a := (hO2.cell riOk (ls.length + 1) 0 78 _ (by rw [List.getElem?_append_right (by rw [toI_length]; omega), toI_length]; simp) rfl).1
      rw [show RI.k = 1 from rfl, Nat.mul_one, Nat.add_zero] at a
      exact a
  have HF : Hid (∀ W, Nw w W → P (.returned (.bool true)) W) := fun W hW => by rw [hP]; exact ⟨rfl, hW⟩
  have HZ : Hid (SlR RI (fun _ => False) (.slice a0 ls.length c0) (toI ls) w) := h0
  have HB : Hid (Sl (fun _ => False) vb b w) := hb
  have hnn : ∀ (b : Nat) w, (binOp BinOp.eql 55 (.pointer (some ⟨b, 0, none⟩)) (.pointer none)).run Try.prog w = .ok (.bool false) w := fun _ _ => by kernel_rfl
  have hnp : ∀ (b : Nat) w, (binOp BinOp.neq 55 (.pointer (some ⟨b, 0, none⟩)) (.pointer none)).run Try.prog w = .ok (.bool true) w := fun _ _ => by kernel_rfl
  have her : ∀ (b : Nat) w, (binOp BinOp.eql 26 (.pointer (some ⟨b, 0, none⟩)) (.pointer none)).run Try.prog w = .ok (.bool false) w := fun _ _ => by kernel_rfl
  have HG : Hid (w.heap.size ≤ gm) := hg
  have HK : Hid (Cod ls) := hk
  clear hP hO h0 hO1 hN hg hk hb hold hroom hNZ hzl
  generalize hL : ls.length = L at *
  have HL : Hid (ls.length = L) := hL
  clear hL
  go_enter Try.func5, Try.ntmps5
  go_wp2_with (first
    | (at_builtin; refine Lib.wpList_append_run _ rfl _ _ 54 54 rfl (.slice (some ⟨w.heap.size, 0, none⟩) 0 0) (.slice a0 L c0) (by simp [Act.eval]) (by simp [Act.eval]) _ _ (HAP1.out _) ?_)
    | (at_builtin; refine Lib.wpList_append_run _ rfl _ _ 54 54 rfl (.slice (some ⟨g, 0, none⟩) L c) (.slice (some ⟨_, 0, none⟩) 2 2) (by simp [Act.eval]) (by simp [Act.eval]) _ _ (HAP2.out _) ?_)
    | (go_at_call 32; (with_reducible refine HC.out.mono ?_); rintro e w1 ⟨cb, rfl, H1⟩)
    | (go_at_call 33; (with_reducible refine H1.out.mono ?_); rintro e w2 ⟨rfl, ⟨x1, x2⟩, HO0, HN2, HCD⟩))
  clear HAP1 HAP2 HC
  go_loopg [12] L (fun kx i wr => ∃ (I : Nat), I ≤ L ∧ L - I ≤ kx ∧ i = .int .i64 I ∧ Hid (OvI (toI ls) gm I w2 wr))
  case atStart => exact ⟨0, by omega, by omega, rfl, HO0⟩
  case round =>
    obtain ⟨I, hI, hkx, rfl, HO⟩ := hrel
    clear HO0
    have hNr : Nw w wr := by
      obtain ⟨xs, _, _, h3⟩ := HO.out
      exact Fr.then HN2.out h3 (fun k hk => .inr (by rw [hk]; exact HG.out))
    by_cases hlt : I < L
    · have hlt' : I < ls.length := by rw [HL.out]; exact hlt
      have hxx := toI_at ls I hlt'
      generalize ((ls.getD I 0 : Nat) : Int) = x at hxx
      obtain ⟨gl, ol, rfl, _, hcell⟩ := ri_at (HZ.out.nw hNr) I x hxx
      obtain ⟨y1, y2⟩ := HO.out.at x hxx
      have hz1 : (I : Int) < (L : Int) := by omega
      have HN : Hid (∀ n, OvI (toI ls) gm (I + 1) w2 ((wr.drewN n).setCell ⟨gm, I, none⟩ (.int .i64 3))) := fun n => HO.out.step _ ((Fr.refl _ _).drewN n)
      have HFZ : Hid (∀ n, (wr.drewN n).frozen? ⟨gm, I, none⟩ = false ∧ (wr.drewN n).cell? ⟨gm, I, none⟩ = some (.int .i64 x)) := fun n => ⟨y2, y1⟩
      clear HO hNr HZ HF hxx x1 x2 hnn hnp her HN2 HS HB HK HCD
      go_wp2_with fail
      go_quiet (fail)
      obtain ⟨y3, y4⟩ := HFZ.out 9
      go_wp2_with fail
      go_roundg (L - (I + 1))
      case measure => omega
      case rel => exact ⟨I + 1, by omega, by omega, by first | rfl | (congr 1), HN.out _⟩
    · obtain rfl : I = L := by omega
      have hz1 : ¬ (I : Int) < (I : Int) := by omega
      have HNr : Hid (Nw w wr) := hNr
      have HCr : Hid (∃ gw gs ws ss, CodeI cb gw gs ls ws ss wr) := by
        obtain ⟨gw, gs, ws, ss, k1, k2, k3, k4⟩ := HCD.out
        obtain ⟨xs, _, _, h3⟩ := HO.out
        exact ⟨gw, gs, ws, ss, k1.kept h3 k2 k3 k4⟩
      have HOne : Hid (Calls Try.prog 32 #[.slice (some ⟨wr.heap.size, 0, none⟩) 2 2] (wr.alloc (.cells #[.int .i64 1, .int .i64 1] 3)) fun e w1 => ∃ cb, e = .returned (.tuple #[.pointer (some ⟨cb, 0, none⟩), .int .i64 0]) ∧ Hid (Nw wr w1) ∧ Hid (Calls Try.prog 34 #[.pointer (some ⟨cb, 0, none⟩)] w1 fun e w2 => e = .returned (.bool true) ∧ Hid (Nw wr w2))) := one_any wr
      have HWh : Hid (∀ V, Nw wr V → Calls Try.prog 34 #[.pointer (some ⟨cb, 0, none⟩)] V fun e w2 => e = .returned (.bool (decide (room ls = 32768))) ∧ Hid (Nw wr w2)) := fun V hV => by
        obtain ⟨gw, gs, ws, ss, k1⟩ := HCr.out
        refine (whole_any (k1.nw hV) HK.out).mono ?_
        rintro e w2 ⟨rfl, k⟩
        exact ⟨rfl, hV.trans k⟩
      clear HO hNr HZ x1 x2 hnp HN2 HCD
      generalize hbw : decide (room ls = 32768) = bw at *
      clear hbw
      go_upto_region 19 with (first
        | (go_at_call 32; (with_reducible refine HOne.out.mono ?_); rintro e w3 ⟨cc, rfl, H3, H4⟩)
        | (go_at_call 34; (with_reducible refine H4.out.mono ?_); rintro e w4 ⟨rfl, H5⟩)
        | (go_at_call 34; (with_reducible refine (HWh.out _ H5.out).mono ?_); rintro e w5 ⟨rfl, H6⟩))
      have HN5 : Hid (Nw w w5) := HNr.out.trans H6.out
      have HC5 : Hid (∃ gw gs ws ss, CodeI cb gw gs ls ws ss w5) := by
        obtain ⟨gw, gs, ws, ss, k1⟩ := HCr.out
        exact ⟨gw, gs, ws, ss, k1.nw H6.out⟩
      have HWD : Hid (∀ V z, Nw w5 V → Calls Try.prog 35 #[.pointer (some ⟨cb, 0, none⟩), .int .i64 z] V fun e w2 => e = .returned (wordV (wordA ls z)) ∧ Hid (Nw V w2)) := fun V z hV => by
        obtain ⟨gw, gs, ws, ss, hC⟩ := HC5.out
        exact word_any (hC.nw hV) HK.out z
      have HSW : Hid (∀ V z, Nw w5 V → Calls Try.prog 36 #[.slice a0 I c0, .int .i64 z] V fun e w2 => e = .returned (wordV (wordA ls z)) ∧ Hid (Nw V w2)) := fun V z hV => sword_any V _ ls (HS.out V (HN5.out.trans hV)) HK.out z
      clear HOne HWh HCr HNr H3 H4 H5 H6
      go_wp2_with fail
      go_loopg [15] I (fun kx i wr => ∃ (J : Nat), J ≤ I ∧ I - J ≤ kx ∧ i = .int .i64 J ∧ Hid (Nw w5 wr))
      case atStart => exact ⟨0, by omega, by omega, rfl, Fr.refl _ _⟩
      case round =>
        obtain ⟨J, hJ, hkx2, rfl, HJ⟩ := hrel
        by_cases hltJ : J < I
        · have hz2 : (J : Int) < (I : Int) := by omega
          have HW := HWD.out wr J HJ.out
          have HV := HSW.out
          generalize hq : wordA ls J = q at HW
          obtain ⟨⟨q1, q2⟩, q3⟩ := q
          have HW : Hid (Calls Try.prog 35 #[.pointer (some ⟨cb, 0, none⟩), .int .i64 J] wr fun e w2 => e = .returned (.tuple #[.agg #[.int .u32 q1, .int .i64 q2], .int .i64 q3]) ∧ Hid (Nw wr w2)) := HW
          have HV : Hid (∀ V, Nw wr V → Calls Try.prog 36 #[.slice a0 I c0, .int .i64 J] V fun e w2 => e = .returned (.tuple #[.agg #[.int .u32 q1, .int .i64 q2], .int .i64 q3]) ∧ Hid (Nw V w2)) := fun V hV => by
            have := HSW.out V J (HJ.out.trans hV)
            rw [hq] at this
            exact this
          have hnw := neq_word (q1 : Int) (q2 : Int)
          have HJ2 : Hid (∀ V, Nw wr V → Nw w5 V) := fun V hV => HJ.out.trans hV
          clear HWD HSW HJ HF HC5 HK HS HB hq hnn her
          go_upto_region 23 with (first
            | (go_at_call 35; (with_reducible refine HW.out.mono ?_); rintro e w6 ⟨rfl, H6⟩))
          obtain ⟨r1, r2⟩ := box_word w6 (.int .u32 q1) (.int .i64 q2)
          have R1 : Hid ((w6.alloc (.cells #[.int .u32 q1, .int .i64 q2] 62)).heap[w6.heap.size]? = some (.cells #[.int .u32 q1, .int .i64 q2] 62)) := r1
          have R2 : Hid (Nw wr (w6.alloc (.cells #[.int .u32 q1, .int .i64 q2] 62))) := H6.out.trans r2
          clear r1 r2 H6 HW
          generalize w6.alloc (.cells #[.int .u32 q1, .int .i64 q2] 62) = w7 at *
          generalize w6.heap.size = xb at *
          go_upto_region 24 with (first
            | (go_at_call 36; (with_reducible refine (HV.out _ R2.out).mono ?_); rintro e w8 ⟨rfl, H8⟩))
          obtain ⟨r3, r4⟩ := box_word w8 (.int .u32 q1) (.int .i64 q2)
          have R4 : Hid (Nw wr (w8.alloc (.cells #[.int .u32 q1, .int .i64 q2] 62))) := (R2.out.trans H8.out).trans r4
          have r5 := (H8.out.trans r4).heap R1.out
          obtain ⟨c1, c2⟩ : (w8.alloc (.cells #[.int .u32 q1, .int .i64 q2] 62)).cell? ⟨xb, 0, none⟩ = some (.int .u32 q1) ∧ (w8.alloc (.cells #[.int .u32 q1, .int .i64 q2] 62)).cell? ⟨xb, 1, none⟩ = some (.int .i64 q2) := ⟨(row_cell r5 0 _ rfl).1, (row_cell r5 1 _ rfl).1⟩
          obtain ⟨c3, c4⟩ : (w8.alloc (.cells #[.int .u32 q1, .int .i64 q2] 62)).cell? ⟨w8.heap.size, 0, none⟩ = some (.int .u32 q1) ∧ (w8.alloc (.cells #[.int .u32 q1, .int .i64 q2] 62)).cell? ⟨w8.heap.size, 1, none⟩ = some (.int .i64 q2) := ⟨(row_cell r3 0 _ rfl).1, (row_cell r3 1 _ rfl).1⟩
          clear r3 r4 r5 H8 HV R1
          generalize w8.alloc (.cells #[.int .u32 q1, .int .i64 q2] 62) = w9 at *
          generalize w8.heap.size = yb at *
          go_wp2_with fail
          go_roundg (I - (J + 1))
          case measure => omega
          case rel => exact ⟨J + 1, by omega, by omega, by first | rfl | (congr 1), HJ2.out _ R4.out⟩
        · obtain rfl : J = I := by omega
          have hz2 : ¬ (J : Int) < (J : Int) := by omega
          have HW := HWD.out wr z HJ.out
          generalize hq : wordA ls z = q at HW
          obtain ⟨⟨q1, q2⟩, q3⟩ := q
          have HW : Hid (Calls Try.prog 35 #[.pointer (some ⟨cb, 0, none⟩), .int .i64 z] wr fun e w2 => e = .returned (.tuple #[.agg #[.int .u32 q1, .int .i64 q2], .int .i64 q3]) ∧ Hid (Nw wr w2)) := HW
          have HV : Hid (∀ V, Nw wr V → Calls Try.prog 36 #[.slice a0 J c0, .int .i64 z] V fun e w2 => e = .returned (.tuple #[.agg #[.int .u32 q1, .int .i64 q2], .int .i64 q3]) ∧ Hid (Nw V w2)) := fun V hV => by
            have := HSW.out V z (HJ.out.trans hV)
            rw [hq] at this
            exact this
          have hnw := neq_word (q1 : Int) (q2 : Int)
          have HJ2 : Hid (∀ V, Nw wr V → Nw w5 V) := fun V hV => HJ.out.trans hV
          clear HWD HSW HJ hq hnn
          go_upto_region 27 with (first
            | (go_at_call 35; (with_reducible refine HW.out.mono ?_); rintro e w6 ⟨rfl, H6⟩))
          obtain ⟨r1, r2⟩ := box_word w6 (.int .u32 q1) (.int .i64 q2)
          have R1 : Hid ((w6.alloc (.cells #[.int .u32 q1, .int .i64 q2] 62)).heap[w6.heap.size]? = some (.cells #[.int .u32 q1, .int .i64 q2] 62)) := r1
          have R2 : Hid (Nw wr (w6.alloc (.cells #[.int .u32 q1, .int .i64 q2] 62))) := H6.out.trans r2
          clear r1 r2 H6 HW
          generalize w6.alloc (.cells #[.int .u32 q1, .int .i64 q2] 62) = w7 at *
          generalize w6.heap.size = xb at *
          go_upto_region 28 with (first
            | (go_at_call 36; (with_reducible refine (HV.out _ R2.out).mono ?_); rintro e w8 ⟨rfl, H8⟩))
          obtain ⟨r3, r4⟩ := box_word w8 (.int .u32 q1) (.int .i64 q2)
          have R4 : Hid (Nw w5 (w8.alloc (.cells #[.int .u32 q1, .int .i64 q2] 62))) := HJ2.out _ ((R2.out.trans H8.out).trans r4)
          have r5 := (H8.out.trans r4).heap R1.out
          obtain ⟨c1, c2⟩ : (w8.alloc (.cells #[.int .u32 q1, .int .i64 q2] 62)).cell? ⟨xb, 0, none⟩ = some (.int .u32 q1) ∧ (w8.alloc (.cells #[.int .u32 q1, .int .i64 q2] 62)).cell? ⟨xb, 1, none⟩ = some (.int .i64 q2) := ⟨(row_cell r5 0 _ rfl).1, (row_cell r5 1 _ rfl).1⟩
          obtain ⟨c3, c4⟩ : (w8.alloc (.cells #[.int .u32 q1, .int .i64 q2] 62)).cell? ⟨w8.heap.size, 0, none⟩ = some (.int .u32 q1) ∧ (w8.alloc (.cells #[.int .u32 q1, .int .i64 q2] 62)).cell? ⟨w8.heap.size, 1, none⟩ = some (.int .i64 q2) := ⟨(row_cell r3 0 _ rfl).1, (row_cell r3 1 _ rfl).1⟩
          clear r3 r4 r5 H8 HV R1 HJ2 R2
          generalize w8.alloc (.cells #[.int .u32 q1, .int .i64 q2] 62) = w9 at *
          generalize w8.heap.size = yb at *
          go_upto_region 30 with fail
          have hN9 : Nw w w9 := HN5.out.trans R4.out
          obtain ⟨gb, gbc, Wb, HAB, hOb, hgb, hNb⟩ := copy_bytes w9 vb b (HB.out.nw hN9) (by omega)
          have HRd : Hid (Calls Try.prog 10 #[.slice (some ⟨gb, 0, none⟩) b.length gbc] Wb fun e w10 => ∃ rb, e = .returned (.pointer (some ⟨rb, 0, none⟩)) ∧ Hid (Calls Try.prog 11 #[vb] w10 fun e w11 => ∃ ga ca, e = .returned (.slice (some ⟨ga, 0, none⟩) (8 * b.length) ca) ∧ 8 * b.length ≤ ca ∧ ca < 9223372036854775808 ∧ Hid (∃ gw gs ws ss K vb, BcR w ls cb gw gs ws ss K rb vb b ga ca 0 w11))) := by
            have hsl : Sl (fun k => Wb.heap.size ≤ k) (.slice (some ⟨gb, 0, none⟩) b.length gbc) b Wb := hOb.old
            refine (newReader_any Wb (fun k => Wb.heap.size ≤ k) _ b hsl (Nat.le_refl _) (by omega)).mono ?_
            rintro e w10 ⟨rfl, hR, hN10⟩
            refine ⟨_, rfl, (sBits_any w10 vb b (HB.out.nw ((hN9.trans hNb).trans hN10)) hbl).mono ?_⟩
            rintro e w11 ⟨ga, ca, rfl, hga, hOa, hN11⟩
            rw [bl_length] at hOa ⊢
            obtain ⟨gw, gs, ws, ss, hC⟩ := HC5.out
            have hC9 := hC.nw R4.out
            obtain ⟨l1, l2, l3⟩ := hC9.c.lt
            have s1 := hNb.size
            have hrl := hR.lt
            have hB : BcR w ls cb gw gs ws ss (fun k => Wb.heap.size ≤ k) Wb.heap.size (.slice (some ⟨gb, 0, none⟩) b.length gbc) b ga ca 0 w11 := ⟨hR.nw hN11, hC9.nw ((hNb.trans hN10).trans hN11), hOa, by omega, by omega, by omega, by omega, by have := hN9.size; omega, ((hN9.trans hNb).trans hN10).trans hN11, by omega⟩
            obtain ⟨k1, k2⟩ := hB.cap
            exact ⟨ga, ca, rfl, k1, k2, gw, gs, ws, ss, _, _, hB⟩
          obtain ⟨ab, cb', hvb, kb1, kb2⟩ : ∃ ab cb', vb = .slice ab b.length cb' ∧ b.length ≤ cb' ∧ cb' < 9223372036854775808 := by
            obtain ⟨a1, c1, e, hi⟩ := HB.out.in' (by omega)
            exact ⟨a1, c1, e, hi.1, hi.2.1⟩
          subst hvb
          clear hOb hN9 hNb hgb c1 c2 c3 c4 hnw HC5 R4 HN5 HB
          obtain ⟨A, hA⟩ : ∃ A, A = 8 * b.length := ⟨_, rfl⟩
          have hA2 : A ≤ 8796093022208 := by omega
          have HA : Hid (A = 8 * b.length) := hA
          rw [← hA] at HRd
          clear hA
          generalize hLb : b.length = Lb at *
          have HLb : Hid (b.length = Lb) := hLb
          clear hLb
          go_wp2_with (first
            | (at_builtin; refine Lib.wpList_append_run _ rfl _ _ 22 22 rfl (.slice (some ⟨w9.heap.size, 0, none⟩) 0 0) (.slice ab Lb cb') (by simp [Act.eval]) (by simp [Act.eval]) _ _ (HAB.out _) ?_)
            | (go_at_call 10; (with_reducible refine HRd.out.mono ?_); rintro e w10 ⟨rb, rfl, H10⟩)
            | (go_at_call 11; (with_reducible refine H10.out.mono ?_); rintro e w11 ⟨ga, ca, rfl, hca1, hca2, HBc⟩))
          clear HAB HRd H10
          go_loopg [26, 27] (A + 1) (fun kx a k wr => ∃ (p k' : Nat), k' ≤ A + 1 ∧ A + 1 - k' ≤ kx ∧ p ≤ A ∧ a = .int .i64 p ∧ k = .int .i64 k' ∧ Hid (∃ gw gs ws ss K vb, BcR w ls cb gw gs ws ss K rb vb b ga ca p wr))
          case atStart => exact ⟨0, 0, by omega, by omega, by omega, rfl, rfl, HBc⟩
          case round =>
            obtain ⟨p, k', hk', hkx3, hpA, rfl, rfl, HR⟩ := hrel
            clear HBc
            by_cases hle : k' ≤ A
            · have hz3 : (k' : Int) ≤ (A : Int) := by omega
              obtain ⟨gw, gs, ws, ss, K, vb, hR⟩ := HR.out
              have HRD : Hid (Calls Try.prog 37 #[.pointer (some ⟨cb, 0, none⟩), .pointer (some ⟨rb, 0, none⟩)] wr fun e w12 => ∃ s n gg q r : Nat, e = .returned (.tuple #[.int .i64 s, .int .i64 gg]) ∧ ((p : Int) + (n : Int) = (q : Int) ∧ q ≤ A ∧ (A : Int) - (q : Int) = (r : Int) ∧ n ≤ 15 ∧ r ≤ A ∧ gg ≤ 52) ∧ Hid (∀ o c', ((o = p ∧ c' = ca - p) ∨ (ca = p ∧ c' = 0)) → Calls Try.prog 38 #[.slice a0 J c0, .slice (some ⟨ga, o, none⟩) (A - p) c'] w12 fun e w13 => e = .returned (.tuple #[.int .i64 s, .int .i64 n, .int .i64 gg]) ∧ Hid (Calls Try.prog 20 #[.pointer (some ⟨rb, 0, none⟩)] w13 fun e w14 => e = .returned (.int .i64 r) ∧ Hid (∃ gw gs ws ss K vb, BcR w ls cb gw gs ws ss K rb vb b ga ca q w14)))) := by
                refine (hR.read HK.out).mono ?_
                rintro e w12 ⟨s, n, gg, rfl, hn15, hg52, hpn, hB, hS⟩
                have hA := HA.out
                have hpA2 : p ≤ 8 * b.length := hR.pl
                have hA' : A = 8 * b.length := by rw [hA, HLb.out]
                refine ⟨s, n, gg, p + n, A - (p + n), rfl, ⟨by omega, by omega, by omega, by omega, by omega, by omega⟩, ?_⟩
                intro o c' ho
                have hrest := hB.rest2 p hpA2 o c' ho
                rw [← hA'] at hrest hS
                refine (sread_any w12 _ _ _ _ (HS.out w12 hB.nw) HK.out hrest (by omega)).mono ?_
                rintro e w13 ⟨s', n', g', rfl, hraw, hN13⟩
                obtain ⟨rfl, rfl, rfl⟩ := hS _ _ _ hraw
                refine ⟨rfl, ?_⟩
                have hB13 := hB.keep hN13
                refine (left_any hB13.r hB13.pl).mono ?_
                rintro e w14 ⟨rfl, hN14⟩
                rw [← hA']
                exact ⟨rfl, gw, gs, ws, ss, K, vb, hB13.keep hN14⟩
              have HF2 : Hid (∀ V gw gs ws ss K vb q, BcR w ls cb gw gs ws ss K rb vb b ga ca q V → P (.returned (.bool true)) V) := fun V gw gs ws ss K vb q h => HF.out V h.nw
              clear HR hR HF HK HS
              by_cases hcp : ca ≤ p
              all_goals (
                go_upto_region 43 with (first
                  | (go_at_call 37; (with_reducible refine HRD.out.mono ?_); rintro e w12 ⟨s, n, gg, q, r, rfl, ⟨u1, u2, u3, u4, u5, u7⟩, H12⟩)
                  | (go_at_call 38; (with_reducible refine (H12.out _ _ (by first | exact .inl ⟨rfl, rfl⟩ | exact .inr ⟨by omega, rfl⟩)).mono ?_); rintro e w13 ⟨rfl, H13⟩)
                  | (go_at_call 20; (with_reducible refine H13.out.mono ?_); rintro e w14 ⟨rfl, H14⟩))
                by_cases hg0 : gg = 0
                · subst hg0
                  go_wp2_with fail
                  go_roundg (A + 1 - (k' + 1))
                  case measure => omega
                  case rel => exact ⟨q, k' + 1, by omega, by omega, u2, by first | rfl | (congr 1), by first | rfl | (congr 1), H14⟩
                · have hg1 : ¬ (gg : Int) = 0 := by omega
                  obtain ⟨gw, gs, ws, ss, K, vb, h14⟩ := H14.out
                  have HF3 : Hid (P (.returned (.bool true)) w14) := HF2.out _ _ _ _ _ _ _ _ h14
                  clear h14 H14 HF2 HRD H12 H13
                  go_wp2_with fail
                  exact HF3.out)
            · have hz3 : ¬ (k' : Int) ≤ (A : Int) := by omega
              obtain ⟨gw, gs, ws, ss, K, vb, hR⟩ := HR.out
              have HF3 : Hid (P (.returned (.bool true)) wr) := HF.out _ hR.nw
              clear hR HR HF HK HS
              go_wp2_with fail
              exact HF3.out
end Go.Proofs.Ytkpkiajehclbhaa

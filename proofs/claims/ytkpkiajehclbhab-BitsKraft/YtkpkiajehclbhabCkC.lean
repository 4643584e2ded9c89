import Derived.Test.YtkpkiajehclbhabCkB
namespace Go.Proofs.Ytkpkiajehclbhab
open Go.RowKit
set_option linter.unusedVariables false
theorem wrap_addK (A T : Nat) (hA : A ≤ 16384 * 17592186043904) (hT : T ≤ 2 ^ 14) : wrap64 ((A : Int) + wrap64 (T : Int)) = ((A + T : Nat) : Int) := by unfold wrap64; omega
set_option maxHeartbeats 16000000 in
set_option maxRecDepth 100000 in
theorem kr_walk (w : World) (v0 : Value) (zs : List Int) (h0 : SlR RI (fun _ => False) v0 zs w) (hz : zs.length ≤ 17592186043904) (row : Nat) (hr : row < 65536) : Calls Try.prog 3 #[v0, .int .u16 row] w fun e w' => e = .returned (.bool true) ∧ Nw w w' := by
  obtain ⟨P, hP⟩ : ∃ P : Ending → World → Prop, P = fun e w' => e = .returned (.bool true) ∧ Nw w w' := ⟨_, rfl⟩
  rw [← hP]
  have HF : Hid (∀ W, Nw w W → P (.returned (.bool true)) W) := fun W hW => by rw [hP]; exact ⟨rfl, hW⟩
  obtain ⟨g, c, W, HAP, hO, hN, hg⟩ := ints_copy w v0 zs h0 hz
  have HS : Hid (SlR RI (fun _ => False) v0 zs w) := h0
  obtain ⟨a0, c0, rfl, hc0, hc02, _⟩ := h0.form
  have HC : Hid (Calls Try.prog 4 #[.slice (some ⟨g, 0, none⟩) zs.length c] W fun e w1 => ∃ pc er, e = .returned (.tuple #[.pointer pc, .int .i64 (er : Nat)]) ∧ Hid (KR zs pc er w1) ∧ Hid (Nw w w1)) := by
    refine (newCode_kr W _ zs hO.low hz).mono ?_
    rintro e w1 ⟨pc, er, rfl, h1, h2⟩
    exact ⟨pc, er, rfl, h1, hN.trans h2⟩
  have HLIT : Hid (∀ w1, Nw w w1 → Calls Try.prog 4 #[.slice (some ⟨w1.heap.size, 0, none⟩) 2 2] (w1.alloc (.cells #[.int .i64 1, .int .i64 1] 3)) fun e w2 => ∃ cb, e = .returned (.tuple #[.pointer (some ⟨cb, 0, none⟩), .int .i64 0]) ∧ Hid (P (.returned (.bool true)) w2)) := fun w1 h1 => by
    refine (newCode_lit w1 [1, 1] cod_11 _ (by simp [flatR, RI, toI]) 2 rfl).mono ?_
    rintro e w2 ⟨cb, gw, gs, ws, ss, rfl, _, h2⟩
    exact ⟨cb, rfl, HF.out _ (h1.trans h2)⟩
  have HKR := kraft zs
  have HKR : Hid (IsCode zs ↔ (1 ≤ zs.length ∧ zs.length ≤ 320) ∧ (∀ j x, j < zs.length → zs[j]? = some x → 0 ≤ x ∧ x ≤ 15) ∧ 0 < wordsI zs ∧ partsI zs ≤ 32768) := kraft zs
  have hfull : Hid (zs.take zs.length = zs) := List.take_length ..
  have HBD : Hid (∀ I, I ≤ zs.length → partsI (zs.take I) ≤ 16384 * 17592186043904 ∧ wordsI (zs.take I) ≤ 17592186043904) := fun I hI => by
    obtain ⟨h1, h2⟩ := partsI_le (zs.take I)
    rw [List.length_take] at h1 h2
    omega
  have HST : Hid (∀ I x, zs[I]? = some x → partsI (zs.take (I + 1)) = partsI (zs.take I) + prtI x ∧ wordsI (zs.take (I + 1)) = wordsI (zs.take I) + (if 0 < x ∧ x ≤ 15 then 1 else 0)) := fun I x hx => partsI_step zs I x hx
  have hnn : ∀ (b : Nat) w, (binOp BinOp.neq 24 (.pointer (some ⟨b, 0, none⟩)) (.pointer none)).run Try.prog w = .ok (.bool true) w := fun _ _ => by kernel_rfl
  have hnn0 : ∀ w, (binOp BinOp.neq 24 (.pointer none) (.pointer none)).run Try.prog w = .ok (.bool false) w := fun _ => by kernel_rfl
  have hee : ∀ (b : Nat) w, (binOp BinOp.eql 24 (.pointer (some ⟨b, 0, none⟩)) (.pointer none)).run Try.prog w = .ok (.bool false) w := fun _ _ => by kernel_rfl
  have hee0 : ∀ w, (binOp BinOp.eql 24 (.pointer none) (.pointer none)).run Try.prog w = .ok (.bool true) w := fun _ => by kernel_rfl
  have her : ∀ (b : Nat) w, (binOp BinOp.eql 29 (.pointer (some ⟨b, 0, none⟩)) (.pointer none)).run Try.prog w = .ok (.bool false) w := fun _ _ => by kernel_rfl
  clear hP hO h0 hN hg
  generalize hL : zs.length = L at *
  have HL : Hid (zs.length = L) := hL
  clear hL
  go_enter Try.func3, Try.ntmps3
  go_upto_region 3 with (first
    | (at_builtin; refine Lib.wpList_append_run _ rfl _ _ 22 22 rfl (.slice (some ⟨w.heap.size, 0, none⟩) 0 0) (.slice a0 L c0) (by simp [Act.eval]) (by simp [Act.eval]) _ _ (HAP.out _) ?_)
    | (go_at_call 4; (with_reducible refine HC.out.mono ?_); rintro e w1 ⟨pc, er, rfl, HK, HN1⟩))
  clear HC HAP
  go_cut [9] (fun r wx => ∃ b : Bool, r = .bool b ∧ (b = true ↔ 1 ≤ L ∧ L ≤ 320) ∧ wx = w1)
  case first =>
    by_cases h1 : 1 ≤ L
    · have h1i : (1 : Int) ≤ (L : Int) := by omega
      go_wp2_with fail
      go_meet
      exact ⟨_, rfl, by rw [decide_eq_true_eq]; omega, rfl⟩
    · have h1i : ¬ (1 : Int) ≤ (L : Int) := by omega
      go_wp2_with fail
      go_meet
      exact ⟨_, rfl, by simp; omega, rfl⟩
  case rest =>
    obtain ⟨b0, rfl, hb0, rfl⟩ := hcut
    have HB0 : Hid (b0 = true ↔ 1 ≤ L ∧ L ≤ 320) := hb0
    clear hb0
    go_wp2_with fail
    go_loopg [7, 8, 9, 10] L (fun kx p q r i wr => ∃ (I : Nat) (b : Bool), I ≤ L ∧ L - I ≤ kx ∧ p = .int .i64 (partsI (zs.take I) : Nat) ∧ q = .int .i64 (wordsI (zs.take I) : Nat) ∧ r = .bool b ∧ i = .int .i64 I ∧ Hid (b = true ↔ (1 ≤ L ∧ L ≤ 320) ∧ ∀ j x, j < I → zs[j]? = some x → 0 ≤ x ∧ x ≤ 15) ∧ wr = wc)
    case atStart => exact ⟨0, b0, by omega, by omega, rfl, rfl, rfl, rfl, by show _ ↔ _; rw [HB0.out]; exact ⟨fun h => ⟨h, fun j x hj => by omega⟩, fun h => h.1⟩, rfl⟩
    case round =>
      obtain ⟨I, b, hI, hkx, rfl, rfl, rfl, rfl, HI, rfl⟩ := hrel
      obtain ⟨hpb, hwb⟩ := HBD.out I hI
      by_cases hlt : I < L
      · obtain ⟨x, hx⟩ : ∃ x, zs[I]? = some x := ⟨_, List.getElem?_eq_getElem (by rw [HL.out]; exact hlt)⟩
        obtain ⟨ga, oa, rfl, _, hcell⟩ := ri_at (HS.out.nw HN1.out) I x hx
        have hzI : (I : Int) < (L : Int) := by omega
        obtain ⟨e1, e2⟩ := HST.out I x hx
        by_cases hx1 : 0 ≤ x ∧ x ≤ 15
        · have HN : Hid (b = true ↔ (1 ≤ L ∧ L ≤ 320) ∧ ∀ j y, j < I + 1 → zs[j]? = some y → 0 ≤ y ∧ y ≤ 15) := by
            show _ ↔ _
            rw [HI.out]
            refine ⟨fun h => ⟨h.1, fun j y hj hy => ?_⟩, fun h => ⟨h.1, fun j y hj hy => h.2 j y (by omega) hy⟩⟩
            by_cases e : j = I
            · rw [e, hx] at hy; injection hy with hy; subst hy; exact hx1
            · exact h.2 j y (by omega) hy
          have hx2 : ¬ x < 0 := by omega
          have hx3 : ¬ 15 < x := by omega
          by_cases hx0 : 0 < x
          · obtain ⟨k, hk⟩ : ∃ k : Nat, (15 : Int) - x = k := ⟨(15 - x).toNat, by omega⟩
            have hk14 : k ≤ 14 := by omega
            have hpt : prtI x = 2 ^ k := by unfold prtI; rw [if_pos (by omega)]; congr 1; omega
            rw [hpt] at e1
            rw [if_pos (by omega)] at e2
            have hpk : (2 : Nat) ^ k ≤ 2 ^ 14 := Nat.pow_le_pow_right (by decide) hk14
            clear HI HS HST HBD HKR hfull HB0 HK HLIT HF hx hpt
            have E1 : Hid (partsI (zs.take (I + 1)) = partsI (zs.take I) + 2 ^ k) := e1
            have E2 : Hid (wordsI (zs.take (I + 1)) = wordsI (zs.take I) + 1) := e2
            clear e1 e2
            generalize partsI (zs.take I) = A at *
            generalize wordsI (zs.take I) = B at *
            go_wp2_with fail
            go_roundg (L - (I + 1))
            case measure => omega
            case rel =>
              refine ⟨I + 1, b, by omega, by omega, ?_, ?_, rfl, by first | rfl | (congr 1), HN, rfl⟩
              · have e3 : (2 : Int) ^ k = ((2 ^ k : Nat) : Int) := by push_cast; rfl
                rw [E1.out, e3]
                generalize (2 : Nat) ^ k = T at *
                exact congrArg _ (wrap_addK A T hpb hpk)
              · rw [E2.out]; congr 1
          · obtain rfl : x = 0 := by omega
            rw [show prtI 0 = 0 by decide, Nat.add_zero] at e1
            rw [if_neg (by omega), Nat.add_zero] at e2
            clear HI HS HST HBD HKR hfull HB0 HK HLIT HF hx
            have E1 : Hid (partsI (zs.take (I + 1)) = partsI (zs.take I)) := e1
            have E2 : Hid (wordsI (zs.take (I + 1)) = wordsI (zs.take I)) := e2
            clear e1 e2
            generalize partsI (zs.take I) = A at *
            generalize wordsI (zs.take I) = B at *
            go_wp2_with fail
            go_roundg (L - (I + 1))
            case measure => omega
            case rel => exact ⟨I + 1, b, by omega, by omega, by rw [E1.out], by rw [E2.out], rfl, by first | rfl | (congr 1), HN, rfl⟩
        · have HN : Hid (false = true ↔ (1 ≤ L ∧ L ≤ 320) ∧ ∀ j y, j < I + 1 → zs[j]? = some y → 0 ≤ y ∧ y ≤ 15) := by
            show _ ↔ _
            refine ⟨fun h => by simp at h, fun h => absurd (h.2 I x (by omega) hx) hx1⟩
          have hp0 : prtI x = 0 := by unfold prtI; rw [if_neg (by omega)]
          rw [hp0, Nat.add_zero] at e1
          rw [if_neg (by omega), Nat.add_zero] at e2
          clear HI HS HST HBD HKR hfull HB0 HK HLIT HF hx hp0
          have E1 : Hid (partsI (zs.take (I + 1)) = partsI (zs.take I)) := e1
          have E2 : Hid (wordsI (zs.take (I + 1)) = wordsI (zs.take I)) := e2
          clear e1 e2
          generalize partsI (zs.take I) = A at *
          generalize wordsI (zs.take I) = B at *
          by_cases hx2 : x < 0
          · go_wp2_with fail
            go_roundg (L - (I + 1))
            case measure => omega
            case rel => exact ⟨I + 1, false, by omega, by omega, by rw [E1.out], by rw [E2.out], rfl, by first | rfl | (congr 1), HN, rfl⟩
          · have hx3 : 15 < x := by omega
            go_wp2_with fail
            go_roundg (L - (I + 1))
            case measure => omega
            case rel => exact ⟨I + 1, false, by omega, by omega, by rw [E1.out], by rw [E2.out], rfl, by first | rfl | (congr 1), HN, rfl⟩
      · obtain rfl : I = L := by omega
        have hzI : ¬ (I : Int) < (I : Int) := by omega
        have hall := HI.out
        have hff := hfull.out
        rw [hff] at hpb hwb
        rw [hff]
        clear hff
        by_cases hc : IsCode zs
        · obtain ⟨k1, k2, k3, k4⟩ := HKR.1 hc
          obtain rfl : b = true := hall.2 ⟨k1, k2⟩
          rcases HK.out with ⟨h1, _⟩ | ⟨ls, cb, gw, gs, ws, ss, hls, hk, rfl, rfl, hC⟩
          · exact absurd hc h1
          · have HRD := kr_reader hC HN1.out row hr
            have hA : partsI zs = room ls := by rw [hls]; exact (kraft_code ls hk).1
            rw [hA] at k4 hpb
            have HT : Hid (∀ rb vb p wr, KrR w ls cb gw gs rb vb row p wr → Calls Try.prog 6 #[.pointer (some ⟨cb, 0, none⟩)] wr fun e w2 => e = .returned (.bool (decide (room ls = 32768))) ∧ Hid (KrR w ls cb gw gs rb vb row p w2)) := fun rb vb p wr h => (h.whole hk).out
            have HRE : Hid (∀ rb vb wr, KrR w ls cb gw gs rb vb row 0 wr → Calls Try.prog 7 #[.pointer (some ⟨cb, 0, none⟩), .pointer (some ⟨rb, 0, none⟩)] wr fun e w2 =>
    (∃ i : Nat, e = .returned (.tuple #[.int .i64 i, .int .i64 0]) ∧ i < ls.length ∧ ls.getD i 0 ≠ 0 ∧ row % 2 ^ ls.getD i 0 = (wdP ls i).1 ∧ Hid (KrR w ls cb gw gs rb vb row (ls.getD i 0) w2)) ∨
    (e = .returned (.tuple #[.int .i64 0, .int .i64 52]) ∧ room ls ≠ 32768 ∧ Hid (KrR w ls cb gw gs rb vb row 0 w2))) := fun rb vb wr h => (h.read hk hr).out
            have HK2 : Hid (Cod ls) := hk
            have hd : ((room ls : Int) == 32768) = decide (room ls = 32768) := by
              by_cases e : room ls = 32768
              · simp [e]
              · rw [decide_eq_false e]; simp; omega
            have HA : Hid (partsI zs = room ls) := hA
            have HEA : Hid (∀ i, ls.getD i 0 ≤ 15) := hk.each
            have HD : Hid (decide (room ls = 32768) = true → room ls = 32768) := fun h => of_decide_eq_true h
            have HD0 : Hid (decide (room ls = 32768) = false → room ls ≠ 32768) := fun h => of_decide_eq_false h
            rw [hA]
            clear HI HS HST HBD HKR hfull HB0 HK HLIT hall k1 k2 hc hls hC hk hA HA
            generalize decide (room ls = 32768) = D at *
            generalize room ls = A at *
            generalize wordsI zs = B at *
            have k3i : (0 : Int) < (B : Int) := by omega
            have k4i : (A : Int) ≤ 32768 := by omega
            have hbb : ∀ b : Bool, (b != b) = false := fun b => by cases b <;> rfl
            go_upto_region 19 with (first | (go_at_call 5; (with_reducible refine HRD.out.mono ?_); rintro e w2 ⟨rb, rfl, H2⟩))
            go_cut [13, 115] (fun r t wx => r = .pointer (some ⟨rb, 0, none⟩) ∧ t = .bool false ∧ Hid (KrR w ls cb gw gs rb (.slice (some ⟨wr.heap.size, 0, none⟩) 2 2) row 0 wx))
            case first =>
              cases D
              · go_wp2_with (first | (go_at_call 6; (with_reducible refine (HT.out _ _ _ _ H2.out).mono ?_); rintro e w3 ⟨rfl, H3⟩))
                go_meet
                exact ⟨rfl, rfl, H3⟩
              · go_wp2_with (first | (go_at_call 6; (with_reducible refine (HT.out _ _ _ _ H2.out).mono ?_); rintro e w3 ⟨rfl, H3⟩))
                go_meet
                exact ⟨rfl, rfl, H3⟩
            case rest =>
              obtain ⟨rfl, rfl, H3⟩ := hcut
              clear HRD H2
              go_upto_region 22 with (first | (go_at_call 7; (with_reducible refine (HRE.out _ _ _ H3.out).mono ?_); rintro e w4 (⟨i, rfl, hi, hi0, hrow, H4⟩ | ⟨rfl, hne, H4⟩)))
              · have HWD := H4.out.word HK2.out i hi hi0
                have hll := HEA.out i
                have hw32 : (wdP ls i).1 < 4294967296 := by rw [← hrow]; exact Nat.lt_of_le_of_lt (Nat.mod_le _ _) (by omega)
                clear hi hi0 HEA HK2 HT HRE HD HD0
                generalize ls.getD i 0 = l at *
                generalize (wdP ls i).1 = x at *
                go_upto_region 24 with (first | (go_at_call 8; (with_reducible refine HWD.out.mono ?_); rintro e w5 ⟨rfl, H5⟩))
                obtain ⟨hbx, hbn⟩ := box_wordK w5 (.int .u32 x) (.int .i64 l)
                have H6 := H5.out.keep hbn
                generalize w5.alloc (.cells #[.int .u32 x, .int .i64 l] 37) = w6 at *
                have c0 : w6.cell? ⟨w5.heap.size, 0, none⟩ = some (.int .u32 x) := (row_cell hbx 0 _ rfl).1
                have c1 : w6.cell? ⟨w5.heap.size, 1, none⟩ = some (.int .i64 l) := (row_cell hbx 1 _ rfl).1
                have c0d : w6.drew.cell? ⟨w5.heap.size, 0, none⟩ = some (.int .u32 x) := c0
                have c1d : w6.drew.cell? ⟨w5.heap.size, 1, none⟩ = some (.int .i64 l) := c1
                have HLf : Hid (Calls Try.prog 9 #[.pointer (some ⟨rb, 0, none⟩)] w6.drew fun e w2 => e = .returned (.int .i64 ((16 - l : Nat) : Int)) ∧ w2.cell? ⟨w5.heap.size, 0, none⟩ = some (.int .u32 x) ∧ w2.cell? ⟨w5.heap.size, 1, none⟩ = some (.int .i64 l) ∧ Hid (P (.returned (.bool true)) w2)) := by
                  have H7 := H6.keep ((Fr.refl _ _).drewN 1)
                  obtain ⟨K, h1⟩ := H7.r
                  have hl : (rowB row).length = 2 := rfl
                  refine (left_any h1 (by rw [hl]; omega)).mono ?_
                  rintro e w2 ⟨rfl, hN⟩
                  exact ⟨by rw [hl], hN.cell c0, hN.cell c1, HF.out _ (H7.nw.trans hN)⟩
                generalize w5.heap.size = xb at *
                have hp2 : (2 : Nat) ^ l ≤ 2 ^ 15 := Nat.pow_le_pow_right (by decide) hll
                have hp0 : 0 < (2 : Nat) ^ l := Nat.two_pow_pos l
                have hT : IntKind.u32.wrap ((2 : Int) ^ l) = ((2 ^ l : Nat) : Int) := by
                  have e3 : (2 : Int) ^ l = ((2 ^ l : Nat) : Int) := by push_cast; rfl
                  rw [e3]
                  generalize (2 : Nat) ^ l = T at *
                  rw [IntKind.wrap_u32]; omega
                generalize (2 : Nat) ^ l = T at *
                have hrm : (row : Int) % (T : Int) = (x : Int) := by rw [← hrow]; push_cast; rfl
                have hrt : Int.tmod (row : Int) (T : Int) = (x : Int) := by rw [← hrow]; rfl
                have hT0 : (T : Int) ≠ 0 := by omega
                have hT1 : (0 : Int) < (T : Int) := by omega
                have hw1 : IntKind.u64.wrap (l : Int) = (l : Int) := by rw [IntKind.wrap_u64]; omega
                have hw2 : IntKind.u32.wrap (row : Int) = (row : Int) := by rw [IntKind.wrap_u32]; omega
                have hmn : min l 32 = l := by omega
                have hTn : ¬ T = 0 := by omega
                have hw3 : IntKind.i64.wrap ((16 - l : Nat) : Int) = ((16 - l : Nat) : Int) := by rw [IntKind.wrap_i64]; omega
                have h16 : (16 : Int) - (l : Int) = ((16 - l : Nat) : Int) := by omega
                clear HWD H3 H4 H5 H6 HF hbx hbn
                go_region_held3 (fun w' => w'.cell? ⟨xb, 0, none⟩ = some (.int .u32 x) ∧ w'.cell? ⟨xb, 1, none⟩ = some (.int .i64 l))
                  (first | assumption | (refine ⟨?_, ?_⟩ <;> assumption))
                  (first | (go_at_call 9; (with_reducible refine HLf.out.mono ?_); rintro e w7 ⟨rfl, q5, q6, H7⟩))
                go_wp2_with fail
                exact H7.out
              · have hDf : D = false := by
                  cases D
                  · rfl
                  · exact absurd (HD.out rfl) hne
                subst hDf
                have HF2 : Hid (∀ rb vb p wr, KrR w ls cb gw gs rb vb row p wr → P (.returned (.bool true)) wr) := fun rb vb p wr h => HF.out _ h.nw
                have HLf : Hid (∀ rb vb wr, KrR w ls cb gw gs rb vb row 0 wr → Calls Try.prog 9 #[.pointer (some ⟨rb, 0, none⟩)] wr fun e w2 => e = .returned (.int .i64 16) ∧ Hid (KrR w ls cb gw gs rb vb row 0 w2)) := fun rb vb wr h => (h.left).out
                clear HEA HK2 HRE HD HD0 HF
                go_wp2_with (first | (go_at_call 6; (with_reducible refine (HT.out _ _ _ _ H4.out).mono ?_); rintro e w5 ⟨rfl, H5⟩) | (go_at_call 9; (with_reducible refine (HLf.out _ _ _ H5.out).mono ?_); rintro e w6 ⟨rfl, H6⟩))
                exact HF2.out _ _ _ _ H6.out
        · rcases HK.out with ⟨_, rfl, rfl⟩ | ⟨ls, cb, gw, gs, ws, ss, hls, hk, _⟩
          · have hno : b = false ∨ (b = true ∧ (wordsI zs = 0 ∨ 32768 < partsI zs)) := by
              cases b
              · exact .inl rfl
              · refine .inr ⟨rfl, ?_⟩
                have h1 := hall.1 rfl
                by_cases h2 : wordsI zs = 0
                · exact .inl h2
                · refine .inr ?_
                  apply Nat.lt_of_not_le
                  intro h3
                  exact hc (HKR.2 ⟨h1.1, h1.2, by omega, h3⟩)
            have HLI := HLIT.out _ HN1.out
            have HLI : Hid (Calls Try.prog 4 #[.slice (some ⟨wr.heap.size, 0, none⟩) 2 2] (wr.alloc (.cells #[.int .i64 1, .int .i64 1] 3)) fun e w2 => ∃ cb, e = .returned (.tuple #[.pointer (some ⟨cb, 0, none⟩), .int .i64 0]) ∧ Hid (P (.returned (.bool true)) w2)) := HLI
            clear HI HS HST HBD HKR hfull HB0 HK hall hc HF HLIT
            generalize partsI zs = A at *
            generalize wordsI zs = B at *
            rcases hno with rfl | ⟨rfl, hno | hno⟩
            · go_wp2_with (first | (go_at_call 4; (with_reducible refine HLI.out.mono ?_); rintro e w2 ⟨cb, rfl, H2⟩))
              exact H2.out
            · have hBi : ¬ (0 : Int) < (B : Int) := by omega
              go_wp2_with (first | (go_at_call 4; (with_reducible refine HLI.out.mono ?_); rintro e w2 ⟨cb, rfl, H2⟩))
              exact H2.out
            · by_cases hBz : 0 < B
              · have hBi : (0 : Int) < (B : Int) := by omega
                have hAi : ¬ (A : Int) ≤ 32768 := by omega
                go_wp2_with (first | (go_at_call 4; (with_reducible refine HLI.out.mono ?_); rintro e w2 ⟨cb, rfl, H2⟩))
                exact H2.out
              · have hBi : ¬ (0 : Int) < (B : Int) := by omega
                go_wp2_with (first | (go_at_call 4; (with_reducible refine HLI.out.mono ?_); rintro e w2 ⟨cb, rfl, H2⟩))
                exact H2.out
          · exact absurd ⟨ls, hls, hk⟩ hc
end Go.Proofs.Ytkpkiajehclbhab

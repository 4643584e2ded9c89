import Derived.Test.YtdeefemeiggolaaRd
namespace Go.Proofs.Ytdeefemeiggolaa
open Go.RowKit
set_option linter.unusedVariables false
variable {D rb g o c : Nat} {b : List By} {most p : Nat} {out : List By} {K : Nat → Prop} {w : World}
set_option maxHeartbeats 8000000 in
set_option maxRecDepth 100000 in
theorem eheaded_Es (h : RfI D rb g o c b most p out K w) (y : By) (hy : b[p]? = some y) (q1 : y.toNat / 64 = 1) (q2 : y.toNat / 2 % 2 = 0) (q3 : y.toNat % 2 = 0) (d : By) (hd : b[p + 1]? = some d) (q4 : ¬ (d.toNat / 128 = 1 ∨ d.toNat % 16 ≠ 0)) (q5 : ¬ d.toNat / 16 < 4) (hcz : decide (y.toNat / 2 ^ 3 % 2 = 1) = true) (q6 : b.length < p + 11) : Calls Try.prog 48 #[.pointer (some ⟨rb, 0, none⟩)] w (EHd D rb g o c b most out K w (headF b p)) := by
  obtain ⟨P, hP⟩ : ∃ P : Ending → World → Prop, P = EHd D rb g o c b most out K w (headF b p) := ⟨_, rfl⟩
  rw [← hP]
  obtain ⟨W1, hW1⟩ : ∃ W1, w.alloc (.cells #[.int .i64 0, .bool false, .bool false, .bool false, .bool false] 24) = W1 := ⟨_, rfl⟩
  have hN1 : Nw w W1 := by rw [← hW1]; exact (Fr.refl _ _).alloc _
  have hrow1 : W1.heap[w.heap.size]? = some (.cells #[.int .i64 0, .bool false, .bool false, .bool false, .bool false] 24) := by
    rw [← hW1]
    show (w.heap.push _)[w.heap.size]? = _
    rw [Array.getElem?_push_size]
  have hbl := h.bl
  have hpl := h.pl
  have hcb := h.hc
  have hc2 := h.hc2
  have KEY : ∀ V, Nw W1 V → HK rb g o c b.length p w.heap.size V ∧ SK w.heap.size 0 false false false false V := fun V hV => HK.of (h.nw (hN1.trans hV)) (hV.heap hrow1)
  have HAS : ∀ (n : Nat), n < 18446744073709551616 → ∀ V, Nw W1 V → Calls Try.prog 34 #[.pointer (some ⟨rb, 0, none⟩), .int .u64 n] V fun e w1 => e = .returned (.bool (decide (p + n ≤ b.length))) ∧ HK rb g o c b.length p w.heap.size w1 ∧ SK w.heap.size 0 false false false false w1 ∧ Hid (Nw W1 w1) := by
    intro n hn V hV
    refine (ehas_any (h.nw (hN1.trans hV)) n hn).mono ?_
    rintro e w1 ⟨rfl, h1⟩
    exact ⟨rfl, (KEY w1 (hV.trans h1)).1, (KEY w1 (hV.trans h1)).2, hV.trans h1⟩
  have HSH : Hid (∀ V, Nw W1 V → Calls Try.prog 50 #[.pointer (some ⟨rb, 0, none⟩)] V fun e w1 => e = .returned (.tuple #[.int .i64 b.length, .int .i64 4]) ∧ w1 = V) := fun V hV => eshort_any (h.nw (hN1.trans hV))
  have HBAD : Hid (∀ (a y : Nat) k b1 b2 b3 b4 (z : Nat) V, headF b p = .bad a y → Fr (fun k => k = rb ∨ k = w.heap.size) W1 V → P (.returned (.tuple #[.agg #[.int .i64 k, .bool b1, .bool b2, .bool b3, .bool b4], .int .u64 z, .int .i64 a, .int .i64 y])) V) := by
    intro a y k b1 b2 b3 b4 z V h1 h2
    rw [hP]
    refine ⟨Fr.then hN1.any h2 (fun i hi => ?_), ?_⟩
    · rcases hi with hi | hi
      · exact .inl hi
      · exact .inr (by omega)
    · rw [h1]; exact ⟨k, b1, b2, b3, b4, z, rfl⟩
  have HRW : Hid (∀ V, Nw W1 V → V.heap[w.heap.size]? = some (.cells #[.int .i64 0, .bool false, .bool false, .bool false, .bool false] 24)) := fun V hV => hV.heap hrow1
  have HW1 : Hid (w.alloc (.cells #[.int .i64 0, .bool false, .bool false, .bool false, .bool false] 24) = W1) := hW1
  have hf : flg y = 0 := by unfold flg; rw [if_neg (by omega), if_neg (by omega), if_neg (by omega)]
  have hlt : p < b.length := (List.getElem?_eq_some_iff.1 hy).1
  have hl2 : p + 1 < b.length := (List.getElem?_eq_some_iff.1 hd).1
  have HH1 : Hid (∀ V, Nw W1 V → Calls Try.prog 34 #[.pointer (some ⟨rb, 0, none⟩), .int .u64 1] V fun e w1 => e = .returned (.bool true) ∧ HK rb g o c b.length p w.heap.size w1 ∧ SK w.heap.size 0 false false false false w1 ∧ Hid (Nw W1 w1)) := fun V hV => by
    have := HAS 1 (by decide) V hV
    rw [decide_eq_true (by omega)] at this
    exact this
  have HH2 : Hid (∀ V, Nw W1 V → Calls Try.prog 34 #[.pointer (some ⟨rb, 0, none⟩), .int .u64 2] V fun e w1 => e = .returned (.bool true) ∧ HK rb g o c b.length p w.heap.size w1 ∧ SK w.heap.size 0 false false false false w1 ∧ Hid (Nw W1 w1)) := fun V hV => by
    have := HAS 2 (by decide) V hV
    rw [decide_eq_true (by omega)] at this
    exact this
  have HY : Hid (∀ V, Nw W1 V → V.cell? ⟨g, o + p, none⟩ = some (.int .u8 y.toNat)) := fun V hV => (h.rd.nw (hN1.trans hV)).at p y hy
  have HDY : Hid (∀ V, Nw W1 V → V.cell? ⟨g, o + (p + 1), none⟩ = some (.int .u8 d.toNat)) := fun V hV => (h.rd.nw (hN1.trans hV)).at (p + 1) d hd
  have HN0 : Hid (Nw W1 W1) := Fr.refl _ _
  obtain ⟨⟨x0, x1, _⟩, _⟩ := KEY W1 (Fr.refl _ _)
  have hy8 := y.isLt
  have hd8 := d.isLt
  have hzp : (p : Int) < (b.length : Int) := by omega
  have g1 : ((y.toNat : Int) / 64 != 1) = false := by simp; omega
  have f2 := bit_ne y.toNat 1 hy8 (by decide)
  have e2 : ((2 ^ 1 : Nat) : Int) = 2 := rfl
  rw [e2] at f2
  rw [decide_eq_false (by omega)] at f2
  have f1 := bit_ne y.toNat 0 hy8 (by decide)
  have e1 : ((2 ^ 0 : Nat) : Int) = 1 := rfl
  rw [e1] at f1
  rw [decide_eq_false (by omega)] at f1
  have f32 := bit_ne y.toNat 5 hy8 (by decide)
  have e32 : ((2 ^ 5 : Nat) : Int) = 32 := rfl
  rw [e32] at f32
  have f16 := bit_ne y.toNat 4 hy8 (by decide)
  have e16 : ((2 ^ 4 : Nat) : Int) = 16 := rfl
  rw [e16] at f16
  have f8 := bit_ne y.toNat 3 hy8 (by decide)
  have e8 : ((2 ^ 3 : Nat) : Int) = 8 := rfl
  rw [e8] at f8
  have f4 := bit_ne y.toNat 2 hy8 (by decide)
  have e4 : ((2 ^ 2 : Nat) : Int) = 4 := rfl
  rw [e4] at f4
  obtain ⟨B1, hB1⟩ : ∃ B1, decide (y.toNat / 2 ^ 5 % 2 = 1) = B1 := ⟨_, rfl⟩
  obtain ⟨B2, hB2⟩ : ∃ B2, decide (y.toNat / 2 ^ 4 % 2 = 1) = B2 := ⟨_, rfl⟩
  obtain ⟨B4, hB4⟩ : ∃ B4, decide (y.toNat / 2 ^ 3 % 2 = 1) = B4 := ⟨_, rfl⟩
  obtain ⟨B3, hB3⟩ : ∃ B3, decide (y.toNat / 2 ^ 2 % 2 = 1) = B3 := ⟨_, rfl⟩
  rw [hB1] at f32
  rw [hB2] at f16
  rw [hB4] at f8
  rw [hB3] at f4
  obtain ⟨kb, hkb⟩ : ∃ kb, d.toNat / 16 = kb := ⟨_, rfl⟩
  have hsh : shp y d = ⟨kb, B1, B2, B3, B4⟩ := by rw [← hB1, ← hB2, ← hB3, ← hB4, ← hkb]; rfl
  have hkq : (d.toNat : Int) / 16 = (kb : Int) := by omega
  obtain ⟨p1, hp1⟩ : ∃ p1, p + 1 = p1 := ⟨_, rfl⟩
  have hp1q : (p : Int) + 1 = (p1 : Int) := by omega
  have hzp1 : (p1 : Int) < (b.length : Int) := by omega
  have f143 : (bits .and .u8 (d.toNat : Int) 143 != 0) = decide (d.toNat / 128 = 1 ∨ d.toNat % 16 ≠ 0) := by
    have h1 := and143 d.toNat hd8
    rw [Bool.eq_iff_iff]
    simp only [bne_iff_ne, ne_eq, decide_eq_true_eq]
    rw [h1]; exact Classical.not_not
  have HST : Hid (∀ V, Nw W1 V → AFT w kb B1 B2 B3 B4 (st5 V w.heap.size (.int .i64 kb) (.bool B1) (.bool B2) (.bool B3) (.bool B4))) := fun V hV => by
    refine ⟨?_, st5_row (hV.heap hrow1) _ _ _ _ _⟩
    exact (hN1.trans hV).any.trans (st5_fr _ _ _ _ _ _ _)
  have HAF : Hid (∀ V, AFT w kb B1 B2 B3 B4 V → HK rb g o c b.length p w.heap.size V ∧ SK w.heap.size kb B1 B2 B3 B4 V) := fun V hV => HK.of (hV.rf h) hV.2
  have HBD : Hid (∀ (a y : Nat) k b1 b2 b3 b4 (z : Nat) V, headF b p = .bad a y → Fr (fun k => k = w.heap.size) w V → P (.returned (.tuple #[.agg #[.int .i64 k, .bool b1, .bool b2, .bool b3, .bool b4], .int .u64 z, .int .i64 a, .int .i64 y])) V) := by
    intro a y k b1 b2 b3 b4 z V h1 h2
    rw [hP]
    refine ⟨h2.mono (fun i hi => .inr (by omega)), ?_⟩
    rw [h1]; exact ⟨k, b1, b2, b3, b4, z, rfl⟩
  rw [hp1] at HDY
  have hds : ¬ dsc d := by unfold dsc; omega
  have hB4' : B4 = true := hcz ▸ hB4.symm
  have hhl : hl (shp y d) = 10 := by rw [hsh, hB4']; rfl
  have hh0 : headF b p = if b.length < p + 10 + 1 then .bad b.length 4
      else if b[p + 10]? ≠ some (hs (tk b p 10)) then .bad (p + 10) 42
      else .ok (shp y d, le (tk b (p + 2) (10 - 2)), p + 10 + 1) := by
    unfold headF; rw [hy]; simp only [hf, ne_eq, not_true_eq_false, if_false, hd, if_neg hds, hhl]
  have HAS2 : ∀ V, AFT w kb B1 B2 B3 B4 V → Calls Try.prog 34 #[.pointer (some ⟨rb, 0, none⟩), .int .u64 11] V fun e w1 => e = .returned (.bool (decide (p + 11 ≤ b.length))) ∧ HK rb g o c b.length p w.heap.size w1 ∧ SK w.heap.size kb B1 B2 B3 B4 w1 ∧ Hid (AFT w kb B1 B2 B3 B4 w1) := by
    intro V hV
    refine (ehas_any (hV.rf h) 11 (by decide)).mono ?_
    rintro e w1 ⟨rfl, h1⟩
    exact ⟨rfl, (HAF.out w1 (hV.nw h1)).1, (HAF.out w1 (hV.nw h1)).2, hV.nw h1⟩
  rw [decide_eq_false q4] at f143
  have hz4 : ¬ (kb : Int) < 4 := by omega
  have hh : headF b p = .bad b.length 4 := by rw [hh0, if_pos (by omega)]
  have HB : Hid (∀ k b1 b2 b3 b4 (z : Nat) V, Fr (fun k => k = w.heap.size) w V → P (.returned (.tuple #[.agg #[.int .i64 k, .bool b1, .bool b2, .bool b3, .bool b4], .int .u64 z, .int .i64 b.length, .int .i64 4])) V) := fun k b1 b2 b3 b4 z V => HBD.out _ _ k b1 b2 b3 b4 z V hh
  have HH3' : Hid (∀ V, AFT w kb B1 B2 B3 B4 V → Calls Try.prog 34 #[.pointer (some ⟨rb, 0, none⟩), .int .u64 11] V fun e w1 => e = .returned (.bool false) ∧ HK rb g o c b.length p w.heap.size w1 ∧ SK w.heap.size kb B1 B2 B3 B4 w1 ∧ Hid (AFT w kb B1 B2 B3 B4 w1)) := fun V hV => by
    have := HAS2 V hV
    rw [decide_eq_false (by omega)] at this
    exact this
  have HS3 : Hid (∀ V, AFT w kb B1 B2 B3 B4 V → Calls Try.prog 50 #[.pointer (some ⟨rb, 0, none⟩)] V fun e w1 => e = .returned (.tuple #[.int .i64 b.length, .int .i64 4]) ∧ w1 = V) := fun V hV => eshort_any (hV.rf h)
  clear h hP hW1 hN1 hrow1 KEY HAS HBAD HBD hh hh0 hhl hy hf hd hsh hB1 hB2 hB3 hB4 q4 q5 hds HRW HSH hp1 HAS2 hcz hkb
  subst hB4'
  generalize b.length = L at *
  generalize y.toNat = yn at *
  generalize d.toNat = dn at *
  go_enter Try.func48, Try.ntmps48
  go_upto_region 1 with fail
  rw [HW1.out]
  go_upto_region 15 with (first | (go_at_call 34; (with_reducible refine (HH1.out _ HN0.out).mono ?_); rintro e w1 ⟨rfl, ⟨r0, r1, r2, z0, z1, z2, z3, z4⟩, ⟨s0, s1, s2, s3, s4⟩, H1⟩; have hyc := HY.out _ H1.out) | (go_at_call 34; (with_reducible refine (HH2.out _ H1.out).mono ?_); rintro e w2 ⟨rfl, ⟨r0, r1, r2, z0, z1, z2, z3, z4⟩, ⟨s0, s1, s2, s3, s4⟩, H2⟩; have hyc2 := HY.out _ H2.out; have hdc := HDY.out _ H2.out))
  have hst : ((((w2.setCell ⟨w.heap.size, 0, none⟩ (.int .i64 kb)).setCell ⟨w.heap.size, 1, none⟩ (.bool B1)).setCell ⟨w.heap.size, 2, none⟩ (.bool B2)).setCell ⟨w.heap.size, 3, none⟩ (.bool B3)).setCell ⟨w.heap.size, 4, none⟩ (.bool true) = st5 w2 w.heap.size (.int .i64 kb) (.bool B1) (.bool B2) (.bool B3) (.bool true) := rfl
  rw [hst]
  have HA2 : Hid (AFT w kb B1 B2 B3 true (st5 w2 w.heap.size (.int .i64 kb) (.bool B1) (.bool B2) (.bool B3) (.bool true))) := HST.out w2 H2.out
  clear hst HST r0 r1 r2 z0 z1 z2 z3 z4 s0 s1 s2 s3 s4 HY HDY HH1 HH2 hyc hyc2 hdc g1 f1 f2 f32 f16 f8 f4
  generalize st5 w2 w.heap.size (.int .i64 kb) (.bool B1) (.bool B2) (.bool B3) (.bool true) = V2 at *
  obtain ⟨⟨r0, r1, r2, z0, z1, z2, z3, z4⟩, ⟨s0, s1, s2, s3, s4⟩⟩ := HAF.out _ HA2.out
  have HH3 : Hid (Calls Try.prog 34 #[.pointer (some ⟨rb, 0, none⟩), .int .u64 11] V2 fun e w1 => e = .returned (.bool false) ∧ HK rb g o c L p w.heap.size w1 ∧ SK w.heap.size kb B1 B2 B3 true w1 ∧ Hid (AFT w kb B1 B2 B3 true w1)) := HH3'.out _ HA2.out
  clear HAF HH3'
  go_wp2_with (first | (go_at_call 34; (with_reducible refine (HH3.out).mono ?_); rintro e w3 ⟨rfl, ⟨r0, r1, r2, z0, z1, z2, z3, z4⟩, ⟨s0, s1, s2, s3, s4⟩, HA3⟩) | (go_at_call 50; with_reducible refine (HS3.out _ HA3.out).mono ?_; rintro e w4 ⟨rfl, rfl⟩))
  (try simp only [Exit.inBlock, Exit.then])
  exact hret w.heap.size rfl HA3.out.2 rfl rfl (HB.out _ _ _ _ _ 0 _ HA3.out.1)
set_option maxHeartbeats 8000000 in
set_option maxRecDepth 100000 in
theorem eheaded_Fs (h : RfI D rb g o c b most p out K w) (y : By) (hy : b[p]? = some y) (q1 : y.toNat / 64 = 1) (q2 : y.toNat / 2 % 2 = 0) (q3 : y.toNat % 2 = 0) (d : By) (hd : b[p + 1]? = some d) (q4 : ¬ (d.toNat / 128 = 1 ∨ d.toNat % 16 ≠ 0)) (q5 : ¬ d.toNat / 16 < 4) (hcz : decide (y.toNat / 2 ^ 3 % 2 = 1) = true) (q6 : p + 11 ≤ b.length) (q7 : b[p + 10]? ≠ some (hs (tk b p 10))) : Calls Try.prog 48 #[.pointer (some ⟨rb, 0, none⟩)] w (EHd D rb g o c b most out K w (headF b p)) := by
  obtain ⟨P, hP⟩ : ∃ P : Ending → World → Prop, P = EHd D rb g o c b most out K w (headF b p) := ⟨_, rfl⟩
  rw [← hP]
  obtain ⟨W1, hW1⟩ : ∃ W1, w.alloc (.cells #[.int .i64 0, .bool false, .bool false, .bool false, .bool false] 24) = W1 := ⟨_, rfl⟩
  have hN1 : Nw w W1 := by rw [← hW1]; exact (Fr.refl _ _).alloc _
  have hrow1 : W1.heap[w.heap.size]? = some (.cells #[.int .i64 0, .bool false, .bool false, .bool false, .bool false] 24) := by
    rw [← hW1]
    show (w.heap.push _)[w.heap.size]? = _
    rw [Array.getElem?_push_size]
  have hbl := h.bl
  have hpl := h.pl
  have hcb := h.hc
  have hc2 := h.hc2
  have KEY : ∀ V, Nw W1 V → HK rb g o c b.length p w.heap.size V ∧ SK w.heap.size 0 false false false false V := fun V hV => HK.of (h.nw (hN1.trans hV)) (hV.heap hrow1)
  have HAS : ∀ (n : Nat), n < 18446744073709551616 → ∀ V, Nw W1 V → Calls Try.prog 34 #[.pointer (some ⟨rb, 0, none⟩), .int .u64 n] V fun e w1 => e = .returned (.bool (decide (p + n ≤ b.length))) ∧ HK rb g o c b.length p w.heap.size w1 ∧ SK w.heap.size 0 false false false false w1 ∧ Hid (Nw W1 w1) := by
    intro n hn V hV
    refine (ehas_any (h.nw (hN1.trans hV)) n hn).mono ?_
    rintro e w1 ⟨rfl, h1⟩
    exact ⟨rfl, (KEY w1 (hV.trans h1)).1, (KEY w1 (hV.trans h1)).2, hV.trans h1⟩
  have HSH : Hid (∀ V, Nw W1 V → Calls Try.prog 50 #[.pointer (some ⟨rb, 0, none⟩)] V fun e w1 => e = .returned (.tuple #[.int .i64 b.length, .int .i64 4]) ∧ w1 = V) := fun V hV => eshort_any (h.nw (hN1.trans hV))
  have HBAD : Hid (∀ (a y : Nat) k b1 b2 b3 b4 (z : Nat) V, headF b p = .bad a y → Fr (fun k => k = rb ∨ k = w.heap.size) W1 V → P (.returned (.tuple #[.agg #[.int .i64 k, .bool b1, .bool b2, .bool b3, .bool b4], .int .u64 z, .int .i64 a, .int .i64 y])) V) := by
    intro a y k b1 b2 b3 b4 z V h1 h2
    rw [hP]
    refine ⟨Fr.then hN1.any h2 (fun i hi => ?_), ?_⟩
    · rcases hi with hi | hi
      · exact .inl hi
      · exact .inr (by omega)
    · rw [h1]; exact ⟨k, b1, b2, b3, b4, z, rfl⟩
  have HRW : Hid (∀ V, Nw W1 V → V.heap[w.heap.size]? = some (.cells #[.int .i64 0, .bool false, .bool false, .bool false, .bool false] 24)) := fun V hV => hV.heap hrow1
  have HW1 : Hid (w.alloc (.cells #[.int .i64 0, .bool false, .bool false, .bool false, .bool false] 24) = W1) := hW1
  have hf : flg y = 0 := by unfold flg; rw [if_neg (by omega), if_neg (by omega), if_neg (by omega)]
  have hlt : p < b.length := (List.getElem?_eq_some_iff.1 hy).1
  have hl2 : p + 1 < b.length := (List.getElem?_eq_some_iff.1 hd).1
  have HH1 : Hid (∀ V, Nw W1 V → Calls Try.prog 34 #[.pointer (some ⟨rb, 0, none⟩), .int .u64 1] V fun e w1 => e = .returned (.bool true) ∧ HK rb g o c b.length p w.heap.size w1 ∧ SK w.heap.size 0 false false false false w1 ∧ Hid (Nw W1 w1)) := fun V hV => by
    have := HAS 1 (by decide) V hV
    rw [decide_eq_true (by omega)] at this
    exact this
  have HH2 : Hid (∀ V, Nw W1 V → Calls Try.prog 34 #[.pointer (some ⟨rb, 0, none⟩), .int .u64 2] V fun e w1 => e = .returned (.bool true) ∧ HK rb g o c b.length p w.heap.size w1 ∧ SK w.heap.size 0 false false false false w1 ∧ Hid (Nw W1 w1)) := fun V hV => by
    have := HAS 2 (by decide) V hV
    rw [decide_eq_true (by omega)] at this
    exact this
  have HY : Hid (∀ V, Nw W1 V → V.cell? ⟨g, o + p, none⟩ = some (.int .u8 y.toNat)) := fun V hV => (h.rd.nw (hN1.trans hV)).at p y hy
  have HDY : Hid (∀ V, Nw W1 V → V.cell? ⟨g, o + (p + 1), none⟩ = some (.int .u8 d.toNat)) := fun V hV => (h.rd.nw (hN1.trans hV)).at (p + 1) d hd
  have HN0 : Hid (Nw W1 W1) := Fr.refl _ _
  obtain ⟨⟨x0, x1, _⟩, _⟩ := KEY W1 (Fr.refl _ _)
  have hy8 := y.isLt
  have hd8 := d.isLt
  have hzp : (p : Int) < (b.length : Int) := by omega
  have g1 : ((y.toNat : Int) / 64 != 1) = false := by simp; omega
  have f2 := bit_ne y.toNat 1 hy8 (by decide)
  have e2 : ((2 ^ 1 : Nat) : Int) = 2 := rfl
  rw [e2] at f2
  rw [decide_eq_false (by omega)] at f2
  have f1 := bit_ne y.toNat 0 hy8 (by decide)
  have e1 : ((2 ^ 0 : Nat) : Int) = 1 := rfl
  rw [e1] at f1
  rw [decide_eq_false (by omega)] at f1
  have f32 := bit_ne y.toNat 5 hy8 (by decide)
  have e32 : ((2 ^ 5 : Nat) : Int) = 32 := rfl
  rw [e32] at f32
  have f16 := bit_ne y.toNat 4 hy8 (by decide)
  have e16 : ((2 ^ 4 : Nat) : Int) = 16 := rfl
  rw [e16] at f16
  have f8 := bit_ne y.toNat 3 hy8 (by decide)
  have e8 : ((2 ^ 3 : Nat) : Int) = 8 := rfl
  rw [e8] at f8
  have f4 := bit_ne y.toNat 2 hy8 (by decide)
  have e4 : ((2 ^ 2 : Nat) : Int) = 4 := rfl
  rw [e4] at f4
  obtain ⟨B1, hB1⟩ : ∃ B1, decide (y.toNat / 2 ^ 5 % 2 = 1) = B1 := ⟨_, rfl⟩
  obtain ⟨B2, hB2⟩ : ∃ B2, decide (y.toNat / 2 ^ 4 % 2 = 1) = B2 := ⟨_, rfl⟩
  obtain ⟨B4, hB4⟩ : ∃ B4, decide (y.toNat / 2 ^ 3 % 2 = 1) = B4 := ⟨_, rfl⟩
  obtain ⟨B3, hB3⟩ : ∃ B3, decide (y.toNat / 2 ^ 2 % 2 = 1) = B3 := ⟨_, rfl⟩
  rw [hB1] at f32
  rw [hB2] at f16
  rw [hB4] at f8
  rw [hB3] at f4
  obtain ⟨kb, hkb⟩ : ∃ kb, d.toNat / 16 = kb := ⟨_, rfl⟩
  have hsh : shp y d = ⟨kb, B1, B2, B3, B4⟩ := by rw [← hB1, ← hB2, ← hB3, ← hB4, ← hkb]; rfl
  have hkq : (d.toNat : Int) / 16 = (kb : Int) := by omega
  obtain ⟨p1, hp1⟩ : ∃ p1, p + 1 = p1 := ⟨_, rfl⟩
  have hp1q : (p : Int) + 1 = (p1 : Int) := by omega
  have hzp1 : (p1 : Int) < (b.length : Int) := by omega
  have f143 : (bits .and .u8 (d.toNat : Int) 143 != 0) = decide (d.toNat / 128 = 1 ∨ d.toNat % 16 ≠ 0) := by
    have h1 := and143 d.toNat hd8
    rw [Bool.eq_iff_iff]
    simp only [bne_iff_ne, ne_eq, decide_eq_true_eq]
    rw [h1]; exact Classical.not_not
  have HST : Hid (∀ V, Nw W1 V → AFT w kb B1 B2 B3 B4 (st5 V w.heap.size (.int .i64 kb) (.bool B1) (.bool B2) (.bool B3) (.bool B4))) := fun V hV => by
    refine ⟨?_, st5_row (hV.heap hrow1) _ _ _ _ _⟩
    exact (hN1.trans hV).any.trans (st5_fr _ _ _ _ _ _ _)
  have HAF : Hid (∀ V, AFT w kb B1 B2 B3 B4 V → HK rb g o c b.length p w.heap.size V ∧ SK w.heap.size kb B1 B2 B3 B4 V) := fun V hV => HK.of (hV.rf h) hV.2
  have HBD : Hid (∀ (a y : Nat) k b1 b2 b3 b4 (z : Nat) V, headF b p = .bad a y → Fr (fun k => k = w.heap.size) w V → P (.returned (.tuple #[.agg #[.int .i64 k, .bool b1, .bool b2, .bool b3, .bool b4], .int .u64 z, .int .i64 a, .int .i64 y])) V) := by
    intro a y k b1 b2 b3 b4 z V h1 h2
    rw [hP]
    refine ⟨h2.mono (fun i hi => .inr (by omega)), ?_⟩
    rw [h1]; exact ⟨k, b1, b2, b3, b4, z, rfl⟩
  rw [hp1] at HDY
  have hds : ¬ dsc d := by unfold dsc; omega
  have hB4' : B4 = true := hcz ▸ hB4.symm
  have hhl : hl (shp y d) = 10 := by rw [hsh, hB4']; rfl
  have hh0 : headF b p = if b.length < p + 10 + 1 then .bad b.length 4
      else if b[p + 10]? ≠ some (hs (tk b p 10)) then .bad (p + 10) 42
      else .ok (shp y d, le (tk b (p + 2) (10 - 2)), p + 10 + 1) := by
    unfold headF; rw [hy]; simp only [hf, ne_eq, not_true_eq_false, if_false, hd, if_neg hds, hhl]
  have HAS2 : ∀ V, AFT w kb B1 B2 B3 B4 V → Calls Try.prog 34 #[.pointer (some ⟨rb, 0, none⟩), .int .u64 11] V fun e w1 => e = .returned (.bool (decide (p + 11 ≤ b.length))) ∧ HK rb g o c b.length p w.heap.size w1 ∧ SK w.heap.size kb B1 B2 B3 B4 w1 ∧ Hid (AFT w kb B1 B2 B3 B4 w1) := by
    intro V hV
    refine (ehas_any (hV.rf h) 11 (by decide)).mono ?_
    rintro e w1 ⟨rfl, h1⟩
    exact ⟨rfl, (HAF.out w1 (hV.nw h1)).1, (HAF.out w1 (hV.nw h1)).2, hV.nw h1⟩
  rw [decide_eq_false q4] at f143
  have hz4 : ¬ (kb : Int) < 4 := by omega
  have hh : headF b p = .bad (p + 10) 42 := by rw [hh0, if_neg (by omega), if_pos q7]
  have HH3' : Hid (∀ V, AFT w kb B1 B2 B3 B4 V → Calls Try.prog 34 #[.pointer (some ⟨rb, 0, none⟩), .int .u64 11] V fun e w1 => e = .returned (.bool true) ∧ HK rb g o c b.length p w.heap.size w1 ∧ SK w.heap.size kb B1 B2 B3 B4 w1 ∧ Hid (AFT w kb B1 B2 B3 B4 w1)) := fun V hV => by
    have := HAS2 V hV
    rw [decide_eq_true (by omega)] at this
    exact this
  obtain ⟨yb, hyb⟩ : ∃ yb, b[p + 10]? = some yb := ⟨_, List.getElem?_eq_getElem (by omega)⟩
  have hyb8 := yb.isLt
  obtain ⟨pn, hpn⟩ : ∃ pn, p + 10 = pn := ⟨_, rfl⟩
  have hpnq : (p : Int) + 10 = (pn : Int) := by omega
  have hpnq' : IntKind.i64.wrap (pn : Int) = (pn : Int) := by rw [IntKind.wrap_i64]; omega
  obtain ⟨hb, hhb⟩ : ∃ hb, (hs (tk b p 10)).toNat = hb := ⟨_, rfl⟩
  have htl : (tk b p 10).length = 10 := tk_length _ _ _ (by omega)
  have HSM : Hid (∀ V, AFT w kb B1 B2 B3 B4 V → Calls Try.prog 45 #[.int .u32 0, .slice (some ⟨g, o + p, none⟩) 10 (c - p)] V.drew fun e w1 => ∃ q : Nat, e = .returned (.int .u32 q) ∧ IntKind.u8.wrap ((q : Int) / 256) = (hb : Int) ∧ q < 4294967296 ∧ (w1.cell? ⟨rb, 0, none⟩ = some (.slice (some ⟨g, o, none⟩) b.length c) ∧ w1.cell? ⟨g, o + pn, none⟩ = some (.int .u8 yb.toNat)) ∧ HK rb g o c b.length p w.heap.size w1 ∧ SK w.heap.size kb B1 B2 B3 B4 w1 ∧ Hid (AFT w kb B1 B2 B3 B4 w1)) := by
    intro V hV
    have hV' := hV.nw ((Fr.refl _ V).drew)
    have hR := hV'.rf h
    refine (rsum32_any 0#32 _ (tk b p 10) V.drew ((hR.sl p 10 (by omega)).mono (fun k hk => by have := hR.lt rb hR.kr; have := hR.dr; show D ≤ k; omega))).mono ?_
    rintro e w1 ⟨rfl, h1⟩
    have hw := hV'.nw h1
    refine ⟨_, rfl, ?_, (s32 0#32 (tk b p 10)).isLt, ⟨(HAF.out w1 hw).1.1, ?_⟩, (HAF.out w1 hw).1, (HAF.out w1 hw).2, hw⟩
    · rw [← hhb]
      unfold hs sm
      rw [IntKind.wrap_u8, BitVec.toNat_ofNat]
      omega
    · rw [← hpn]; exact (hw.rf h).rd.at (p + 10) yb hyb
  have HCY : Hid (∀ V, AFT w kb B1 B2 B3 B4 V → V.cell? ⟨g, o + pn, none⟩ = some (.int .u8 yb.toNat)) := fun V hV => by rw [← hpn]; exact (hV.rf h).rd.at (p + 10) yb hyb
  have hzn1 : (pn : Int) < (b.length : Int) := by omega
  have hzn2 : (pn : Int) ≤ (c : Int) := by omega
  have hzn3 : (p : Int) ≤ (pn : Int) := by omega
  have hzn4 : pn - p = 10 := by omega
  have hzn5 : ¬ c = p := by omega
  obtain ⟨p2, hp2⟩ : ∃ p2, p + 2 = p2 := ⟨_, rfl⟩
  have hp2q : (p : Int) + 2 = (p2 : Int) := by omega
  have hzm1 : (p2 : Int) ≤ (pn : Int) := by omega
  have hzm2 : pn - p2 = 8 := by omega
  have hzm3 : ¬ c = p2 := by omega
  have htl2 : (tk b (p + 2) 8).length = 8 := tk_length _ _ _ (by omega)
  have HNU : Hid (∀ V, AFT w kb B1 B2 B3 B4 V → Calls Try.prog 51 #[.slice (some ⟨g, o + p2, none⟩) 8 (c - p2)] V fun e w1 => e = .returned (.int .u64 (le (tk b (p + 2) 8))) ∧ w1 = V) := fun V hV => by
    rw [← hp2]
    exact dnumber_any _ _ _ V ((hV.rf h).sl (p + 2) 8 (by omega)) (by rw [htl2]; decide)
  have hne : ((yb.toNat : Int) != (hb : Int)) = true := by
    rw [hyb] at q7
    have : yb ≠ hs (tk b p 10) := fun hx => q7 (by rw [hx])
    have h2 : yb.toNat ≠ hb := fun hx => this (BitVec.eq_of_toNat_eq (by rw [hhb, hx]))
    simp; omega
  rw [hpn] at hh
  have HB : Hid (∀ k b1 b2 b3 b4 (z : Nat) V, Fr (fun k => k = w.heap.size) w V → P (.returned (.tuple #[.agg #[.int .i64 k, .bool b1, .bool b2, .bool b3, .bool b4], .int .u64 z, .int .i64 pn, .int .i64 42])) V) := fun k b1 b2 b3 b4 z V => HBD.out _ _ k b1 b2 b3 b4 z V hh
  obtain ⟨nn, hnn⟩ : ∃ nn, le (tk b (p + 2) 8) = nn := ⟨_, rfl⟩
  rw [hnn] at HNU
  clear h hP hW1 hN1 hrow1 KEY HAS HBAD HBD hh hh0 hhl hy hf hd hsh hB1 hB2 hB3 hB4 q4 q5 hds HRW HSH hp1 HAS2 hcz hkb q7 hyb hhb htl htl2 hnn
  subst hB4'
  generalize b.length = L at *
  generalize y.toNat = yn at *
  generalize d.toNat = dn at *
  generalize yb.toNat = ybn at *
  go_enter Try.func48, Try.ntmps48
  go_upto_region 1 with fail
  rw [HW1.out]
  go_upto_region 15 with (first | (go_at_call 34; (with_reducible refine (HH1.out _ HN0.out).mono ?_); rintro e w1 ⟨rfl, ⟨r0, r1, r2, z0, z1, z2, z3, z4⟩, ⟨s0, s1, s2, s3, s4⟩, H1⟩; have hyc := HY.out _ H1.out) | (go_at_call 34; (with_reducible refine (HH2.out _ H1.out).mono ?_); rintro e w2 ⟨rfl, ⟨r0, r1, r2, z0, z1, z2, z3, z4⟩, ⟨s0, s1, s2, s3, s4⟩, H2⟩; have hyc2 := HY.out _ H2.out; have hdc := HDY.out _ H2.out))
  have hst : ((((w2.setCell ⟨w.heap.size, 0, none⟩ (.int .i64 kb)).setCell ⟨w.heap.size, 1, none⟩ (.bool B1)).setCell ⟨w.heap.size, 2, none⟩ (.bool B2)).setCell ⟨w.heap.size, 3, none⟩ (.bool B3)).setCell ⟨w.heap.size, 4, none⟩ (.bool true) = st5 w2 w.heap.size (.int .i64 kb) (.bool B1) (.bool B2) (.bool B3) (.bool true) := rfl
  rw [hst]
  have HA2 : Hid (AFT w kb B1 B2 B3 true (st5 w2 w.heap.size (.int .i64 kb) (.bool B1) (.bool B2) (.bool B3) (.bool true))) := HST.out w2 H2.out
  clear hst HST r0 r1 r2 z0 z1 z2 z3 z4 s0 s1 s2 s3 s4 HY HDY HH1 HH2 hyc hyc2 hdc g1 f1 f2 f32 f16 f8 f4
  generalize st5 w2 w.heap.size (.int .i64 kb) (.bool B1) (.bool B2) (.bool B3) (.bool true) = V2 at *
  obtain ⟨⟨r0, r1, r2, z0, z1, z2, z3, z4⟩, ⟨s0, s1, s2, s3, s4⟩⟩ := HAF.out _ HA2.out
  have HH3 : Hid (Calls Try.prog 34 #[.pointer (some ⟨rb, 0, none⟩), .int .u64 11] V2 fun e w1 => e = .returned (.bool true) ∧ HK rb g o c L p w.heap.size w1 ∧ SK w.heap.size kb B1 B2 B3 true w1 ∧ Hid (AFT w kb B1 B2 B3 true w1)) := HH3'.out _ HA2.out
  clear HH3'
  go_upto_region 24 with (first | (go_at_call 34; (with_reducible refine (HH3.out).mono ?_); rintro e w3 ⟨rfl, ⟨r0, r1, r2, z0, z1, z2, z3, z4⟩, ⟨s0, s1, s2, s3, s4⟩, HA3⟩; have hcy := HCY.out _ HA3.out) | (go_at_call 51; with_reducible refine (HNU.out _ HA3.out).mono ?_; rintro e w4 ⟨rfl, rfl⟩))
  have HSMd : Hid (Calls Try.prog 45 #[.int .u32 0, .slice (some ⟨g, o + p, none⟩) 10 (c - p)] (w4).drew _) := HSM.out _ HA3.out
  have kd0 : (w4).drew.cell? ⟨rb, 0, none⟩ = some (.slice (some ⟨g, o, none⟩) L c) := r0
  have kd1 : (w4).drew.cell? ⟨g, o + pn, none⟩ = some (.int .u8 ybn) := hcy
  clear HSM HCY
  go_region_held3 (fun w' => w'.cell? ⟨rb, 0, none⟩ = some (.slice (some ⟨g, o, none⟩) L c) ∧ w'.cell? ⟨g, o + pn, none⟩ = some (.int .u8 ybn))
    (first | exact ⟨r0, hcy⟩ | exact ⟨kd0, kd1⟩ | assumption)
    (first | (go_at_call 45; (with_reducible refine (HSMd.out).mono ?_); rintro e w5 ⟨q, rfl, hqw, hq32, hS5, ⟨R0, R1, R2, Z0, Z1, Z2, Z3, Z4⟩, ⟨S0, S1, S2, S3, S4⟩, HA5⟩))
  clear r0 r1 r2 z0 z1 z2 z3 z4 s0 s1 s2 s3 s4 kd0 kd1 hcy HSMd
  go_wp2_with fail
  (try simp only [Exit.inBlock, Exit.then])
  refine hret w.heap.size rfl (st5_row HA5.out.2 _ _ _ _ _) rfl rfl (HB.out _ _ _ _ _ 0 _ ?_)
  exact HA5.out.1.trans (st5_fr _ _ _ _ _ _ _)
set_option maxHeartbeats 8000000 in
set_option maxRecDepth 100000 in
theorem eheaded_Gs (h : RfI D rb g o c b most p out K w) (y : By) (hy : b[p]? = some y) (q1 : y.toNat / 64 = 1) (q2 : y.toNat / 2 % 2 = 0) (q3 : y.toNat % 2 = 0) (d : By) (hd : b[p + 1]? = some d) (q4 : ¬ (d.toNat / 128 = 1 ∨ d.toNat % 16 ≠ 0)) (q5 : ¬ d.toNat / 16 < 4) (hcz : decide (y.toNat / 2 ^ 3 % 2 = 1) = true) (q6 : p + 11 ≤ b.length) (q7 : b[p + 10]? = some (hs (tk b p 10))) : Calls Try.prog 48 #[.pointer (some ⟨rb, 0, none⟩)] w (EHd D rb g o c b most out K w (headF b p)) := by
  obtain ⟨P, hP⟩ : ∃ P : Ending → World → Prop, P = EHd D rb g o c b most out K w (headF b p) := ⟨_, rfl⟩
  rw [← hP]
  obtain ⟨W1, hW1⟩ : ∃ W1, w.alloc (.cells #[.int .i64 0, .bool false, .bool false, .bool false, .bool false] 24) = W1 := ⟨_, rfl⟩
  have hN1 : Nw w W1 := by rw [← hW1]; exact (Fr.refl _ _).alloc _
  have hrow1 : W1.heap[w.heap.size]? = some (.cells #[.int .i64 0, .bool false, .bool false, .bool false, .bool false] 24) := by
    rw [← hW1]
    show (w.heap.push _)[w.heap.size]? = _
    rw [Array.getElem?_push_size]
  have hbl := h.bl
  have hpl := h.pl
  have hcb := h.hc
  have hc2 := h.hc2
  have KEY : ∀ V, Nw W1 V → HK rb g o c b.length p w.heap.size V ∧ SK w.heap.size 0 false false false false V := fun V hV => HK.of (h.nw (hN1.trans hV)) (hV.heap hrow1)
  have HAS : ∀ (n : Nat), n < 18446744073709551616 → ∀ V, Nw W1 V → Calls Try.prog 34 #[.pointer (some ⟨rb, 0, none⟩), .int .u64 n] V fun e w1 => e = .returned (.bool (decide (p + n ≤ b.length))) ∧ HK rb g o c b.length p w.heap.size w1 ∧ SK w.heap.size 0 false false false false w1 ∧ Hid (Nw W1 w1) := by
    intro n hn V hV
    refine (ehas_any (h.nw (hN1.trans hV)) n hn).mono ?_
    rintro e w1 ⟨rfl, h1⟩
    exact ⟨rfl, (KEY w1 (hV.trans h1)).1, (KEY w1 (hV.trans h1)).2, hV.trans h1⟩
  have HSH : Hid (∀ V, Nw W1 V → Calls Try.prog 50 #[.pointer (some ⟨rb, 0, none⟩)] V fun e w1 => e = .returned (.tuple #[.int .i64 b.length, .int .i64 4]) ∧ w1 = V) := fun V hV => eshort_any (h.nw (hN1.trans hV))
  have HBAD : Hid (∀ (a y : Nat) k b1 b2 b3 b4 (z : Nat) V, headF b p = .bad a y → Fr (fun k => k = rb ∨ k = w.heap.size) W1 V → P (.returned (.tuple #[.agg #[.int .i64 k, .bool b1, .bool b2, .bool b3, .bool b4], .int .u64 z, .int .i64 a, .int .i64 y])) V) := by
    intro a y k b1 b2 b3 b4 z V h1 h2
    rw [hP]
    refine ⟨Fr.then hN1.any h2 (fun i hi => ?_), ?_⟩
    · rcases hi with hi | hi
      · exact .inl hi
      · exact .inr (by omega)
    · rw [h1]; exact ⟨k, b1, b2, b3, b4, z, rfl⟩
  have HRW : Hid (∀ V, Nw W1 V → V.heap[w.heap.size]? = some (.cells #[.int .i64 0, .bool false, .bool false, .bool false, .bool false] 24)) := fun V hV => hV.heap hrow1
  have HW1 : Hid (w.alloc (.cells #[.int .i64 0, .bool false, .bool false, .bool false, .bool false] 24) = W1) := hW1
  have hf : flg y = 0 := by unfold flg; rw [if_neg (by omega), if_neg (by omega), if_neg (by omega)]
  have hlt : p < b.length := (List.getElem?_eq_some_iff.1 hy).1
  have hl2 : p + 1 < b.length := (List.getElem?_eq_some_iff.1 hd).1
  have HH1 : Hid (∀ V, Nw W1 V → Calls Try.prog 34 #[.pointer (some ⟨rb, 0, none⟩), .int .u64 1] V fun e w1 => e = .returned (.bool true) ∧ HK rb g o c b.length p w.heap.size w1 ∧ SK w.heap.size 0 false false false false w1 ∧ Hid (Nw W1 w1)) := fun V hV => by
    have := HAS 1 (by decide) V hV
    rw [decide_eq_true (by omega)] at this
    exact this
  have HH2 : Hid (∀ V, Nw W1 V → Calls Try.prog 34 #[.pointer (some ⟨rb, 0, none⟩), .int .u64 2] V fun e w1 => e = .returned (.bool true) ∧ HK rb g o c b.length p w.heap.size w1 ∧ SK w.heap.size 0 false false false false w1 ∧ Hid (Nw W1 w1)) := fun V hV => by
    have := HAS 2 (by decide) V hV
    rw [decide_eq_true (by omega)] at this
    exact this
  have HY : Hid (∀ V, Nw W1 V → V.cell? ⟨g, o + p, none⟩ = some (.int .u8 y.toNat)) := fun V hV => (h.rd.nw (hN1.trans hV)).at p y hy
  have HDY : Hid (∀ V, Nw W1 V → V.cell? ⟨g, o + (p + 1), none⟩ = some (.int .u8 d.toNat)) := fun V hV => (h.rd.nw (hN1.trans hV)).at (p + 1) d hd
  have HN0 : Hid (Nw W1 W1) := Fr.refl _ _
  obtain ⟨⟨x0, x1, _⟩, _⟩ := KEY W1 (Fr.refl _ _)
  have hy8 := y.isLt
  have hd8 := d.isLt
  have hzp : (p : Int) < (b.length : Int) := by omega
  have g1 : ((y.toNat : Int) / 64 != 1) = false := by simp; omega
  have f2 := bit_ne y.toNat 1 hy8 (by decide)
  have e2 : ((2 ^ 1 : Nat) : Int) = 2 := rfl
  rw [e2] at f2
  rw [decide_eq_false (by omega)] at f2
  have f1 := bit_ne y.toNat 0 hy8 (by decide)
  have e1 : ((2 ^ 0 : Nat) : Int) = 1 := rfl
  rw [e1] at f1
  rw [decide_eq_false (by omega)] at f1
  have f32 := bit_ne y.toNat 5 hy8 (by decide)
  have e32 : ((2 ^ 5 : Nat) : Int) = 32 := rfl
  rw [e32] at f32
  have f16 := bit_ne y.toNat 4 hy8 (by decide)
  have e16 : ((2 ^ 4 : Nat) : Int) = 16 := rfl
  rw [e16] at f16
  have f8 := bit_ne y.toNat 3 hy8 (by decide)
  have e8 : ((2 ^ 3 : Nat) : Int) = 8 := rfl
  rw [e8] at f8
  have f4 := bit_ne y.toNat 2 hy8 (by decide)
  have e4 : ((2 ^ 2 : Nat) : Int) = 4 := rfl
  rw [e4] at f4
  obtain ⟨B1, hB1⟩ : ∃ B1, decide (y.toNat / 2 ^ 5 % 2 = 1) = B1 := ⟨_, rfl⟩
  obtain ⟨B2, hB2⟩ : ∃ B2, decide (y.toNat / 2 ^ 4 % 2 = 1) = B2 := ⟨_, rfl⟩
  obtain ⟨B4, hB4⟩ : ∃ B4, decide (y.toNat / 2 ^ 3 % 2 = 1) = B4 := ⟨_, rfl⟩
  obtain ⟨B3, hB3⟩ : ∃ B3, decide (y.toNat / 2 ^ 2 % 2 = 1) = B3 := ⟨_, rfl⟩
  rw [hB1] at f32
  rw [hB2] at f16
  rw [hB4] at f8
  rw [hB3] at f4
  obtain ⟨kb, hkb⟩ : ∃ kb, d.toNat / 16 = kb := ⟨_, rfl⟩
  have hsh : shp y d = ⟨kb, B1, B2, B3, B4⟩ := by rw [← hB1, ← hB2, ← hB3, ← hB4, ← hkb]; rfl
  have hkq : (d.toNat : Int) / 16 = (kb : Int) := by omega
  obtain ⟨p1, hp1⟩ : ∃ p1, p + 1 = p1 := ⟨_, rfl⟩
  have hp1q : (p : Int) + 1 = (p1 : Int) := by omega
  have hzp1 : (p1 : Int) < (b.length : Int) := by omega
  have f143 : (bits .and .u8 (d.toNat : Int) 143 != 0) = decide (d.toNat / 128 = 1 ∨ d.toNat % 16 ≠ 0) := by
    have h1 := and143 d.toNat hd8
    rw [Bool.eq_iff_iff]
    simp only [bne_iff_ne, ne_eq, decide_eq_true_eq]
    rw [h1]; exact Classical.not_not
  have HST : Hid (∀ V, Nw W1 V → AFT w kb B1 B2 B3 B4 (st5 V w.heap.size (.int .i64 kb) (.bool B1) (.bool B2) (.bool B3) (.bool B4))) := fun V hV => by
    refine ⟨?_, st5_row (hV.heap hrow1) _ _ _ _ _⟩
    exact (hN1.trans hV).any.trans (st5_fr _ _ _ _ _ _ _)
  have HAF : Hid (∀ V, AFT w kb B1 B2 B3 B4 V → HK rb g o c b.length p w.heap.size V ∧ SK w.heap.size kb B1 B2 B3 B4 V) := fun V hV => HK.of (hV.rf h) hV.2
  have HBD : Hid (∀ (a y : Nat) k b1 b2 b3 b4 (z : Nat) V, headF b p = .bad a y → Fr (fun k => k = w.heap.size) w V → P (.returned (.tuple #[.agg #[.int .i64 k, .bool b1, .bool b2, .bool b3, .bool b4], .int .u64 z, .int .i64 a, .int .i64 y])) V) := by
    intro a y k b1 b2 b3 b4 z V h1 h2
    rw [hP]
    refine ⟨h2.mono (fun i hi => .inr (by omega)), ?_⟩
    rw [h1]; exact ⟨k, b1, b2, b3, b4, z, rfl⟩
  rw [hp1] at HDY
  have hds : ¬ dsc d := by unfold dsc; omega
  have hB4' : B4 = true := hcz ▸ hB4.symm
  have hhl : hl (shp y d) = 10 := by rw [hsh, hB4']; rfl
  have hh0 : headF b p = if b.length < p + 10 + 1 then .bad b.length 4
      else if b[p + 10]? ≠ some (hs (tk b p 10)) then .bad (p + 10) 42
      else .ok (shp y d, le (tk b (p + 2) (10 - 2)), p + 10 + 1) := by
    unfold headF; rw [hy]; simp only [hf, ne_eq, not_true_eq_false, if_false, hd, if_neg hds, hhl]
  have HAS2 : ∀ V, AFT w kb B1 B2 B3 B4 V → Calls Try.prog 34 #[.pointer (some ⟨rb, 0, none⟩), .int .u64 11] V fun e w1 => e = .returned (.bool (decide (p + 11 ≤ b.length))) ∧ HK rb g o c b.length p w.heap.size w1 ∧ SK w.heap.size kb B1 B2 B3 B4 w1 ∧ Hid (AFT w kb B1 B2 B3 B4 w1) := by
    intro V hV
    refine (ehas_any (hV.rf h) 11 (by decide)).mono ?_
    rintro e w1 ⟨rfl, h1⟩
    exact ⟨rfl, (HAF.out w1 (hV.nw h1)).1, (HAF.out w1 (hV.nw h1)).2, hV.nw h1⟩
  rw [decide_eq_false q4] at f143
  have hz4 : ¬ (kb : Int) < 4 := by omega
  have hh : headF b p = .ok (shp y d, le (tk b (p + 2) (10 - 2)), p + 10 + 1) := by rw [hh0, if_neg (by omega), if_neg (fun hx => hx q7)]
  have HH3' : Hid (∀ V, AFT w kb B1 B2 B3 B4 V → Calls Try.prog 34 #[.pointer (some ⟨rb, 0, none⟩), .int .u64 11] V fun e w1 => e = .returned (.bool true) ∧ HK rb g o c b.length p w.heap.size w1 ∧ SK w.heap.size kb B1 B2 B3 B4 w1 ∧ Hid (AFT w kb B1 B2 B3 B4 w1)) := fun V hV => by
    have := HAS2 V hV
    rw [decide_eq_true (by omega)] at this
    exact this
  obtain ⟨yb, hyb⟩ : ∃ yb, b[p + 10]? = some yb := ⟨_, List.getElem?_eq_getElem (by omega)⟩
  have hyb8 := yb.isLt
  obtain ⟨pn, hpn⟩ : ∃ pn, p + 10 = pn := ⟨_, rfl⟩
  have hpnq : (p : Int) + 10 = (pn : Int) := by omega
  have hpnq' : IntKind.i64.wrap (pn : Int) = (pn : Int) := by rw [IntKind.wrap_i64]; omega
  obtain ⟨hb, hhb⟩ : ∃ hb, (hs (tk b p 10)).toNat = hb := ⟨_, rfl⟩
  have htl : (tk b p 10).length = 10 := tk_length _ _ _ (by omega)
  have HSM : Hid (∀ V, AFT w kb B1 B2 B3 B4 V → Calls Try.prog 45 #[.int .u32 0, .slice (some ⟨g, o + p, none⟩) 10 (c - p)] V.drew fun e w1 => ∃ q : Nat, e = .returned (.int .u32 q) ∧ IntKind.u8.wrap ((q : Int) / 256) = (hb : Int) ∧ q < 4294967296 ∧ (w1.cell? ⟨rb, 0, none⟩ = some (.slice (some ⟨g, o, none⟩) b.length c) ∧ w1.cell? ⟨g, o + pn, none⟩ = some (.int .u8 yb.toNat)) ∧ HK rb g o c b.length p w.heap.size w1 ∧ SK w.heap.size kb B1 B2 B3 B4 w1 ∧ Hid (AFT w kb B1 B2 B3 B4 w1)) := by
    intro V hV
    have hV' := hV.nw ((Fr.refl _ V).drew)
    have hR := hV'.rf h
    refine (rsum32_any 0#32 _ (tk b p 10) V.drew ((hR.sl p 10 (by omega)).mono (fun k hk => by have := hR.lt rb hR.kr; have := hR.dr; show D ≤ k; omega))).mono ?_
    rintro e w1 ⟨rfl, h1⟩
    have hw := hV'.nw h1
    refine ⟨_, rfl, ?_, (s32 0#32 (tk b p 10)).isLt, ⟨(HAF.out w1 hw).1.1, ?_⟩, (HAF.out w1 hw).1, (HAF.out w1 hw).2, hw⟩
    · rw [← hhb]
      unfold hs sm
      rw [IntKind.wrap_u8, BitVec.toNat_ofNat]
      omega
    · rw [← hpn]; exact (hw.rf h).rd.at (p + 10) yb hyb
  have HCY : Hid (∀ V, AFT w kb B1 B2 B3 B4 V → V.cell? ⟨g, o + pn, none⟩ = some (.int .u8 yb.toNat)) := fun V hV => by rw [← hpn]; exact (hV.rf h).rd.at (p + 10) yb hyb
  have hzn1 : (pn : Int) < (b.length : Int) := by omega
  have hzn2 : (pn : Int) ≤ (c : Int) := by omega
  have hzn3 : (p : Int) ≤ (pn : Int) := by omega
  have hzn4 : pn - p = 10 := by omega
  have hzn5 : ¬ c = p := by omega
  obtain ⟨p2, hp2⟩ : ∃ p2, p + 2 = p2 := ⟨_, rfl⟩
  have hp2q : (p : Int) + 2 = (p2 : Int) := by omega
  have hzm1 : (p2 : Int) ≤ (pn : Int) := by omega
  have hzm2 : pn - p2 = 8 := by omega
  have hzm3 : ¬ c = p2 := by omega
  have htl2 : (tk b (p + 2) 8).length = 8 := tk_length _ _ _ (by omega)
  have HNU : Hid (∀ V, AFT w kb B1 B2 B3 B4 V → Calls Try.prog 51 #[.slice (some ⟨g, o + p2, none⟩) 8 (c - p2)] V fun e w1 => e = .returned (.int .u64 (le (tk b (p + 2) 8))) ∧ w1 = V) := fun V hV => by
    rw [← hp2]
    exact dnumber_any _ _ _ V ((hV.rf h).sl (p + 2) 8 (by omega)) (by rw [htl2]; decide)
  have hne : ((yb.toNat : Int) != (hb : Int)) = false := by
    rw [hyb] at q7
    have : yb = hs (tk b p 10) := Option.some.inj q7
    rw [← hhb, this]; simp
  obtain ⟨pe, hpe⟩ : ∃ pe, pn + 1 = pe := ⟨_, rfl⟩
  have hpeq : (pn : Int) + 1 = (pe : Int) := by omega
  have hpeq' : IntKind.i64.wrap (pe : Int) = (pe : Int) := by rw [IntKind.wrap_i64]; omega
  have HG : Hid (∀ V, AFT w kb B1 B2 B3 B4 V → (V.setCell ⟨rb, 1, none⟩ (.int .i64 pe)).heap[w.heap.size]? = some (.cells #[.int .i64 kb, .bool B1, .bool B2, .bool B3, .bool B4] 24) ∧ SK w.heap.size kb B1 B2 B3 B4 (V.setCell ⟨rb, 1, none⟩ (.int .i64 pe)) ∧ HK rb g o c b.length pe w.heap.size (V.setCell ⟨rb, 1, none⟩ (.int .i64 pe))) := by
    intro V hV
    obtain ⟨k1, k2⟩ := (hV.rf h).go pe (by omega)
    have hrb := h.lt rb h.kr
    have hrw := row_kept hV.2 k2 (fun hx => by omega)
    exact ⟨hrw, (HK.of k1 hrw).2, (HK.of k1 hrw).1⟩
  obtain ⟨nn, hnn⟩ : ∃ nn, le (tk b (p + 2) (10 - 2)) = nn := ⟨_, rfl⟩
  have HOK : Hid (∀ V V7, AFT w kb B1 B2 B3 B4 V → Fr (fun k => k = w.heap.size) (V.setCell ⟨rb, 1, none⟩ (.int .i64 pe)) V7 → P (.returned (.tuple #[.agg #[.int .i64 kb, .bool B1, .bool B2, .bool B3, .bool B4], .int .u64 nn, .int .i64 0, .int .i64 0])) V7) := fun V V7 hV hV7 => by
    rw [hP, hh]
    obtain ⟨j1, j2⟩ := h.goTo hV.1 pe (by omega) hV7
    refine ⟨j2, ?_⟩
    simp only [hsh, hnn]
    have e : p + 10 + 1 = pe := by omega
    rw [e]
    first | exact ⟨rfl, j1⟩ | exact ⟨trivial, j1⟩
  rw [show le (tk b (p + 2) 8) = nn from hnn] at HNU
  clear h hP hW1 hN1 hrow1 KEY HAS HBAD HBD hh hh0 hhl hy hf hd hsh hB1 hB2 hB3 hB4 q4 q5 hds HRW HSH hp1 HAS2 hcz hkb q7 hyb hhb htl htl2 hnn
  subst hB4'
  generalize b.length = L at *
  generalize y.toNat = yn at *
  generalize d.toNat = dn at *
  generalize yb.toNat = ybn at *
  go_enter Try.func48, Try.ntmps48
  go_upto_region 1 with fail
  rw [HW1.out]
  go_upto_region 15 with (first | (go_at_call 34; (with_reducible refine (HH1.out _ HN0.out).mono ?_); rintro e w1 ⟨rfl, ⟨r0, r1, r2, z0, z1, z2, z3, z4⟩, ⟨s0, s1, s2, s3, s4⟩, H1⟩; have hyc := HY.out _ H1.out) | (go_at_call 34; (with_reducible refine (HH2.out _ H1.out).mono ?_); rintro e w2 ⟨rfl, ⟨r0, r1, r2, z0, z1, z2, z3, z4⟩, ⟨s0, s1, s2, s3, s4⟩, H2⟩; have hyc2 := HY.out _ H2.out; have hdc := HDY.out _ H2.out))
  have hst : ((((w2.setCell ⟨w.heap.size, 0, none⟩ (.int .i64 kb)).setCell ⟨w.heap.size, 1, none⟩ (.bool B1)).setCell ⟨w.heap.size, 2, none⟩ (.bool B2)).setCell ⟨w.heap.size, 3, none⟩ (.bool B3)).setCell ⟨w.heap.size, 4, none⟩ (.bool true) = st5 w2 w.heap.size (.int .i64 kb) (.bool B1) (.bool B2) (.bool B3) (.bool true) := rfl
  rw [hst]
  have HA2 : Hid (AFT w kb B1 B2 B3 true (st5 w2 w.heap.size (.int .i64 kb) (.bool B1) (.bool B2) (.bool B3) (.bool true))) := HST.out w2 H2.out
  clear hst HST r0 r1 r2 z0 z1 z2 z3 z4 s0 s1 s2 s3 s4 HY HDY HH1 HH2 hyc hyc2 hdc g1 f1 f2 f32 f16 f8 f4
  generalize st5 w2 w.heap.size (.int .i64 kb) (.bool B1) (.bool B2) (.bool B3) (.bool true) = V2 at *
  obtain ⟨⟨r0, r1, r2, z0, z1, z2, z3, z4⟩, ⟨s0, s1, s2, s3, s4⟩⟩ := HAF.out _ HA2.out
  have HH3 : Hid (Calls Try.prog 34 #[.pointer (some ⟨rb, 0, none⟩), .int .u64 11] V2 fun e w1 => e = .returned (.bool true) ∧ HK rb g o c L p w.heap.size w1 ∧ SK w.heap.size kb B1 B2 B3 true w1 ∧ Hid (AFT w kb B1 B2 B3 true w1)) := HH3'.out _ HA2.out
  clear HH3'
  go_upto_region 24 with (first | (go_at_call 34; (with_reducible refine (HH3.out).mono ?_); rintro e w3 ⟨rfl, ⟨r0, r1, r2, z0, z1, z2, z3, z4⟩, ⟨s0, s1, s2, s3, s4⟩, HA3⟩; have hcy := HCY.out _ HA3.out) | (go_at_call 51; with_reducible refine (HNU.out _ HA3.out).mono ?_; rintro e w4 ⟨rfl, rfl⟩))
  have HSMd : Hid (Calls Try.prog 45 #[.int .u32 0, .slice (some ⟨g, o + p, none⟩) 10 (c - p)] (w4).drew _) := HSM.out _ HA3.out
  have kd0 : (w4).drew.cell? ⟨rb, 0, none⟩ = some (.slice (some ⟨g, o, none⟩) L c) := r0
  have kd1 : (w4).drew.cell? ⟨g, o + pn, none⟩ = some (.int .u8 ybn) := hcy
  clear HSM HCY
  go_region_held3 (fun w' => w'.cell? ⟨rb, 0, none⟩ = some (.slice (some ⟨g, o, none⟩) L c) ∧ w'.cell? ⟨g, o + pn, none⟩ = some (.int .u8 ybn))
    (first | exact ⟨r0, hcy⟩ | exact ⟨kd0, kd1⟩ | assumption)
    (first | (go_at_call 45; (with_reducible refine (HSMd.out).mono ?_); rintro e w5 ⟨q, rfl, hqw, hq32, hS5, ⟨R0, R1, R2, Z0, Z1, Z2, Z3, Z4⟩, ⟨S0, S1, S2, S3, S4⟩, HA5⟩))
  clear r0 r1 r2 z0 z1 z2 z3 z4 s0 s1 s2 s3 s4 kd0 kd1 hcy HSMd
  obtain ⟨hg1, ⟨T0, T1, T2, T3, T4⟩, ⟨U0, U1, U2, Y0, Y1, Y2, Y3, Y4⟩⟩ := HG.out w5 HA5.out
  have HG1 : Hid _ := hg1
  have HOK5 : Hid (∀ V7, Fr (fun k => k = w.heap.size) (w5.setCell ⟨rb, 1, none⟩ (.int .i64 pe)) V7 → P (.returned (.tuple #[.agg #[.int .i64 kb, .bool B1, .bool B2, .bool B3, .bool true], .int .u64 nn, .int .i64 0, .int .i64 0])) V7) := fun V7 => HOK.out w5 V7 HA5.out
  clear hg1 HG HOK
  go_upto_region 27 with fail
  generalize w5.setCell ⟨rb, 1, none⟩ (.int .i64 pe) = V6 at *
  go_wp2_with fail
  (try simp only [Exit.inBlock, Exit.then])
  refine hret w.heap.size rfl (st5_row HG1.out _ _ _ _ _) rfl rfl (HOK5.out _ ?_)
  exact st5_fr _ _ _ _ _ _ _
/-- headed. -/
theorem eheaded_any (h : RfI D rb g o c b most p out K w) : Calls Try.prog 48 #[.pointer (some ⟨rb, 0, none⟩)] w (EHd D rb g o c b most out K w (headF b p)) := by
  cases hy : b[p]? with
  | none => exact eheaded_A h hy
  | some y =>
    by_cases q1 : y.toNat / 64 = 1
    · by_cases q2 : y.toNat / 2 % 2 = 1
      · exact eheaded_B2 h y hy q1 q2
      · by_cases q3 : y.toNat % 2 = 1
        · exact eheaded_B3 h y hy q1 (by omega) q3
        · have q2' : y.toNat / 2 % 2 = 0 := by omega
          have q3' : y.toNat % 2 = 0 := by omega
          cases hd : b[p + 1]? with
          | none => exact eheaded_C h y hy q1 q2' q3' hd
          | some d =>
            by_cases q4 : d.toNat / 128 = 1 ∨ d.toNat % 16 ≠ 0
            · exact eheaded_D1 h y hy q1 q2' q3' d hd q4
            · by_cases q5 : d.toNat / 16 < 4
              · exact eheaded_D2 h y hy q1 q2' q3' d hd q4 q5
              · cases hcz : decide (y.toNat / 2 ^ 3 % 2 = 1) with
                | false =>
                  by_cases q6 : b.length < p + 3
                  · exact eheaded_En h y hy q1 q2' q3' d hd q4 q5 hcz q6
                  · by_cases q7 : b[p + 2]? = some (hs (tk b p 2))
                    · exact eheaded_Gn h y hy q1 q2' q3' d hd q4 q5 hcz (by omega) q7
                    · exact eheaded_Fn h y hy q1 q2' q3' d hd q4 q5 hcz (by omega) q7
                | true =>
                  by_cases q6 : b.length < p + 11
                  · exact eheaded_Es h y hy q1 q2' q3' d hd q4 q5 hcz q6
                  · by_cases q7 : b[p + 10]? = some (hs (tk b p 10))
                    · exact eheaded_Gs h y hy q1 q2' q3' d hd q4 q5 hcz (by omega) q7
                    · exact eheaded_Fs h y hy q1 q2' q3' d hd q4 q5 hcz (by omega) q7
    · exact eheaded_B1 h y hy q1
end Go.Proofs.Ytdeefemeiggolaa

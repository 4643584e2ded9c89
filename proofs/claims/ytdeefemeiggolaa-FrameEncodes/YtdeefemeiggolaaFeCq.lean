import Derived.Test.YtdeefemeiggolaaFeBq
namespace Go.Proofs.Ytdeefemeiggolaa
open Go.RowKit
set_option linter.unusedVariables false
/-! ### The document's head -/
theorem lows_magic : lows 407708164 4 = [4#8, 34#8, 77#8, 24#8] := by decide
theorem dhead_tail (w : World) (P : Ending → World → Prop) (hd : List By) (hl : hd.length ≤ 10) (hP : ∀ a l c V, Mine (fun k => k < w.heap.size) (.slice a l c) (lows 407708164 4 ++ (hd ++ [hs hd])) V → Fr (fun k => ¬ k < w.heap.size) w V → P (.returned (.slice a l c)) V)
    (V : World) (a : Option Addr) (l c : Nat) (hM : Mine (fun k => k < w.heap.size) (.slice a l c) hd V) (hF : Fr (fun k => ¬ k < w.heap.size) w V) :
    Hid (Calls Try.prog 45 #[.int .u32 0, .slice a l c] V fun e w3 => ∃ q : Nat, e = .returned (.int .u32 q) ∧ q < 4294967296 ∧ ∃ a4 l4 c4 W4, Hid (∀ ty, (Builtin.append_ #[22, 22] ty #[.slice a l c, .slice (some ⟨w3.heap.size, 0, none⟩) 1 1]).run Try.prog (w3.alloc (.cells #[.int .u8 (IntKind.u8.wrap ((q : Int) / 256))] 5)) = .ok (.slice a4 l4 c4) W4) ∧ ∃ a5 l5 c5 W5, Hid (∀ ty, (Builtin.append_ #[22, 22] ty #[.slice (some ⟨W4.heap.size, 0, none⟩) 4 4, .slice a4 l4 c4]).run Try.prog (W4.alloc (.cells #[.int .u8 4, .int .u8 34, .int .u8 77, .int .u8 24] 5)) = .ok (.slice a5 l5 c5) W5) ∧ Hid (P (.returned (.slice a5 l5 c5)) W5)) := by
  show Calls _ _ _ _ _
  refine (rsum32_any 0#32 _ hd V hM.old).mono ?_
  rintro e w3 ⟨rfl, hN3⟩
  refine ⟨sm hd, rfl, sm_lt hd, ?_⟩
  have hq := sm_lt hd
  have hF3 : Fr (fun k => ¬ k < w.heap.size) w w3 := hF.trans hN3.any
  have hx : IntKind.u8.wrap ((sm hd : Int) / 256) = ((hs hd).toNat : Int) := by
    rw [IntKind.wrap_u8]; unfold hs; rw [BitVec.toNat_ofNat]; omega
  obtain ⟨a', c', v', W4, e1, HAP, HN⟩ := mine_step (fun k => k < w.heap.size) _ w3 (fun k hk => Nat.lt_of_lt_of_le hk hF3.size) _ (hM.nw hN3) (by omega) (hs hd) _ hx
  obtain ⟨a4, c4, rfl, _, _⟩ := HN.out.1.sl.form
  rw [← e1] at HAP
  refine ⟨a4, _, c4, W4, HAP, ?_⟩
  have hF4 := hF3.trans HN.out.2
  have hK4 : ∀ k, k < w.heap.size → k < W4.heap.size := fun k hk => Nat.lt_of_lt_of_le hk hF4.size
  have hM5 := own_four W4 (fun k => k < w.heap.size) 4#8 34#8 77#8 24#8 hK4
  have hN5 : Nw W4 (W4.alloc (.cells #[.int .u8 (4#8).toNat, .int .u8 (34#8).toNat, .int .u8 (77#8).toNat, .int .u8 (24#8).toNat] 5)) := (Fr.refl _ _).alloc _
  obtain ⟨v5, W5, hap5, hM6, hF6⟩ := mine_app (fun k => k < w.heap.size) _ (fun k hk => Nat.lt_of_lt_of_le (hK4 k hk) hN5.size) _ _ hM5 _ _ ((HN.out.1.nw hN5).old.mono (fun _ h => h.elim)) (by simp; omega)
  obtain ⟨a5, c5, rfl, _, _⟩ := hM6.sl.form
  refine ⟨a5, _, c5, W5, hap5, ?_⟩
  show P _ _
  refine hP _ _ _ _ ?_ ((hF4.trans hN5.any).trans hF6)
  rw [lows_magic]; exact hM6
set_option maxHeartbeats 16000000 in
set_option maxRecDepth 100000 in
theorem dhead_any (w : World) (s : Shp) (hs1 : 4 ≤ s.block) (hs2 : s.block ≤ 7) (n : Nat) (hn : n ≤ 4194304) : Calls Try.prog 44 #[.agg #[.int .i64 s.block, .bool s.alone, .bool s.bsum, .bool s.csum, .bool s.csize], .int .i64 n] w fun e w' => ∃ a l c, e = .returned (.slice a l c) ∧ Mine (fun k => k < w.heap.size) (.slice a l c) (lows 407708164 4 ++ fhead s n) w' ∧ Nw w w' := by
  obtain ⟨P, hP⟩ : ∃ P : Ending → World → Prop, P = fun e w' => ∃ a l c, e = .returned (.slice a l c) ∧ Mine (fun k => k < w.heap.size) (.slice a l c) (lows 407708164 4 ++ fhead s n) w' ∧ Nw w w' := ⟨_, rfl⟩
  rw [← hP]
  have hl : (fhd s n).length ≤ 10 := by
    unfold fhd
    split <;> simp [lows_length]
  have TAIL := dhead_tail w P (fhd s n) hl (fun a l c V h1 h2 => by rw [hP]; exact ⟨a, l, c, rfl, h1, h2.mono (fun k hk => .inr (by omega))⟩)
  clear hP
  obtain ⟨W1, hW1⟩ : ∃ W1, w.alloc (.cells #[.int .i64 s.block, .bool s.alone, .bool s.bsum, .bool s.csum, .bool s.csize] 24) = W1 := ⟨_, rfl⟩
  have hrow : W1.heap[w.heap.size]? = some (.cells #[.int .i64 s.block, .bool s.alone, .bool s.bsum, .bool s.csum, .bool s.csize] 24) := by
    rw [← hW1]
    show (w.heap.push _)[w.heap.size]? = _
    rw [Array.getElem?_push_size]
  have hN1 : Nw w W1 := by rw [← hW1]; exact (Fr.refl _ _).alloc _
  obtain ⟨y4, hy4⟩ : ∃ y4, flI s 4 = y4 := ⟨_, rfl⟩
  obtain ⟨z, hz⟩ : ∃ z, 16 * s.block = z := ⟨_, rfl⟩
  have hy4l : y4 < 256 := by have := flI_lt s 4; omega
  have hzl : z < 256 := by omega
  obtain ⟨V2, hV2⟩ : ∃ V2, W1.drew.alloc (.cells #[.int .u8 (y4 : Int), .int .u8 (z : Int)] 5) = V2 := ⟨_, rfl⟩
  have hN2 : Nw W1.drew V2 := by rw [← hV2]; exact (Fr.refl _ _).alloc _
  have hM2 : Mine (fun k => k < w.heap.size) (.slice (some ⟨W1.heap.size, 0, none⟩) 2 2) [BitVec.ofNat 8 (flI s 4), BitVec.ofNat 8 (16 * s.block)] V2 := by
    have := own_two W1.drew (fun k => k < w.heap.size) (BitVec.ofNat 8 (flI s 4)) (BitVec.ofNat 8 (16 * s.block)) (fun k hk => Nat.lt_of_lt_of_le hk hN1.size)
    have e1 : ((BitVec.ofNat 8 (flI s 4)).toNat : Int) = (y4 : Int) := by rw [BitVec.toNat_ofNat, hy4]; omega
    have e2 : ((BitVec.ofNat 8 (16 * s.block)).toNat : Int) = (z : Int) := by rw [BitVec.toNat_ofNat, hz]; omega
    rw [e1, e2, hV2] at this
    exact this
  have hNV : Nw w V2 := hN1.drew.trans hN2
  have HV2 : Hid ((W1.alloc (.cells #[.int .u8 (y4 : Int), .int .u8 (z : Int)] 5)).drew = V2) := hV2
  have HC : Hid (s.csize = true → Calls Try.prog 28 #[.int .u64 n, .int .i64 8] V2 fun e w3 => ∃ a l c, e = .returned (.slice a l c) ∧ ∃ a4 l4 c4 W4, Hid (∀ ty, (Builtin.append_ #[22, 22] ty #[.slice (some ⟨W1.heap.size, 0, none⟩) 2 2, .slice a l c]).run Try.prog w3 = .ok (.slice a4 l4 c4) W4) ∧ Mine (fun k => k < w.heap.size) (.slice a4 l4 c4) (fhd s n) W4 ∧ Fr (fun k => ¬ k < w.heap.size) w W4) := by
    intro hcs
    refine (dlow_any V2 n 8 (by omega) (by decide)).mono ?_
    rintro e w3 ⟨a, l, c, rfl, hM3, hN3⟩
    refine ⟨a, l, c, rfl, ?_⟩
    have h3 := hNV.trans hN3
    obtain ⟨v4, W4, hap, hM4, hF4⟩ := mine_app (fun k => k < w.heap.size) w3 (fun k hk => Nat.lt_of_lt_of_le hk h3.size) _ _ (hM2.nw hN3) _ _ (hM3.old.mono (fun _ h => h.elim)) (by simp [lows_length])
    obtain ⟨a4, c4, rfl, _, _⟩ := hM4.sl.form
    refine ⟨a4, _, c4, W4, hap, ?_, h3.any.trans hF4⟩
    unfold fhd; rw [if_pos hcs]; exact hM4
  have HD : Hid (s.csize = false → Mine (fun k => k < w.heap.size) (.slice (some ⟨W1.heap.size, 0, none⟩) 2 2) (fhd s n) V2 ∧ Fr (fun k => ¬ k < w.heap.size) w V2) := by
    intro hcs
    refine ⟨?_, hNV.any⟩
    unfold fhd; rw [if_neg (by rw [hcs]; decide), List.append_nil]; exact hM2
  have HTL : Hid (∀ (V : World) (a : Option Addr) (l c : Nat), Mine (fun k => k < w.heap.size) (.slice a l c) (fhd s n) V → Fr (fun k => ¬ k < w.heap.size) w V → _) := TAIL
  have KEY : Hid (∀ V, Nw W1 V → V.cell? ⟨w.heap.size, 0, none⟩ = some (.int .i64 s.block) ∧ V.cell? ⟨w.heap.size, 1, none⟩ = some (.bool s.alone) ∧ V.cell? ⟨w.heap.size, 2, none⟩ = some (.bool s.bsum) ∧ V.cell? ⟨w.heap.size, 3, none⟩ = some (.bool s.csum) ∧ V.cell? ⟨w.heap.size, 4, none⟩ = some (.bool s.csize)) := fun V hV => ⟨hV.cell (row_cell hrow 0 _ rfl).1, hV.cell (row_cell hrow 1 _ rfl).1, hV.cell (row_cell hrow 2 _ rfl).1, hV.cell (row_cell hrow 3 _ rfl).1, hV.cell (row_cell hrow 4 _ rfl).1⟩
  have k0 := KEY.out _ (Fr.refl _ _)
  have k1 := KEY.out _ (Fr.refl _ _).drew
  have HKO : Hid (∀ o, _) := fun o => KEY.out ((W1.alloc o).drew) ((Fr.refl _ W1).alloc o).drew
  have k2 := KEY.out V2 ((Fr.refl _ W1).drew.trans hN2)
  have HFL : Hid (∀ (x : Bool) (m : Nat) (V : World), Calls Try.prog 60 #[.bool x, .int .u8 m] V fun e w' => e = .returned (.int .u8 (if x = true then m else 0 : Nat)) ∧ w' = V) := fun x m V => dflag_any V x m
  obtain ⟨x1, hx1⟩ : ∃ x1, (if s.alone = true then 32 else 0 : Nat) = x1 := ⟨_, rfl⟩
  obtain ⟨x2, hx2⟩ : ∃ x2, (if s.bsum = true then 16 else 0 : Nat) = x2 := ⟨_, rfl⟩
  obtain ⟨x3, hx3⟩ : ∃ x3, (if s.csize = true then 8 else 0 : Nat) = x3 := ⟨_, rfl⟩
  obtain ⟨x4, hx4⟩ : ∃ x4, (if s.csum = true then 4 else 0 : Nat) = x4 := ⟨_, rfl⟩
  have HF1 : Hid (∀ V, Calls Try.prog 60 #[.bool s.alone, .int .u8 32] V fun e w' => e = .returned (.int .u8 x1) ∧ w' = V) := fun V => by have := HFL.out s.alone 32 V; rw [hx1] at this; exact this
  have HF2 : Hid (∀ V, Calls Try.prog 60 #[.bool s.bsum, .int .u8 16] V fun e w' => e = .returned (.int .u8 x2) ∧ w' = V) := fun V => by have := HFL.out s.bsum 16 V; rw [hx2] at this; exact this
  have HF3 : Hid (∀ V, Calls Try.prog 60 #[.bool s.csize, .int .u8 8] V fun e w' => e = .returned (.int .u8 x3) ∧ w' = V) := fun V => by have := HFL.out s.csize 8 V; rw [hx3] at this; exact this
  have HF4 : Hid (∀ V, Calls Try.prog 60 #[.bool s.csum, .int .u8 4] V fun e w' => e = .returned (.int .u8 x4) ∧ w' = V) := fun V => by have := HFL.out s.csum 4 V; rw [hx4] at this; exact this
  have hfl : 64 + x1 + x2 + x3 + x4 = y4 := by
    rw [← hx1, ← hx2, ← hx3, ← hx4, ← hy4]; unfold flI; simp
  obtain ⟨y1, hy1⟩ : ∃ y1, 64 + x1 = y1 := ⟨_, rfl⟩
  obtain ⟨y2, hy2⟩ : ∃ y2, y1 + x2 = y2 := ⟨_, rfl⟩
  obtain ⟨y3, hy3⟩ : ∃ y3, y2 + x3 = y3 := ⟨_, rfl⟩
  have q1 : (64 : Int) + (x1 : Int) = (y1 : Int) := by omega
  have q2 : (y1 : Int) + (x2 : Int) = (y2 : Int) := by omega
  have q3 : (y2 : Int) + (x3 : Int) = (y3 : Int) := by omega
  have q4 : (y3 : Int) + (x4 : Int) = (y4 : Int) := by omega
  have b1 : y1 < 256 := by omega
  have b2 : y2 < 256 := by omega
  have b3 : y3 < 256 := by omega
  obtain ⟨bk, hbk⟩ : ∃ bk, s.block = bk := ⟨_, rfl⟩
  rw [hbk] at hz k0 k1 k2 HKO
  have hbk7 : bk ≤ 7 := by omega
  have q5 : (16 : Int) * (bk : Int) = (z : Int) := by omega
  have v1 : IntKind.u8.wrap (y1 : Int) = (y1 : Int) := by rw [IntKind.wrap_u8]; omega
  have v2 : IntKind.u8.wrap (y2 : Int) = (y2 : Int) := by rw [IntKind.wrap_u8]; omega
  have v3 : IntKind.u8.wrap (y3 : Int) = (y3 : Int) := by rw [IntKind.wrap_u8]; omega
  have v4 : IntKind.u8.wrap (y4 : Int) = (y4 : Int) := by rw [IntKind.wrap_u8]; omega
  have v5 : IntKind.u8.wrap (z : Int) = (z : Int) := by rw [IntKind.wrap_u8]; omega
  have v6 : IntKind.i64.wrap (z : Int) = (z : Int) := by rw [IntKind.wrap_i64]; omega
  have HW1 : Hid (w.alloc (.cells #[.int .i64 bk, .bool s.alone, .bool s.bsum, .bool s.csum, .bool s.csize] 24) = W1) := by show _ = _; rw [← hbk]; exact hW1
  rw [hbk]
  clear hx1 hx2 hx3 hx4 hfl hy1 hy2 hy3 hy4 hz hV2 hM2 hNV hN2 hrow hW1 HFL TAIL KEY hl hbk hs1 hs2 hN1
  generalize s.alone = al at *
  generalize s.bsum = bs at *
  generalize s.csum = cs at *
  obtain ⟨cz, hcz⟩ : ∃ cz, s.csize = cz := ⟨_, rfl⟩
  rw [hcz] at HC HD HF3 HW1 k0 k1 k2 HKO ⊢
  clear hcz
  generalize fhd s n = hd at *
  go_enter Try.func44, Try.ntmps44
  go_upto_region 1 with fail
  rw [HW1.out]
  go_region_held3 (fun w' => w'.cell? ⟨w.heap.size, 0, none⟩ = some (.int .i64 bk) ∧ w'.cell? ⟨w.heap.size, 1, none⟩ = some (.bool al) ∧ w'.cell? ⟨w.heap.size, 2, none⟩ = some (.bool bs) ∧ w'.cell? ⟨w.heap.size, 3, none⟩ = some (.bool cs) ∧ w'.cell? ⟨w.heap.size, 4, none⟩ = some (.bool cz))
    (first | assumption | exact HKO.out _)
    (first
      | (go_at_call 60; with_reducible refine (HF1.out _).mono ?_; rintro e w3 ⟨rfl, rfl⟩)
      | (go_at_call 60; with_reducible refine (HF2.out _).mono ?_; rintro e w3 ⟨rfl, rfl⟩)
      | (go_at_call 60; with_reducible refine (HF3.out _).mono ?_; rintro e w3 ⟨rfl, rfl⟩)
      | (go_at_call 60; with_reducible refine (HF4.out _).mono ?_; rintro e w3 ⟨rfl, rfl⟩))
  rw [HV2.out]
  obtain ⟨c0, c1, c2, c3, c4⟩ := k2
  have hnn : IntKind.u64.wrap (n : Int) = (n : Int) := by rw [IntKind.wrap_u64]; omega
  cases cz with
  | true =>
    have HC' := HC.out rfl
    have HC2 : Hid (Calls Try.prog 28 #[.int .u64 n, .int .i64 8] V2 fun e w3 => ∃ a l c, e = .returned (.slice a l c) ∧ ∃ a4 l4 c4 W4, Hid (∀ ty, (Builtin.append_ #[22, 22] ty #[.slice (some ⟨W1.heap.size, 0, none⟩) 2 2, .slice a l c]).run Try.prog w3 = .ok (.slice a4 l4 c4) W4) ∧ Hid (Mine (fun k => k < w.heap.size) (.slice a4 l4 c4) hd W4 ∧ Fr (fun k => ¬ k < w.heap.size) w W4)) := HC'
    clear HC' HC HD HKO
    go_wp2_with (first | (go_at_call 28; with_reducible refine HC2.out.mono ?_; rintro e w3 ⟨a3, l3, c3', rfl, a4, l4, c4', W4, HAP4, HM4⟩) | (at_builtin; refine Lib.wpList_append_run _ rfl _ _ 22 22 rfl (.slice (some ⟨W1.heap.size, 0, none⟩) 2 2) (.slice a3 l3 c3') (by simp [Act.eval]) (by simp [Act.eval]) _ _ (HAP4.out _) ?_))
    have HT := HTL.out W4 a4 l4 c4' HM4.out.1 HM4.out.2
    go_wp2_with (first | (go_at_call 45; with_reducible refine HT.out.mono ?_; rintro e w5 ⟨q, rfl, hq, a6, l6, c6, W6, HAP6, a7, l7, c7, W7, HAP7, HF⟩) | (at_builtin; refine Lib.wpList_append_run _ rfl _ _ 22 22 rfl (.slice a4 l4 c4') (.slice (some ⟨w5.heap.size, 0, none⟩) 1 1) (by simp [Act.eval]) (by simp [Act.eval]) _ _ (HAP6.out _) ?_) | (at_builtin; refine Lib.wpList_append_run _ rfl _ _ 22 22 rfl (.slice (some ⟨W6.heap.size, 0, none⟩) 4 4) (.slice a6 l6 c6) (by simp [Act.eval]) (by simp [Act.eval]) _ _ (HAP7.out _) ?_))
    exact HF.out
  | false =>
    have HM4 : Hid (Mine (fun k => k < w.heap.size) (.slice (some ⟨W1.heap.size, 0, none⟩) 2 2) hd V2 ∧ Fr (fun k => ¬ k < w.heap.size) w V2) := HD.out rfl
    clear HC HD HKO
    have HT := HTL.out V2 _ _ _ HM4.out.1 HM4.out.2
    go_wp2_with (first | (go_at_call 45; with_reducible refine HT.out.mono ?_; rintro e w5 ⟨q, rfl, hq, a6, l6, c6, W6, HAP6, a7, l7, c7, W7, HAP7, HF⟩) | (at_builtin; refine Lib.wpList_append_run _ rfl _ _ 22 22 rfl (.slice (some ⟨W1.heap.size, 0, none⟩) 2 2) (.slice (some ⟨w5.heap.size, 0, none⟩) 1 1) (by simp [Act.eval]) (by simp [Act.eval]) _ _ (HAP6.out _) ?_) | (at_builtin; refine Lib.wpList_append_run _ rfl _ _ 22 22 rfl (.slice (some ⟨W6.heap.size, 0, none⟩) 4 4) (.slice a6 l6 c6) (by simp [Act.eval]) (by simp [Act.eval]) _ _ (HAP7.out _) ?_))
    exact HF.out
end Go.Proofs.Ytdeefemeiggolaa

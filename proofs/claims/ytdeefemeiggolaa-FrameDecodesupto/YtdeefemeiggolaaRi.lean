import Derived.Test.YtdeefemeiggolaaRh
namespace Go.Proofs.Ytdeefemeiggolaa
open Go.RowKit
set_option linter.unusedVariables false
variable {D rb g o c : Nat} {b : List By} {most p : Nat} {out : List By} {K : Nat → Prop} {w : World} {fb : Nat} {f : Fm} {s : Shp} {ao : Option Addr} {ko : Nat} {W1 : World}
set_option maxHeartbeats 16000000 in
set_option maxRecDepth 100000 in
theorem eblock_L7t (B : BS D rb g o c b most p out K w fb f s ao ko W1) (hW1 : w.alloc (.cells #[.int .i64 s.block, .bool s.alone, .bool s.bsum, .bool s.csum, .bool s.csize] 24) = W1) (began : Nat) (q1 : ¬ b.length < p + 4) (q2 : ¬ le (tk b p 4) = 0) (q3 : ¬ siz s < le (tk b p 4) % 2147483648) (q4 : ¬ b.length < p + 4 + le (tk b p 4) % 2147483648 + bs s) (hzb : s.bsum = true) (q5 : le (tk b (p + 4 + le (tk b p 4) % 2147483648) 4) = sm (tk b (p + 4) (le (tk b p 4) % 2147483648))) (q7 : 2147483648 ≤ le (tk b p 4)) (q8 : ¬ most - out.length < le (tk b p 4) % 2147483648) (q9 : ¬ c = p + 4) :
    Calls Try.prog 49 #[.pointer (some ⟨rb, 0, none⟩), .agg #[.int .i64 s.block, .bool s.alone, .bool s.bsum, .bool s.csum, .bool s.csize], .pointer (some ⟨fb, 0, none⟩), .int .i64 began] w (EBk D rb g o c b most p out K w fb f (blockF b most s began p out)) := by
  obtain ⟨P, hP⟩ : ∃ P : Ending → World → Prop, P = EBk D rb g o c b most p out K w fb f (blockF b most s began p out) := ⟨_, rfl⟩
  rw [← hP]
  have hbl := B.h.bl
  have hpl := B.h.pl
  have hcb := B.h.hc
  have hc2 := B.h.hc2
  have hol := B.h.ol
  have hml := B.h.ml
  have HW1 : Hid (w.alloc (.cells #[.int .i64 s.block, .bool s.alone, .bool s.bsum, .bool s.csum, .bool s.csize] 24) = W1) := hW1
  have HBAD : Hid (∀ (a y : Nat) V, blockF b most s began p out = .bad a y → Nw W1 V → P (.returned (.tuple #[.bool false, .int .i64 a, .int .i64 y])) V) := fun a y V h1 h2 => by
    rw [hP, h1]; exact ⟨(B.hN1.trans h2).any, rfl⟩
  have HSH := B.short
  have HSZ := B.size
  have hZ4 := B.siz_le
  have HN0 : Hid (Nw W1 W1) := Fr.refl _ _
  obtain ⟨⟨r0, r1, r2⟩, ⟨r3, r4⟩, ⟨r5, r6⟩, ⟨s0, s1, s2, s3, s4⟩⟩ := B.bf (Fr.refl _ W1)
  have hpre : blockF b most s began p out = .ok (p + 4 + le (tk b p 4) % 2147483648 + bs s) (out ++ tk b (p + 4) (le (tk b p 4) % 2147483648)) true := by unfold blockF; rw [if_neg q1, if_neg q2, if_neg q3, if_neg q4, if_neg (fun hx => hx.2 q5), if_pos q7, if_neg q8]
  obtain ⟨p4, hp4⟩ : ∃ p4, p + 4 = p4 := ⟨_, rfl⟩
  have hp4q : (p : Int) + 4 = (p4 : Int) := by omega
  have hz1 : (p4 : Int) ≤ (c : Int) := by omega
  have hz2 : (p : Int) ≤ (p4 : Int) := by omega
  have hz3 : p4 - p = 4 := by omega
  have hz4 : ¬ c = p := by omega
  have hz5 : p4 ≤ c := by omega
  have hz6 : p ≤ p4 := by omega
  have hz7 : IntKind.i64.wrap (p4 : Int) = (p4 : Int) := by rw [IntKind.wrap_i64]; omega
  have hz8 : (0 : Int) ≤ (p : Int) := by omega
  have hNl : le (tk b p 4) < 4294967296 := by have := le_lt (tk b p 4); rw [tk_length _ _ _ (by omega)] at this; exact this
  have HH1 := B.has 4 4 rfl (by decide) true (decide_eq_true (by omega))
  have HNU := B.num (by omega)
  obtain ⟨N, hNe⟩ : ∃ N, le (tk b p 4) = N := ⟨_, rfl⟩
  rw [hNe] at hNl HNU
  rw [hNe] at q2 q3 q4 q7 q8 hpre q5
  obtain ⟨m, hm⟩ : ∃ m, N % 2147483648 = m := ⟨_, rfl⟩
  have hmq : (N : Int) % 2147483648 = (m : Int) := by omega
  have hmt : Int.tmod (N : Int) 2147483648 = (m : Int) := by rw [Int.tmod_eq_emod_of_nonneg (by omega)]; omega
  have hN0 : ¬ (N : Int) = 0 := by omega
  have hZw : IntKind.u64.wrap ((siz s : Nat) : Int) = ((siz s : Nat) : Int) := by rw [IntKind.wrap_u64]; omega
  rw [hm] at q3 q4 q8 hpre q5
  have q3' : ¬ ((siz s : Nat) : Int) < (m : Int) := by omega
  have hbs : bs s = 4 := by unfold bs; rw [hzb]; rfl
  rw [hbs] at q4
  obtain ⟨m4, hm4⟩ : ∃ m4, 4 + m = m4 := ⟨_, rfl⟩
  have hm4q : (4 : Int) + (m : Int) = (m4 : Int) := by omega
  have hm4w : IntKind.u64.wrap (m4 : Int) = (m4 : Int) := by rw [IntKind.wrap_u64]; omega
  obtain ⟨ms, hms⟩ : ∃ ms, m4 + 4 = ms := ⟨_, rfl⟩
  have hmsq : (m4 : Int) + 4 = (ms : Int) := by omega
  have hmsw : IntKind.u64.wrap (ms : Int) = (ms : Int) := by rw [IntKind.wrap_u64]; omega
  have HH4 := B.has ms _ rfl (by omega) true (decide_eq_true (by omega))
  have hmw : IntKind.i64.wrap (m : Int) = (m : Int) := by rw [IntKind.wrap_i64]; omega
  obtain ⟨pm, hpm⟩ : ∃ pm, p4 + m = pm := ⟨_, rfl⟩
  have hpmq : (p4 : Int) + (m : Int) = (pm : Int) := by omega
  have hpmw : IntKind.i64.wrap (pm : Int) = (pm : Int) := by rw [IntKind.wrap_i64]; omega
  have hy1 : (pm : Int) ≤ (c : Int) := by omega
  have hy2 : (p4 : Int) ≤ (pm : Int) := by omega
  have hy3 : pm - p4 = m := by omega
  have hy4 : (0 : Int) ≤ (p4 : Int) := by omega
  obtain ⟨pm4, hpm4⟩ : ∃ pm4, pm + 4 = pm4 := ⟨_, rfl⟩
  have hx1q : (pm : Int) + 4 = (pm4 : Int) := by omega
  have hx1 : (pm4 : Int) ≤ (c : Int) := by omega
  have hx2 : (pm : Int) ≤ (pm4 : Int) := by omega
  have hx3 : pm4 - pm = 4 := by omega
  have hx4 : ¬ c = pm := by omega
  have HN2 : Hid (∀ V, Nw W1 V → Calls Try.prog 51 #[.slice (some ⟨g, o + pm, none⟩) 4 (c - pm)] V fun e w1 => e = .returned (.int .u64 (le (tk b pm 4))) ∧ w1 = V) := fun V hV => dnumber_any _ _ _ V ((B.rf hV).sl pm 4 (by omega)) (by rw [tk_length _ _ _ (by omega)]; decide)
  have HS2 : Hid (∀ V, Nw W1 V → Calls Try.prog 45 #[.int .u32 0, .slice (some ⟨g, o + p4, none⟩) m (c - p4)] V fun e w1 => e = .returned (.int .u32 (sm (tk b p4 m))) ∧ BF rb fb w.heap.size g o c b.length p most ao out.length ko f.blocks s w1 ∧ Hid (Nw W1 w1)) := by
    intro V hV
    have hR := B.rf hV
    refine (rsum32_any 0#32 _ (tk b p4 m) V ((hR.sl p4 m (by omega)).mono (fun k hk => by have := hR.lt rb hR.kr; have := hR.dr; show D ≤ k; omega))).mono ?_
    rintro e w1 ⟨rfl, h1⟩
    exact ⟨rfl, B.bf (hV.trans h1), hV.trans h1⟩
  obtain ⟨Q, hQ⟩ : ∃ Q, le (tk b pm 4) = Q := ⟨_, rfl⟩
  obtain ⟨SM, hSM⟩ : ∃ SM, sm (tk b p4 m) = SM := ⟨_, rfl⟩
  have hSl : SM < 4294967296 := by rw [← hSM]; exact sm_lt _
  have hSw : IntKind.u64.wrap (SM : Int) = (SM : Int) := by rw [IntKind.wrap_u64]; omega
  rw [hQ] at HN2
  rw [hSM] at HS2
  rw [← hp4] at hSM
  rw [hp4, hpm, ← hp4, hQ, hSM] at q5
  have hne : ((Q : Int) != (SM : Int)) = false := by simp; omega
  have hy5 : ¬ c = p4 := by omega
  have q7' : (2147483648 : Int) ≤ (N : Int) := by omega
  obtain ⟨lf, hlf⟩ : ∃ lf, most - out.length = lf := ⟨_, rfl⟩
  have hlfq : (most : Int) - (out.length : Int) = (lf : Int) := by omega
  have hlfw : IntKind.i64.wrap (lf : Int) = (lf : Int) := by rw [IntKind.wrap_i64]; omega
  rw [hlf] at q8
  have hb1 := B.hb1
  have hb2 := B.hb2
  have hzB : (f.blocks : Int) + 1 = ((f.blocks + 1 : Nat) : Int) := by omega
  have hzBw : IntKind.i64.wrap ((f.blocks + 1 : Nat) : Int) = ((f.blocks + 1 : Nat) : Int) := by rw [IntKind.wrap_i64]; omega
  have KBF : Hid (∀ V, Nw W1 V → BF rb fb w.heap.size g o c b.length p most ao out.length ko f.blocks s V) := fun V hV => B.bf hV
  have q8' : ¬ (lf : Int) < (m : Int) := by omega
  have hzP : (f.plain : Int) + 1 = ((f.plain + 1 : Nat) : Int) := by omega
  have hzPw : IntKind.i64.wrap ((f.plain + 1 : Nat) : Int) = ((f.plain + 1 : Nat) : Int) := by rw [IntKind.wrap_i64]; omega
  obtain ⟨pe, hpe⟩ : ∃ pe, pm + 4 = pe := ⟨_, rfl⟩
  have hpeq : (pm : Int) + 4 = (pe : Int) := by omega
  have hpew : IntKind.i64.wrap (pe : Int) = (pe : Int) := by rw [IntKind.wrap_i64]; omega
  have hfl := B.hf.lt
  rw [hp4, hpm, hbs, hpe] at hpre
  have htl : (tk b p4 m).length = m := tk_length _ _ _ (by omega)
  have HF : Hid (∀ V, Nw W1 V → (V.setCell ⟨fb, 9, none⟩ (.int .i64 ((f.blocks + 1 : Nat) : Int))).cell? ⟨fb, 10, none⟩ = some (.int .i64 f.plain) ∧ (V.setCell ⟨fb, 9, none⟩ (.int .i64 ((f.blocks + 1 : Nat) : Int))).frozen? ⟨fb, 10, none⟩ = false ∧ ((V.setCell ⟨fb, 9, none⟩ (.int .i64 ((f.blocks + 1 : Nat) : Int))).setCell ⟨fb, 10, none⟩ (.int .i64 ((f.plain + 1 : Nat) : Int))).cell? ⟨rb, 3, none⟩ = some (.slice ao out.length ko) ∧ ∀ u, Sl (fun _ => False) u (tk b p4 m) ((V.setCell ⟨fb, 9, none⟩ (.int .i64 ((f.blocks + 1 : Nat) : Int))).setCell ⟨fb, 10, none⟩ (.int .i64 ((f.plain + 1 : Nat) : Int))) → ∃ a2 l2 k2 W x, W.cell? ⟨rb, 3, none⟩ = some x ∧ W.frozen? ⟨rb, 3, none⟩ = false ∧ Hid (∀ ty, (Builtin.append_ #[22, 22] ty #[.slice ao out.length ko, u]).run Try.prog ((V.setCell ⟨fb, 9, none⟩ (.int .i64 ((f.blocks + 1 : Nat) : Int))).setCell ⟨fb, 10, none⟩ (.int .i64 ((f.plain + 1 : Nat) : Int))) = .ok (.slice a2 l2 k2) W) ∧ (∃ y, (W.setCell ⟨rb, 3, none⟩ (.slice a2 l2 k2)).cell? ⟨rb, 1, none⟩ = some y) ∧ (W.setCell ⟨rb, 3, none⟩ (.slice a2 l2 k2)).frozen? ⟨rb, 1, none⟩ = false ∧ Hid (P (.returned (.tuple #[.bool false, .int .i64 0, .int .i64 0])) ((W.setCell ⟨rb, 3, none⟩ (.slice a2 l2 k2)).setCell ⟨rb, 1, none⟩ (.int .i64 pe)))) := by
    intro V hV
    have hU := B.up hV
    have hU2 := hU.up B.hfr B.hKf B.hDf hfl
    refine ⟨hU.sf.2.2.1.1, hU.sf.2.2.1.2, hU2.2.2.2.1, fun u hu => ?_⟩
    obtain ⟨a2, l2, k2, W, x, t1, t2, t3, t4, t5, t6⟩ := blk_tail hU2.1 fb _ hU2.2.1 B.hfr B.hKf ao _ ko hU2.2.2.2.1 u _ hu (by rw [htl]; omega) pe (by omega)
    refine ⟨a2, l2, k2, W, x, t1, t2, t3, t4, t5, ?_⟩
    show P _ _
    rw [hP, hpre]
    exact ⟨hU2.2.2.2.2.trans (t6.out.2.2.mono (fun i hi => .inl (by rcases hi with hi | hi; exact .inl hi; exact .inr (.inr hi)))), rfl, t6.out.1, t6.out.2.1⟩
  have HSU : Hid (∀ V, Nw W1 V → Sl (fun _ => False) (.slice (some ⟨g, o + p4, none⟩) m (c - p4)) (tk b p4 m) ((V.setCell ⟨fb, 9, none⟩ (.int .i64 ((f.blocks + 1 : Nat) : Int))).setCell ⟨fb, 10, none⟩ (.int .i64 ((f.plain + 1 : Nat) : Int)))) := fun V hV => by
    have hU2 := (B.up hV).up B.hfr B.hKf B.hDf hfl
    exact (hU2.1.sl p4 m (by omega)).mono (fun _ h => h.elim)
  have HZB : Hid (s.bsum = true) := hzb
  rw [hzb] at HSZ
  clear hzb
  clear hpre hQ hSM q5 B hP hW1 HBAD
  clear htl
  obtain rfl : pm4 = pe := by omega
  generalize b.length = L at *
  generalize out.length = ol at *
  generalize siz s = Z at *
  generalize f.blocks + 1 = B1 at *
  generalize f.plain + 1 = L1 at *
  go_enter Try.func49, Try.ntmps49
  go_upto_region 1 with fail
  rw [HW1.out]
  go_upto_region 3 with (first | (go_at_call 34; (with_reducible refine (HH1.out _ HN0.out).mono ?_); rintro e w1 ⟨rfl, hk1, H1⟩))
  have HNU1 : Hid (Calls Try.prog 51 #[.slice (some ⟨g, o + p, none⟩) 4 (c - p)] w1.drew _) := HNU.out _ H1.out
  have kk0 := hk1.1
  have kk1 : RK rb g o c L p w1.drew := hk1.1
  unfold RK at kk0 kk1
  clear r0 r1 r2 r3 r4 r5 r6 s0 s1 s2 s3 s4 HNU HH1
  go_region_held3 (fun w' => w'.cell? ⟨rb, 0, none⟩ = some (.slice (some ⟨g, o, none⟩) L c) ∧ w'.cell? ⟨rb, 1, none⟩ = some (.int .i64 p) ∧ w'.frozen? ⟨rb, 1, none⟩ = false)
    (first | assumption)
    (first | (go_at_call 51; (with_reducible refine HNU1.out.mono ?_); rintro e w2 ⟨rfl, hk2, H2⟩; have kk2 := hk2.1; unfold RK at kk2))
  obtain ⟨⟨r0, r1, r2⟩, ⟨r3, r4⟩, ⟨r5, r6⟩, ⟨s0, s1, s2, s3, s4⟩⟩ := hk2
  clear kk0 kk1 kk2 hk1 HNU1
  rw [HZB.out] at s2
  go_upto_region 19 with (first | (go_at_call 42; (with_reducible refine (HSZ.out _ H2.out).mono ?_); rintro e w3 ⟨rfl, ⟨⟨r0, r1, r2⟩, ⟨r3, r4⟩, ⟨r5, r6⟩, ⟨s0, s1, s2, s3, s4⟩⟩, H3⟩; rw [HZB.out] at s2) | (go_at_call 34; (with_reducible refine (HH4.out _ H3.out).mono ?_); rintro e w4 ⟨rfl, ⟨⟨r0, r1, r2⟩, ⟨r3, r4⟩, ⟨r5, r6⟩, ⟨s0, s1, s2, s3, s4⟩⟩, H4⟩; rw [HZB.out] at s2) | (go_at_call 51; (with_reducible refine (HN2.out _ H4.out).mono ?_); rintro e w4' ⟨rfl, rfl⟩) | (go_at_call 45; (with_reducible refine (HS2.out _ H4.out).mono ?_); rintro e w5 ⟨rfl, ⟨⟨r0, r1, r2⟩, ⟨r3, r4⟩, ⟨r5, r6⟩, ⟨s0, s1, s2, s3, s4⟩⟩, H5⟩; rw [HZB.out] at s2))
  go_quiet (fail)
  have hV : Nw W1 (w5.drewN nq) := H5.out.drewN nq
  clear r0 r1 r2 r3 r4 r5 r6 s0 s1 s2 s3 s4
  obtain ⟨⟨r0, r1, r2⟩, ⟨r3, r4⟩, ⟨r5, r6⟩, ⟨s0, s1, s2, s3, s4⟩⟩ := KBF.out _ hV
  have HF5 := HF.out _ hV
  have HSU5 := HSU.out _ hV
  clear KBF HF HSZ HH4 HSH HSU
  generalize w5.drewN nq = V5 at *
  rw [HZB.out] at s2
  obtain ⟨d1, d2, d3, d4⟩ := HF5
  have HD4 : Hid (∀ u, _ → _) := d4
  have HSU6 : Hid _ := HSU5
  clear d4 HSU5
  go_upto_region 21 with fail
  generalize V5.setCell ⟨fb, 9, none⟩ (.int .i64 B1) = V6 at *
  go_upto_region 25 with fail
  generalize V6.setCell ⟨fb, 10, none⟩ (.int .i64 L1) = V7 at *
  obtain ⟨a2, l2, k2, W, x, t1, t2, HAP, ⟨yy, t4⟩, t5, HFF⟩ := HD4.out _ HSU6.out
  clear HD4 HSU6
  go_upto_region 35 with (first | (at_builtin; refine Lib.wpList_append_run _ rfl _ _ 22 22 rfl (.slice ao ol ko) (.slice (some ⟨g, o + p4, none⟩) m (c - p4)) (by simp [Act.eval]) (by simp [Act.eval]) _ _ (HAP.out _) ?_))
  generalize W.setCell ⟨rb, 3, none⟩ (.slice a2 l2 k2) = V8 at *
  go_wp2_with fail
  exact HFF.out
set_option maxHeartbeats 16000000 in
set_option maxRecDepth 100000 in
theorem eblock_L7f (B : BS D rb g o c b most p out K w fb f s ao ko W1) (hW1 : w.alloc (.cells #[.int .i64 s.block, .bool s.alone, .bool s.bsum, .bool s.csum, .bool s.csize] 24) = W1) (began : Nat) (q1 : ¬ b.length < p + 4) (q2 : ¬ le (tk b p 4) = 0) (q3 : ¬ siz s < le (tk b p 4) % 2147483648) (q4 : ¬ b.length < p + 4 + le (tk b p 4) % 2147483648 + bs s) (hzb : s.bsum = false) (q7 : 2147483648 ≤ le (tk b p 4)) (q8 : ¬ most - out.length < le (tk b p 4) % 2147483648) (q9 : ¬ c = p + 4) :
    Calls Try.prog 49 #[.pointer (some ⟨rb, 0, none⟩), .agg #[.int .i64 s.block, .bool s.alone, .bool s.bsum, .bool s.csum, .bool s.csize], .pointer (some ⟨fb, 0, none⟩), .int .i64 began] w (EBk D rb g o c b most p out K w fb f (blockF b most s began p out)) := by
  obtain ⟨P, hP⟩ : ∃ P : Ending → World → Prop, P = EBk D rb g o c b most p out K w fb f (blockF b most s began p out) := ⟨_, rfl⟩
  rw [← hP]
  have hbl := B.h.bl
  have hpl := B.h.pl
  have hcb := B.h.hc
  have hc2 := B.h.hc2
  have hol := B.h.ol
  have hml := B.h.ml
  have HW1 : Hid (w.alloc (.cells #[.int .i64 s.block, .bool s.alone, .bool s.bsum, .bool s.csum, .bool s.csize] 24) = W1) := hW1
  have HBAD : Hid (∀ (a y : Nat) V, blockF b most s began p out = .bad a y → Nw W1 V → P (.returned (.tuple #[.bool false, .int .i64 a, .int .i64 y])) V) := fun a y V h1 h2 => by
    rw [hP, h1]; exact ⟨(B.hN1.trans h2).any, rfl⟩
  have HSH := B.short
  have HSZ := B.size
  have hZ4 := B.siz_le
  have HN0 : Hid (Nw W1 W1) := Fr.refl _ _
  obtain ⟨⟨r0, r1, r2⟩, ⟨r3, r4⟩, ⟨r5, r6⟩, ⟨s0, s1, s2, s3, s4⟩⟩ := B.bf (Fr.refl _ W1)
  have hpre : blockF b most s began p out = .ok (p + 4 + le (tk b p 4) % 2147483648 + bs s) (out ++ tk b (p + 4) (le (tk b p 4) % 2147483648)) true := by unfold blockF; rw [if_neg q1, if_neg q2, if_neg q3, if_neg q4, if_neg (fun hx => by rw [hzb] at hx; exact absurd hx.1 (by decide)), if_pos q7, if_neg q8]
  obtain ⟨p4, hp4⟩ : ∃ p4, p + 4 = p4 := ⟨_, rfl⟩
  have hp4q : (p : Int) + 4 = (p4 : Int) := by omega
  have hz1 : (p4 : Int) ≤ (c : Int) := by omega
  have hz2 : (p : Int) ≤ (p4 : Int) := by omega
  have hz3 : p4 - p = 4 := by omega
  have hz4 : ¬ c = p := by omega
  have hz5 : p4 ≤ c := by omega
  have hz6 : p ≤ p4 := by omega
  have hz7 : IntKind.i64.wrap (p4 : Int) = (p4 : Int) := by rw [IntKind.wrap_i64]; omega
  have hz8 : (0 : Int) ≤ (p : Int) := by omega
  have hNl : le (tk b p 4) < 4294967296 := by have := le_lt (tk b p 4); rw [tk_length _ _ _ (by omega)] at this; exact this
  have HH1 := B.has 4 4 rfl (by decide) true (decide_eq_true (by omega))
  have HNU := B.num (by omega)
  obtain ⟨N, hNe⟩ : ∃ N, le (tk b p 4) = N := ⟨_, rfl⟩
  rw [hNe] at hNl HNU
  rw [hNe] at q2 q3 q4 q7 q8 hpre
  obtain ⟨m, hm⟩ : ∃ m, N % 2147483648 = m := ⟨_, rfl⟩
  have hmq : (N : Int) % 2147483648 = (m : Int) := by omega
  have hmt : Int.tmod (N : Int) 2147483648 = (m : Int) := by rw [Int.tmod_eq_emod_of_nonneg (by omega)]; omega
  have hN0 : ¬ (N : Int) = 0 := by omega
  have hZw : IntKind.u64.wrap ((siz s : Nat) : Int) = ((siz s : Nat) : Int) := by rw [IntKind.wrap_u64]; omega
  rw [hm] at q3 q4 q8 hpre
  have q3' : ¬ ((siz s : Nat) : Int) < (m : Int) := by omega
  have hbs : bs s = 0 := by unfold bs; rw [hzb]; rfl
  rw [hbs] at q4
  obtain ⟨m4, hm4⟩ : ∃ m4, 4 + m = m4 := ⟨_, rfl⟩
  have hm4q : (4 : Int) + (m : Int) = (m4 : Int) := by omega
  have hm4w : IntKind.u64.wrap (m4 : Int) = (m4 : Int) := by rw [IntKind.wrap_u64]; omega
  obtain ⟨ms, hms⟩ : ∃ ms, m4 + 0 = ms := ⟨_, rfl⟩
  have hmsq : (m4 : Int) + 0 = (ms : Int) := by omega
  have hmsw : IntKind.u64.wrap (ms : Int) = (ms : Int) := by rw [IntKind.wrap_u64]; omega
  have HH4 := B.has ms _ rfl (by omega) true (decide_eq_true (by omega))
  have hmw : IntKind.i64.wrap (m : Int) = (m : Int) := by rw [IntKind.wrap_i64]; omega
  obtain ⟨pm, hpm⟩ : ∃ pm, p4 + m = pm := ⟨_, rfl⟩
  have hpmq : (p4 : Int) + (m : Int) = (pm : Int) := by omega
  have hpmw : IntKind.i64.wrap (pm : Int) = (pm : Int) := by rw [IntKind.wrap_i64]; omega
  have hy1 : (pm : Int) ≤ (c : Int) := by omega
  have hy2 : (p4 : Int) ≤ (pm : Int) := by omega
  have hy3 : pm - p4 = m := by omega
  have hy4 : (0 : Int) ≤ (p4 : Int) := by omega
  have hy5 : ¬ c = p4 := by omega
  have q7' : (2147483648 : Int) ≤ (N : Int) := by omega
  obtain ⟨lf, hlf⟩ : ∃ lf, most - out.length = lf := ⟨_, rfl⟩
  have hlfq : (most : Int) - (out.length : Int) = (lf : Int) := by omega
  have hlfw : IntKind.i64.wrap (lf : Int) = (lf : Int) := by rw [IntKind.wrap_i64]; omega
  rw [hlf] at q8
  have hb1 := B.hb1
  have hb2 := B.hb2
  have hzB : (f.blocks : Int) + 1 = ((f.blocks + 1 : Nat) : Int) := by omega
  have hzBw : IntKind.i64.wrap ((f.blocks + 1 : Nat) : Int) = ((f.blocks + 1 : Nat) : Int) := by rw [IntKind.wrap_i64]; omega
  have KBF : Hid (∀ V, Nw W1 V → BF rb fb w.heap.size g o c b.length p most ao out.length ko f.blocks s V) := fun V hV => B.bf hV
  have q8' : ¬ (lf : Int) < (m : Int) := by omega
  have hzP : (f.plain : Int) + 1 = ((f.plain + 1 : Nat) : Int) := by omega
  have hzPw : IntKind.i64.wrap ((f.plain + 1 : Nat) : Int) = ((f.plain + 1 : Nat) : Int) := by rw [IntKind.wrap_i64]; omega
  obtain ⟨pe, hpe⟩ : ∃ pe, pm + 0 = pe := ⟨_, rfl⟩
  have hpeq : (pm : Int) + 0 = (pe : Int) := by omega
  have hpew : IntKind.i64.wrap (pe : Int) = (pe : Int) := by rw [IntKind.wrap_i64]; omega
  have hfl := B.hf.lt
  rw [hp4, hpm, hbs, hpe] at hpre
  have htl : (tk b p4 m).length = m := tk_length _ _ _ (by omega)
  have HF : Hid (∀ V, Nw W1 V → (V.setCell ⟨fb, 9, none⟩ (.int .i64 ((f.blocks + 1 : Nat) : Int))).cell? ⟨fb, 10, none⟩ = some (.int .i64 f.plain) ∧ (V.setCell ⟨fb, 9, none⟩ (.int .i64 ((f.blocks + 1 : Nat) : Int))).frozen? ⟨fb, 10, none⟩ = false ∧ ((V.setCell ⟨fb, 9, none⟩ (.int .i64 ((f.blocks + 1 : Nat) : Int))).setCell ⟨fb, 10, none⟩ (.int .i64 ((f.plain + 1 : Nat) : Int))).cell? ⟨rb, 3, none⟩ = some (.slice ao out.length ko) ∧ ∀ u, Sl (fun _ => False) u (tk b p4 m) ((V.setCell ⟨fb, 9, none⟩ (.int .i64 ((f.blocks + 1 : Nat) : Int))).setCell ⟨fb, 10, none⟩ (.int .i64 ((f.plain + 1 : Nat) : Int))) → ∃ a2 l2 k2 W x, W.cell? ⟨rb, 3, none⟩ = some x ∧ W.frozen? ⟨rb, 3, none⟩ = false ∧ Hid (∀ ty, (Builtin.append_ #[22, 22] ty #[.slice ao out.length ko, u]).run Try.prog ((V.setCell ⟨fb, 9, none⟩ (.int .i64 ((f.blocks + 1 : Nat) : Int))).setCell ⟨fb, 10, none⟩ (.int .i64 ((f.plain + 1 : Nat) : Int))) = .ok (.slice a2 l2 k2) W) ∧ (∃ y, (W.setCell ⟨rb, 3, none⟩ (.slice a2 l2 k2)).cell? ⟨rb, 1, none⟩ = some y) ∧ (W.setCell ⟨rb, 3, none⟩ (.slice a2 l2 k2)).frozen? ⟨rb, 1, none⟩ = false ∧ Hid (P (.returned (.tuple #[.bool false, .int .i64 0, .int .i64 0])) ((W.setCell ⟨rb, 3, none⟩ (.slice a2 l2 k2)).setCell ⟨rb, 1, none⟩ (.int .i64 pe)))) := by
    intro V hV
    have hU := B.up hV
    have hU2 := hU.up B.hfr B.hKf B.hDf hfl
    refine ⟨hU.sf.2.2.1.1, hU.sf.2.2.1.2, hU2.2.2.2.1, fun u hu => ?_⟩
    obtain ⟨a2, l2, k2, W, x, t1, t2, t3, t4, t5, t6⟩ := blk_tail hU2.1 fb _ hU2.2.1 B.hfr B.hKf ao _ ko hU2.2.2.2.1 u _ hu (by rw [htl]; omega) pe (by omega)
    refine ⟨a2, l2, k2, W, x, t1, t2, t3, t4, t5, ?_⟩
    show P _ _
    rw [hP, hpre]
    exact ⟨hU2.2.2.2.2.trans (t6.out.2.2.mono (fun i hi => .inl (by rcases hi with hi | hi; exact .inl hi; exact .inr (.inr hi)))), rfl, t6.out.1, t6.out.2.1⟩
  have HSU : Hid (∀ V, Nw W1 V → Sl (fun _ => False) (.slice (some ⟨g, o + p4, none⟩) m (c - p4)) (tk b p4 m) ((V.setCell ⟨fb, 9, none⟩ (.int .i64 ((f.blocks + 1 : Nat) : Int))).setCell ⟨fb, 10, none⟩ (.int .i64 ((f.plain + 1 : Nat) : Int)))) := fun V hV => by
    have hU2 := (B.up hV).up B.hfr B.hKf B.hDf hfl
    exact (hU2.1.sl p4 m (by omega)).mono (fun _ h => h.elim)
  have HZB : Hid (s.bsum = false) := hzb
  rw [hzb] at HSZ
  clear hzb
  clear hpre  B hP hW1 HBAD
  clear htl
  obtain rfl : m4 = ms := by omega
  obtain rfl : pm = pe := by omega
  generalize b.length = L at *
  generalize out.length = ol at *
  generalize siz s = Z at *
  generalize f.blocks + 1 = B1 at *
  generalize f.plain + 1 = L1 at *
  go_enter Try.func49, Try.ntmps49
  go_upto_region 1 with fail
  rw [HW1.out]
  go_upto_region 3 with (first | (go_at_call 34; (with_reducible refine (HH1.out _ HN0.out).mono ?_); rintro e w1 ⟨rfl, hk1, H1⟩))
  have HNU1 : Hid (Calls Try.prog 51 #[.slice (some ⟨g, o + p, none⟩) 4 (c - p)] w1.drew _) := HNU.out _ H1.out
  have kk0 := hk1.1
  have kk1 : RK rb g o c L p w1.drew := hk1.1
  unfold RK at kk0 kk1
  clear r0 r1 r2 r3 r4 r5 r6 s0 s1 s2 s3 s4 HNU HH1
  go_region_held3 (fun w' => w'.cell? ⟨rb, 0, none⟩ = some (.slice (some ⟨g, o, none⟩) L c) ∧ w'.cell? ⟨rb, 1, none⟩ = some (.int .i64 p) ∧ w'.frozen? ⟨rb, 1, none⟩ = false)
    (first | assumption)
    (first | (go_at_call 51; (with_reducible refine HNU1.out.mono ?_); rintro e w2 ⟨rfl, hk2, H2⟩; have kk2 := hk2.1; unfold RK at kk2))
  obtain ⟨⟨r0, r1, r2⟩, ⟨r3, r4⟩, ⟨r5, r6⟩, ⟨s0, s1, s2, s3, s4⟩⟩ := hk2
  clear kk0 kk1 kk2 hk1 HNU1
  rw [HZB.out] at s2
  go_upto_region 19 with (first | (go_at_call 42; (with_reducible refine (HSZ.out _ H2.out).mono ?_); rintro e w3 ⟨rfl, ⟨⟨r0, r1, r2⟩, ⟨r3, r4⟩, ⟨r5, r6⟩, ⟨s0, s1, s2, s3, s4⟩⟩, H3⟩; rw [HZB.out] at s2) | (go_at_call 34; (with_reducible refine (HH4.out _ H3.out).mono ?_); rintro e w4 ⟨rfl, ⟨⟨r0, r1, r2⟩, ⟨r3, r4⟩, ⟨r5, r6⟩, ⟨s0, s1, s2, s3, s4⟩⟩, H4⟩; rw [HZB.out] at s2))
  go_quiet (fail)
  have hV : Nw W1 (w4.drewN nq) := H4.out.drewN nq
  clear r0 r1 r2 r3 r4 r5 r6 s0 s1 s2 s3 s4
  obtain ⟨⟨r0, r1, r2⟩, ⟨r3, r4⟩, ⟨r5, r6⟩, ⟨s0, s1, s2, s3, s4⟩⟩ := KBF.out _ hV
  have HF5 := HF.out _ hV
  have HSU5 := HSU.out _ hV
  clear KBF HF HSZ HH4 HSH HSU
  generalize w4.drewN nq = V5 at *
  rw [HZB.out] at s2
  obtain ⟨d1, d2, d3, d4⟩ := HF5
  have HD4 : Hid (∀ u, _ → _) := d4
  have HSU6 : Hid _ := HSU5
  clear d4 HSU5
  go_upto_region 21 with fail
  generalize V5.setCell ⟨fb, 9, none⟩ (.int .i64 B1) = V6 at *
  go_upto_region 25 with fail
  generalize V6.setCell ⟨fb, 10, none⟩ (.int .i64 L1) = V7 at *
  obtain ⟨a2, l2, k2, W, x, t1, t2, HAP, ⟨yy, t4⟩, t5, HFF⟩ := HD4.out _ HSU6.out
  clear HD4 HSU6
  go_upto_region 35 with (first | (at_builtin; refine Lib.wpList_append_run _ rfl _ _ 22 22 rfl (.slice ao ol ko) (.slice (some ⟨g, o + p4, none⟩) m (c - p4)) (by simp [Act.eval]) (by simp [Act.eval]) _ _ (HAP.out _) ?_))
  generalize W.setCell ⟨rb, 3, none⟩ (.slice a2 l2 k2) = V8 at *
  go_wp2_with fail
  exact HFF.out
end Go.Proofs.Ytdeefemeiggolaa

namespace Go.Proofs.Ytdeefemeiggolaa
open Go.RowKit
set_option linter.unusedVariables false
variable {D rb g o c : Nat} {b : List By} {most p : Nat} {out : List By} {K : Nat → Prop} {w : World} {fb : Nat} {f : Fm} {s : Shp} {ao : Option Addr} {ko : Nat} {W1 : World}
set_option maxHeartbeats 16000000 in
set_option maxRecDepth 100000 in
theorem eblock_L7c (B : BS D rb g o c b most p out K w fb f s ao ko W1) (hW1 : w.alloc (.cells #[.int .i64 s.block, .bool s.alone, .bool s.bsum, .bool s.csum, .bool s.csize] 24) = W1) (began : Nat) (q1 : ¬ b.length < p + 4) (q2 : ¬ le (tk b p 4) = 0) (q3 : ¬ siz s < le (tk b p 4) % 2147483648) (q4 : ¬ b.length < p + 4 + le (tk b p 4) % 2147483648 + bs s) (hzb : s.bsum = false) (q7 : 2147483648 ≤ le (tk b p 4)) (q8 : ¬ most - out.length < le (tk b p 4) % 2147483648) (q9 : c = p + 4) :
    Calls Try.prog 49 #[.pointer (some ⟨rb, 0, none⟩), .agg #[.int .i64 s.block, .bool s.alone, .bool s.bsum, .bool s.csum, .bool s.csize], .pointer (some ⟨fb, 0, none⟩), .int .i64 began] w (EBk D rb g o c b most p out K w fb f (blockF b most s began p out)) := by
  obtain ⟨P, hP⟩ : ∃ P : Ending → World → Prop, P = EBk D rb g o c b most p out K w fb f (blockF b most s began p out) := ⟨_, rfl⟩
  rw [← hP]
  have hbl := B.h.bl
  have hpl := B.h.pl
  have hcb := B.h.hc
  have hc2 := B.h.hc2
  have hol := B.h.ol
  have hml := B.h.ml
  have HW1 : Hid (w.alloc (.cells #[.int .i64 s.block, .bool s.alone, .bool s.bsum, .bool s.csum, .bool s.csize] 24) = W1) := hW1
  have HBAD : Hid (∀ (a y : Nat) V, blockF b most s began p out = .bad a y → Nw W1 V → P (.returned (.tuple #[.bool false, .int .i64 a, .int .i64 y])) V) := fun a y V h1 h2 => by
    rw [hP, h1]; exact ⟨(B.hN1.trans h2).any, rfl⟩
  have HSH := B.short
  have HSZ := B.size
  have hZ4 := B.siz_le
  have HN0 : Hid (Nw W1 W1) := Fr.refl _ _
  obtain ⟨⟨r0, r1, r2⟩, ⟨r3, r4⟩, ⟨r5, r6⟩, ⟨s0, s1, s2, s3, s4⟩⟩ := B.bf (Fr.refl _ W1)
  have hpre : blockF b most s began p out = .ok (p + 4 + le (tk b p 4) % 2147483648 + bs s) (out ++ tk b (p + 4) (le (tk b p 4) % 2147483648)) true := by unfold blockF; rw [if_neg q1, if_neg q2, if_neg q3, if_neg q4, if_neg (fun hx => by rw [hzb] at hx; exact absurd hx.1 (by decide)), if_pos q7, if_neg q8]
  obtain ⟨p4, hp4⟩ : ∃ p4, p + 4 = p4 := ⟨_, rfl⟩
  have hp4q : (p : Int) + 4 = (p4 : Int) := by omega
  have hz1 : (p4 : Int) ≤ (c : Int) := by omega
  have hz2 : (p : Int) ≤ (p4 : Int) := by omega
  have hz3 : p4 - p = 4 := by omega
  have hz4 : ¬ c = p := by omega
  have hz5 : p4 ≤ c := by omega
  have hz6 : p ≤ p4 := by omega
  have hz7 : IntKind.i64.wrap (p4 : Int) = (p4 : Int) := by rw [IntKind.wrap_i64]; omega
  have hz8 : (0 : Int) ≤ (p : Int) := by omega
  have hNl : le (tk b p 4) < 4294967296 := by have := le_lt (tk b p 4); rw [tk_length _ _ _ (by omega)] at this; exact this
  have HH1 := B.has 4 4 rfl (by decide) true (decide_eq_true (by omega))
  have HNU := B.num (by omega)
  obtain ⟨N, hNe⟩ : ∃ N, le (tk b p 4) = N := ⟨_, rfl⟩
  rw [hNe] at hNl HNU
  rw [hNe] at q2 q3 q4 q7 q8 hpre
  obtain ⟨m, hm⟩ : ∃ m, N % 2147483648 = m := ⟨_, rfl⟩
  have hmq : (N : Int) % 2147483648 = (m : Int) := by omega
  have hmt : Int.tmod (N : Int) 2147483648 = (m : Int) := by rw [Int.tmod_eq_emod_of_nonneg (by omega)]; omega
  have hN0 : ¬ (N : Int) = 0 := by omega
  have hZw : IntKind.u64.wrap ((siz s : Nat) : Int) = ((siz s : Nat) : Int) := by rw [IntKind.wrap_u64]; omega
  rw [hm] at q3 q4 q8 hpre
  have q3' : ¬ ((siz s : Nat) : Int) < (m : Int) := by omega
  have hbs : bs s = 0 := by unfold bs; rw [hzb]; rfl
  rw [hbs] at q4
  obtain ⟨m4, hm4⟩ : ∃ m4, 4 + m = m4 := ⟨_, rfl⟩
  have hm4q : (4 : Int) + (m : Int) = (m4 : Int) := by omega
  have hm4w : IntKind.u64.wrap (m4 : Int) = (m4 : Int) := by rw [IntKind.wrap_u64]; omega
  obtain ⟨ms, hms⟩ : ∃ ms, m4 + 0 = ms := ⟨_, rfl⟩
  have hmsq : (m4 : Int) + 0 = (ms : Int) := by omega
  have hmsw : IntKind.u64.wrap (ms : Int) = (ms : Int) := by rw [IntKind.wrap_u64]; omega
  have HH4 := B.has ms _ rfl (by omega) true (decide_eq_true (by omega))
  have hmw : IntKind.i64.wrap (m : Int) = (m : Int) := by rw [IntKind.wrap_i64]; omega
  obtain ⟨pm, hpm⟩ : ∃ pm, p4 + m = pm := ⟨_, rfl⟩
  have hpmq : (p4 : Int) + (m : Int) = (pm : Int) := by omega
  have hpmw : IntKind.i64.wrap (pm : Int) = (pm : Int) := by rw [IntKind.wrap_i64]; omega
  have hy1 : (pm : Int) ≤ (c : Int) := by omega
  have hy2 : (p4 : Int) ≤ (pm : Int) := by omega
  have hy3 : pm - p4 = m := by omega
  have hy4 : (0 : Int) ≤ (p4 : Int) := by omega
  have hy5 : c = p4 := by omega
  have q7' : (2147483648 : Int) ≤ (N : Int) := by omega
  obtain ⟨lf, hlf⟩ : ∃ lf, most - out.length = lf := ⟨_, rfl⟩
  have hlfq : (most : Int) - (out.length : Int) = (lf : Int) := by omega
  have hlfw : IntKind.i64.wrap (lf : Int) = (lf : Int) := by rw [IntKind.wrap_i64]; omega
  rw [hlf] at q8
  have hb1 := B.hb1
  have hb2 := B.hb2
  have hzB : (f.blocks : Int) + 1 = ((f.blocks + 1 : Nat) : Int) := by omega
  have hzBw : IntKind.i64.wrap ((f.blocks + 1 : Nat) : Int) = ((f.blocks + 1 : Nat) : Int) := by rw [IntKind.wrap_i64]; omega
  have KBF : Hid (∀ V, Nw W1 V → BF rb fb w.heap.size g o c b.length p most ao out.length ko f.blocks s V) := fun V hV => B.bf hV
  have q8' : ¬ (lf : Int) < (m : Int) := by omega
  have hzP : (f.plain : Int) + 1 = ((f.plain + 1 : Nat) : Int) := by omega
  have hzPw : IntKind.i64.wrap ((f.plain + 1 : Nat) : Int) = ((f.plain + 1 : Nat) : Int) := by rw [IntKind.wrap_i64]; omega
  obtain ⟨pe, hpe⟩ : ∃ pe, pm + 0 = pe := ⟨_, rfl⟩
  have hpeq : (pm : Int) + 0 = (pe : Int) := by omega
  have hpew : IntKind.i64.wrap (pe : Int) = (pe : Int) := by rw [IntKind.wrap_i64]; omega
  have hfl := B.hf.lt
  rw [hp4, hpm, hbs, hpe] at hpre
  have htl : (tk b p4 m).length = m := tk_length _ _ _ (by omega)
  have HF : Hid (∀ V, Nw W1 V → (V.setCell ⟨fb, 9, none⟩ (.int .i64 ((f.blocks + 1 : Nat) : Int))).cell? ⟨fb, 10, none⟩ = some (.int .i64 f.plain) ∧ (V.setCell ⟨fb, 9, none⟩ (.int .i64 ((f.blocks + 1 : Nat) : Int))).frozen? ⟨fb, 10, none⟩ = false ∧ ((V.setCell ⟨fb, 9, none⟩ (.int .i64 ((f.blocks + 1 : Nat) : Int))).setCell ⟨fb, 10, none⟩ (.int .i64 ((f.plain + 1 : Nat) : Int))).cell? ⟨rb, 3, none⟩ = some (.slice ao out.length ko) ∧ ∀ u, Sl (fun _ => False) u (tk b p4 m) ((V.setCell ⟨fb, 9, none⟩ (.int .i64 ((f.blocks + 1 : Nat) : Int))).setCell ⟨fb, 10, none⟩ (.int .i64 ((f.plain + 1 : Nat) : Int))) → ∃ a2 l2 k2 W x, W.cell? ⟨rb, 3, none⟩ = some x ∧ W.frozen? ⟨rb, 3, none⟩ = false ∧ Hid (∀ ty, (Builtin.append_ #[22, 22] ty #[.slice ao out.length ko, u]).run Try.prog ((V.setCell ⟨fb, 9, none⟩ (.int .i64 ((f.blocks + 1 : Nat) : Int))).setCell ⟨fb, 10, none⟩ (.int .i64 ((f.plain + 1 : Nat) : Int))) = .ok (.slice a2 l2 k2) W) ∧ (∃ y, (W.setCell ⟨rb, 3, none⟩ (.slice a2 l2 k2)).cell? ⟨rb, 1, none⟩ = some y) ∧ (W.setCell ⟨rb, 3, none⟩ (.slice a2 l2 k2)).frozen? ⟨rb, 1, none⟩ = false ∧ Hid (P (.returned (.tuple #[.bool false, .int .i64 0, .int .i64 0])) ((W.setCell ⟨rb, 3, none⟩ (.slice a2 l2 k2)).setCell ⟨rb, 1, none⟩ (.int .i64 pe)))) := by
    intro V hV
    have hU := B.up hV
    have hU2 := hU.up B.hfr B.hKf B.hDf hfl
    refine ⟨hU.sf.2.2.1.1, hU.sf.2.2.1.2, hU2.2.2.2.1, fun u hu => ?_⟩
    obtain ⟨a2, l2, k2, W, x, t1, t2, t3, t4, t5, t6⟩ := blk_tail hU2.1 fb _ hU2.2.1 B.hfr B.hKf ao _ ko hU2.2.2.2.1 u _ hu (by rw [htl]; omega) pe (by omega)
    refine ⟨a2, l2, k2, W, x, t1, t2, t3, t4, t5, ?_⟩
    show P _ _
    rw [hP, hpre]
    exact ⟨hU2.2.2.2.2.trans (t6.out.2.2.mono (fun i hi => .inl (by rcases hi with hi | hi; exact .inl hi; exact .inr (.inr hi)))), rfl, t6.out.1, t6.out.2.1⟩
  have HSU : Hid (∀ V, Nw W1 V → ∀ a, Sl (fun _ => False) (.slice a 0 0) (tk b p4 m) ((V.setCell ⟨fb, 9, none⟩ (.int .i64 ((f.blocks + 1 : Nat) : Int))).setCell ⟨fb, 10, none⟩ (.int .i64 ((f.plain + 1 : Nat) : Int)))) := fun V hV => by
    have hU2 := (B.up hV).up B.hfr B.hKf B.hDf hfl
    exact fun a => .inl ⟨a, rfl, List.eq_nil_of_length_eq_zero (by rw [htl]; omega)⟩
  have HH4 := B.has 4 4 rfl (by decide) true (decide_eq_true (by omega))
  have HZB : Hid (s.bsum = false) := hzb
  rw [hzb] at HSZ
  clear hzb
  clear hpre  B hP hW1 HBAD
  clear htl
  obtain rfl : m = 0 := by omega
  obtain rfl : pm = p4 := by omega
  subst hy5
  clear q9 hm4q hm4w hmsq hmsw hm4 hpmq hy1 hy2 hy3 hpm hmw
  have hmq0 : (N : Int) % 2147483648 = 0 := hmq
  have hmt0 : Int.tmod (N : Int) 2147483648 = 0 := hmt
  clear hmq hmt
  clear hms
  rw [hz3] at HNU
  obtain rfl : c = pe := by omega
  clear hpe hpeq
  generalize b.length = L at *
  generalize out.length = ol at *
  generalize siz s = Z at *
  generalize f.blocks + 1 = B1 at *
  generalize f.plain + 1 = L1 at *
  go_enter Try.func49, Try.ntmps49
  go_upto_region 1 with fail
  rw [HW1.out]
  go_upto_region 3 with (first | (go_at_call 34; (with_reducible refine (HH1.out _ HN0.out).mono ?_); rintro e w1 ⟨rfl, hk1, H1⟩))
  have HNU1 : Hid (Calls Try.prog 51 #[.slice (some ⟨g, o + p, none⟩) 4 4] w1.drew _) := HNU.out _ H1.out
  have kk0 := hk1.1
  have kk1 : RK rb g o c L p w1.drew := hk1.1
  unfold RK at kk0 kk1
  clear r0 r1 r2 r3 r4 r5 r6 s0 s1 s2 s3 s4 HNU HH1
  go_region_held3 (fun w' => w'.cell? ⟨rb, 0, none⟩ = some (.slice (some ⟨g, o, none⟩) L c) ∧ w'.cell? ⟨rb, 1, none⟩ = some (.int .i64 p) ∧ w'.frozen? ⟨rb, 1, none⟩ = false)
    (first | assumption)
    (first | (go_at_call 51; (with_reducible refine HNU1.out.mono ?_); rintro e w2 ⟨rfl, hk2, H2⟩; have kk2 := hk2.1; unfold RK at kk2))
  obtain ⟨⟨r0, r1, r2⟩, ⟨r3, r4⟩, ⟨r5, r6⟩, ⟨s0, s1, s2, s3, s4⟩⟩ := hk2
  clear kk0 kk1 kk2 hk1 HNU1
  rw [HZB.out] at s2
  go_upto_region 19 with (first | (go_at_call 42; (with_reducible refine (HSZ.out _ H2.out).mono ?_); rintro e w3 ⟨rfl, ⟨⟨r0, r1, r2⟩, ⟨r3, r4⟩, ⟨r5, r6⟩, ⟨s0, s1, s2, s3, s4⟩⟩, H3⟩; rw [HZB.out] at s2) | (go_at_call 34; (with_reducible refine (HH4.out _ H3.out).mono ?_); rintro e w4 ⟨rfl, ⟨⟨r0, r1, r2⟩, ⟨r3, r4⟩, ⟨r5, r6⟩, ⟨s0, s1, s2, s3, s4⟩⟩, H4⟩; rw [HZB.out] at s2))
  go_quiet (fail)
  have hV : Nw W1 (w4.drewN nq) := H4.out.drewN nq
  clear r0 r1 r2 r3 r4 r5 r6 s0 s1 s2 s3 s4
  obtain ⟨⟨r0, r1, r2⟩, ⟨r3, r4⟩, ⟨r5, r6⟩, ⟨s0, s1, s2, s3, s4⟩⟩ := KBF.out _ hV
  have HF5 := HF.out _ hV
  have HSU5 := HSU.out _ hV
  clear KBF HF HSZ HH4 HSH HSU
  generalize w4.drewN nq = V5 at *
  rw [HZB.out] at s2
  obtain ⟨d1, d2, d3, d4⟩ := HF5
  have HD4 : Hid (∀ u, _ → _) := d4
  have HSU6 : Hid _ := HSU5
  clear d4 HSU5
  go_upto_region 21 with fail
  generalize V5.setCell ⟨fb, 9, none⟩ (.int .i64 B1) = V6 at *
  go_upto_region 25 with fail
  generalize V6.setCell ⟨fb, 10, none⟩ (.int .i64 L1) = V7 at *
  obtain ⟨a2, l2, k2, W, x, t1, t2, HAP, ⟨yy, t4⟩, t5, HFF⟩ := HD4.out _ (HSU6.out (some ⟨g, o, none⟩))
  clear HD4 HSU6
  go_upto_region 35 with (first | (at_builtin; refine Lib.wpList_append_run _ rfl _ _ 22 22 rfl (.slice ao ol ko) (.slice (some ⟨g, o, none⟩) 0 0) (by simp [Act.eval]) (by simp [Act.eval]) _ _ (HAP.out _) ?_))
  generalize W.setCell ⟨rb, 3, none⟩ (.slice a2 l2 k2) = V8 at *
  go_wp2_with fail
  exact HFF.out
end Go.Proofs.Ytdeefemeiggolaa

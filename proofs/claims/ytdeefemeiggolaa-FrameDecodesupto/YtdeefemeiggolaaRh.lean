import Derived.Test.YtdeefemeiggolaaRg
namespace Go.Proofs.Ytdeefemeiggolaa
open Go.RowKit
set_option linter.unusedVariables false
variable {D rb g o c : Nat} {b : List By} {most p : Nat} {out : List By} {K : Nat → Prop} {w : World} {fb : Nat} {f : Fm} {s : Shp} {ao : Option Addr} {ko : Nat} {W1 : World}
/-- Behind Blocks++. -/
def STB (D rb g o c : Nat) (b : List By) (most p : Nat) (out : List By) (K : Nat → Prop) (w : World) (fb : Nat) (s : Shp) (ao : Option Addr) (ko : Nat) (fX : Fm) (V : World) : Prop := RfI D rb g o c b most p out K V ∧ FB fb fX V ∧ V.heap[w.heap.size]? = some (.cells #[.int .i64 s.block, .bool s.alone, .bool s.bsum, .bool s.csum, .bool s.csize] 24) ∧ V.cell? ⟨rb, 3, none⟩ = some (.slice ao out.length ko) ∧ Fr (fun k => k = rb ∨ k = fb ∨ ¬ K k) w V
def SF (rb fb sb g o c L p : Nat) (ao : Option Addr) (ol ko pln : Nat) (s : Shp) (V : World) : Prop := RK rb g o c L p V ∧ V.cell? ⟨rb, 3, none⟩ = some (.slice ao ol ko) ∧ (V.cell? ⟨fb, 10, none⟩ = some (.int .i64 pln) ∧ V.frozen? ⟨fb, 10, none⟩ = false) ∧ SK sb s.block s.alone s.bsum s.csum s.csize V
theorem STB.nw {fX : Fm} {V V' : World} (h : STB D rb g o c b most p out K w fb s ao ko fX V) (f : Nw V V') : STB D rb g o c b most p out K w fb s ao ko fX V' := ⟨h.1.nw f, h.2.1.nw f, f.heap h.2.2.1, f.cell h.2.2.2.1, h.2.2.2.2.trans f.any⟩
theorem STB.sf {fX : Fm} {V : World} (h : STB D rb g o c b most p out K w fb s ao ko fX V) : SF rb fb w.heap.size g o c b.length p ao out.length ko fX.plain s V := ⟨RK.of h.1, h.2.2.2.1, ⟨(row_cell h.2.1 10 _ rfl).1, (row_cell h.2.1 10 _ rfl).2⟩, (HK.of h.1 h.2.2.1).2⟩
theorem BS.up (B : BS D rb g o c b most p out K w fb f s ao ko W1) {V : World} (hV : Nw W1 V) : STB D rb g o c b most p out K w fb s ao ko { f with blocks := f.blocks + 1 } (V.setCell ⟨fb, 9, none⟩ (.int .i64 ((f.blocks + 1 : Nat) : Int))) := by
  have hwV := B.hN1.trans hV
  obtain ⟨k1, k2, k3, k4, k5⟩ := FB.keepRf f (B.h.nw hwV) (B.hf.nw hwV) B.hfr B.hKf B.hDf 9 _ (.int .i64 ((f.blocks + 1 : Nat) : Int)) { f with blocks := f.blocks + 1 } rfl rfl
  have hfl := B.hf.lt
  have hrl := B.h.lt rb B.h.kr
  have f1 : Fr (fun k => k = fb) V (V.setCell ⟨fb, 9, none⟩ (.int .i64 ((f.blocks + 1 : Nat) : Int))) := (Fr.refl _ _).setCell _ _ (.inl rfl)
  exact ⟨k3, k4, row_kept (hV.heap B.hrow) f1 (fun hx => by omega), f1.cellv (hwV.cell B.hao) (fun hx => B.hfr hx.symm), hwV.any.trans (f1.mono (fun i hi => .inl (.inr (.inl hi))))⟩
theorem STB.up {fX : Fm} {V : World} (h : STB D rb g o c b most p out K w fb s ao ko fX V) (hfr : fb ≠ rb) (hKf : K fb) (hDf : D ≤ fb) (hlt : fb < w.heap.size) : STB D rb g o c b most p out K w fb s ao ko { fX with plain := fX.plain + 1 } (V.setCell ⟨fb, 10, none⟩ (.int .i64 ((fX.plain + 1 : Nat) : Int))) := by
  obtain ⟨k1, k2, k3, k4, k5⟩ := FB.keepRf fX h.1 h.2.1 hfr hKf hDf 10 _ (.int .i64 ((fX.plain + 1 : Nat) : Int)) { fX with plain := fX.plain + 1 } rfl rfl
  have f1 : Fr (fun k => k = fb) V (V.setCell ⟨fb, 10, none⟩ (.int .i64 ((fX.plain + 1 : Nat) : Int))) := (Fr.refl _ _).setCell _ _ (.inl rfl)
  exact ⟨k3, k4, row_kept h.2.2.1 f1 (fun hx => by omega), f1.cellv h.2.2.2.1 (fun hx => hfr hx.symm), h.2.2.2.2.trans (f1.mono (fun i hi => .inl (.inr (.inl hi))))⟩
set_option maxHeartbeats 16000000 in
set_option maxRecDepth 100000 in
theorem eblock_L5 (B : BS D rb g o c b most p out K w fb f s ao ko W1) (hW1 : w.alloc (.cells #[.int .i64 s.block, .bool s.alone, .bool s.bsum, .bool s.csum, .bool s.csize] 24) = W1) (began : Nat) (q1 : ¬ b.length < p + 4) (q2 : ¬ le (tk b p 4) = 0) (q3 : ¬ siz s < le (tk b p 4) % 2147483648) (q4 : ¬ b.length < p + 4 + le (tk b p 4) % 2147483648 + bs s) (hzb : s.bsum = true) (q5 : le (tk b (p + 4 + le (tk b p 4) % 2147483648) 4) ≠ sm (tk b (p + 4) (le (tk b p 4) % 2147483648))) :
    Calls Try.prog 49 #[.pointer (some ⟨rb, 0, none⟩), .agg #[.int .i64 s.block, .bool s.alone, .bool s.bsum, .bool s.csum, .bool s.csize], .pointer (some ⟨fb, 0, none⟩), .int .i64 began] w (EBk D rb g o c b most p out K w fb f (blockF b most s began p out)) := by
  obtain ⟨P, hP⟩ : ∃ P : Ending → World → Prop, P = EBk D rb g o c b most p out K w fb f (blockF b most s began p out) := ⟨_, rfl⟩
  rw [← hP]
  have hbl := B.h.bl
  have hpl := B.h.pl
  have hcb := B.h.hc
  have hc2 := B.h.hc2
  have hol := B.h.ol
  have hml := B.h.ml
  have HW1 : Hid (w.alloc (.cells #[.int .i64 s.block, .bool s.alone, .bool s.bsum, .bool s.csum, .bool s.csize] 24) = W1) := hW1
  have HBAD : Hid (∀ (a y : Nat) V, blockF b most s began p out = .bad a y → Nw W1 V → P (.returned (.tuple #[.bool false, .int .i64 a, .int .i64 y])) V) := fun a y V h1 h2 => by
    rw [hP, h1]; exact ⟨(B.hN1.trans h2).any, rfl⟩
  have HSH := B.short
  have HSZ := B.size
  have hZ4 := B.siz_le
  have HN0 : Hid (Nw W1 W1) := Fr.refl _ _
  obtain ⟨⟨r0, r1, r2⟩, ⟨r3, r4⟩, ⟨r5, r6⟩, ⟨s0, s1, s2, s3, s4⟩⟩ := B.bf (Fr.refl _ W1)
  have hh : blockF b most s began p out = .bad (p + 4 + le (tk b p 4) % 2147483648) 44 := by unfold blockF; rw [if_neg q1, if_neg q2, if_neg q3, if_neg q4, if_pos ⟨hzb, q5⟩]
  obtain ⟨p4, hp4⟩ : ∃ p4, p + 4 = p4 := ⟨_, rfl⟩
  have hp4q : (p : Int) + 4 = (p4 : Int) := by omega
  have hz1 : (p4 : Int) ≤ (c : Int) := by omega
  have hz2 : (p : Int) ≤ (p4 : Int) := by omega
  have hz3 : p4 - p = 4 := by omega
  have hz4 : ¬ c = p := by omega
  have hz5 : p4 ≤ c := by omega
  have hz6 : p ≤ p4 := by omega
  have hz7 : IntKind.i64.wrap (p4 : Int) = (p4 : Int) := by rw [IntKind.wrap_i64]; omega
  have hz8 : (0 : Int) ≤ (p : Int) := by omega
  have hNl : le (tk b p 4) < 4294967296 := by have := le_lt (tk b p 4); rw [tk_length _ _ _ (by omega)] at this; exact this
  have HH1 := B.has 4 4 rfl (by decide) true (decide_eq_true (by omega))
  have HNU := B.num (by omega)
  obtain ⟨N, hNe⟩ : ∃ N, le (tk b p 4) = N := ⟨_, rfl⟩
  rw [hNe] at hNl HNU
  rw [hNe] at q2 q3 q4 q5 hh
  obtain ⟨m, hm⟩ : ∃ m, N % 2147483648 = m := ⟨_, rfl⟩
  have hmq : (N : Int) % 2147483648 = (m : Int) := by omega
  have hmt : Int.tmod (N : Int) 2147483648 = (m : Int) := by rw [Int.tmod_eq_emod_of_nonneg (by omega)]; omega
  have hN0 : ¬ (N : Int) = 0 := by omega
  have hZw : IntKind.u64.wrap ((siz s : Nat) : Int) = ((siz s : Nat) : Int) := by rw [IntKind.wrap_u64]; omega
  rw [hm] at q3 q4 q5 hh
  have q3' : ¬ ((siz s : Nat) : Int) < (m : Int) := by omega
  have hbs : bs s = 4 := by unfold bs; rw [hzb]; rfl
  rw [hbs] at q4
  obtain ⟨m4, hm4⟩ : ∃ m4, 4 + m = m4 := ⟨_, rfl⟩
  have hm4q : (4 : Int) + (m : Int) = (m4 : Int) := by omega
  have hm4w : IntKind.u64.wrap (m4 : Int) = (m4 : Int) := by rw [IntKind.wrap_u64]; omega
  obtain ⟨ms, hms⟩ : ∃ ms, m4 + 4 = ms := ⟨_, rfl⟩
  have hmsq : (m4 : Int) + 4 = (ms : Int) := by omega
  have hmsw : IntKind.u64.wrap (ms : Int) = (ms : Int) := by rw [IntKind.wrap_u64]; omega
  have HH4 := B.has ms _ rfl (by omega) true (decide_eq_true (by omega))
  have hmw : IntKind.i64.wrap (m : Int) = (m : Int) := by rw [IntKind.wrap_i64]; omega
  obtain ⟨pm, hpm⟩ : ∃ pm, p4 + m = pm := ⟨_, rfl⟩
  have hpmq : (p4 : Int) + (m : Int) = (pm : Int) := by omega
  have hpmw : IntKind.i64.wrap (pm : Int) = (pm : Int) := by rw [IntKind.wrap_i64]; omega
  have hy1 : (pm : Int) ≤ (c : Int) := by omega
  have hy2 : (p4 : Int) ≤ (pm : Int) := by omega
  have hy3 : pm - p4 = m := by omega
  have hy4 : (0 : Int) ≤ (p4 : Int) := by omega
  obtain ⟨pm4, hpm4⟩ : ∃ pm4, pm + 4 = pm4 := ⟨_, rfl⟩
  have hx1q : (pm : Int) + 4 = (pm4 : Int) := by omega
  have hx1 : (pm4 : Int) ≤ (c : Int) := by omega
  have hx2 : (pm : Int) ≤ (pm4 : Int) := by omega
  have hx3 : pm4 - pm = 4 := by omega
  have hx4 : ¬ c = pm := by omega
  have HN2 : Hid (∀ V, Nw W1 V → Calls Try.prog 51 #[.slice (some ⟨g, o + pm, none⟩) 4 (c - pm)] V fun e w1 => e = .returned (.int .u64 (le (tk b pm 4))) ∧ w1 = V) := fun V hV => dnumber_any _ _ _ V ((B.rf hV).sl pm 4 (by omega)) (by rw [tk_length _ _ _ (by omega)]; decide)
  have HS2 : Hid (∀ V, Nw W1 V → Calls Try.prog 45 #[.int .u32 0, .slice (some ⟨g, o + p4, none⟩) m (c - p4)] V fun e w1 => e = .returned (.int .u32 (sm (tk b p4 m))) ∧ BF rb fb w.heap.size g o c b.length p most ao out.length ko f.blocks s w1 ∧ Hid (Nw W1 w1)) := by
    intro V hV
    have hR := B.rf hV
    refine (rsum32_any 0#32 _ (tk b p4 m) V ((hR.sl p4 m (by omega)).mono (fun k hk => by have := hR.lt rb hR.kr; have := hR.dr; show D ≤ k; omega))).mono ?_
    rintro e w1 ⟨rfl, h1⟩
    exact ⟨rfl, B.bf (hV.trans h1), hV.trans h1⟩
  obtain ⟨Q, hQ⟩ : ∃ Q, le (tk b pm 4) = Q := ⟨_, rfl⟩
  obtain ⟨SM, hSM⟩ : ∃ SM, sm (tk b p4 m) = SM := ⟨_, rfl⟩
  have hSl : SM < 4294967296 := by rw [← hSM]; exact sm_lt _
  have hSw : IntKind.u64.wrap (SM : Int) = (SM : Int) := by rw [IntKind.wrap_u64]; omega
  rw [hQ] at HN2
  rw [hSM] at HS2
  rw [← hp4] at hSM
  rw [hp4, hpm] at hh
  rw [hp4, hpm, ← hp4, hQ, hSM] at q5
  have hy5 : ¬ c = p4 := by omega
  have hne : ((Q : Int) != (SM : Int)) = true := by simp; omega
  have HB : Hid (∀ V, Nw W1 V → P (.returned (.tuple #[.bool false, .int .i64 pm, .int .i64 44])) V) := fun V => HBAD.out _ _ V hh
  have HZB : Hid (s.bsum = true) := hzb
  rw [hzb] at HSZ
  clear hzb
  clear hh hQ hSM B hP hW1 HBAD
  generalize b.length = L at *
  generalize out.length = ol at *
  generalize siz s = Z at *
  go_enter Try.func49, Try.ntmps49
  go_upto_region 1 with fail
  rw [HW1.out]
  go_upto_region 3 with (first | (go_at_call 34; (with_reducible refine (HH1.out _ HN0.out).mono ?_); rintro e w1 ⟨rfl, hk1, H1⟩))
  have HNU1 : Hid (Calls Try.prog 51 #[.slice (some ⟨g, o + p, none⟩) 4 (c - p)] w1.drew _) := HNU.out _ H1.out
  have kk0 := hk1.1
  have kk1 : RK rb g o c L p w1.drew := hk1.1
  unfold RK at kk0 kk1
  clear r0 r1 r2 r3 r4 r5 r6 s0 s1 s2 s3 s4 HNU HH1
  go_region_held3 (fun w' => w'.cell? ⟨rb, 0, none⟩ = some (.slice (some ⟨g, o, none⟩) L c) ∧ w'.cell? ⟨rb, 1, none⟩ = some (.int .i64 p) ∧ w'.frozen? ⟨rb, 1, none⟩ = false)
    (first | assumption)
    (first | (go_at_call 51; (with_reducible refine HNU1.out.mono ?_); rintro e w2 ⟨rfl, hk2, H2⟩; have kk2 := hk2.1; unfold RK at kk2))
  obtain ⟨⟨r0, r1, r2⟩, ⟨r3, r4⟩, ⟨r5, r6⟩, ⟨s0, s1, s2, s3, s4⟩⟩ := hk2
  clear kk0 kk1 kk2 hk1 HNU1
  rw [HZB.out] at s2
  go_wp2_with (first | (go_at_call 42; (with_reducible refine (HSZ.out _ H2.out).mono ?_); rintro e w3 ⟨rfl, ⟨⟨r0, r1, r2⟩, ⟨r3, r4⟩, ⟨r5, r6⟩, ⟨s0, s1, s2, s3, s4⟩⟩, H3⟩; rw [HZB.out] at s2) | (go_at_call 34; (with_reducible refine (HH4.out _ H3.out).mono ?_); rintro e w4 ⟨rfl, ⟨⟨r0, r1, r2⟩, ⟨r3, r4⟩, ⟨r5, r6⟩, ⟨s0, s1, s2, s3, s4⟩⟩, H4⟩; rw [HZB.out] at s2) | (go_at_call 51; (with_reducible refine (HN2.out _ H4.out).mono ?_); rintro e w4' ⟨rfl, rfl⟩) | (go_at_call 45; (with_reducible refine (HS2.out _ H4.out).mono ?_); rintro e w5 ⟨rfl, ⟨⟨r0, r1, r2⟩, ⟨r3, r4⟩, ⟨r5, r6⟩, ⟨s0, s1, s2, s3, s4⟩⟩, H5⟩; rw [HZB.out] at s2))
  exact HB.out _ H5.out
set_option maxHeartbeats 16000000 in
set_option maxRecDepth 100000 in
theorem eblock_L6t (B : BS D rb g o c b most p out K w fb f s ao ko W1) (hW1 : w.alloc (.cells #[.int .i64 s.block, .bool s.alone, .bool s.bsum, .bool s.csum, .bool s.csize] 24) = W1) (began : Nat) (q1 : ¬ b.length < p + 4) (q2 : ¬ le (tk b p 4) = 0) (q3 : ¬ siz s < le (tk b p 4) % 2147483648) (q4 : ¬ b.length < p + 4 + le (tk b p 4) % 2147483648 + bs s) (hzb : s.bsum = true) (q5 : le (tk b (p + 4 + le (tk b p 4) % 2147483648) 4) = sm (tk b (p + 4) (le (tk b p 4) % 2147483648))) (q7 : 2147483648 ≤ le (tk b p 4)) (q8 : most - out.length < le (tk b p 4) % 2147483648) :
    Calls Try.prog 49 #[.pointer (some ⟨rb, 0, none⟩), .agg #[.int .i64 s.block, .bool s.alone, .bool s.bsum, .bool s.csum, .bool s.csize], .pointer (some ⟨fb, 0, none⟩), .int .i64 began] w (EBk D rb g o c b most p out K w fb f (blockF b most s began p out)) := by
  obtain ⟨P, hP⟩ : ∃ P : Ending → World → Prop, P = EBk D rb g o c b most p out K w fb f (blockF b most s began p out) := ⟨_, rfl⟩
  rw [← hP]
  have hbl := B.h.bl
  have hpl := B.h.pl
  have hcb := B.h.hc
  have hc2 := B.h.hc2
  have hol := B.h.ol
  have hml := B.h.ml
  have HW1 : Hid (w.alloc (.cells #[.int .i64 s.block, .bool s.alone, .bool s.bsum, .bool s.csum, .bool s.csize] 24) = W1) := hW1
  have HBAD : Hid (∀ (a y : Nat) V, blockF b most s began p out = .bad a y → Nw W1 V → P (.returned (.tuple #[.bool false, .int .i64 a, .int .i64 y])) V) := fun a y V h1 h2 => by
    rw [hP, h1]; exact ⟨(B.hN1.trans h2).any, rfl⟩
  have HSH := B.short
  have HSZ := B.size
  have hZ4 := B.siz_le
  have HN0 : Hid (Nw W1 W1) := Fr.refl _ _
  obtain ⟨⟨r0, r1, r2⟩, ⟨r3, r4⟩, ⟨r5, r6⟩, ⟨s0, s1, s2, s3, s4⟩⟩ := B.bf (Fr.refl _ W1)
  have hpre : blockF b most s began p out = .bad (p + 4) 32 := by unfold blockF; rw [if_neg q1, if_neg q2, if_neg q3, if_neg q4, if_neg (fun hx => hx.2 q5), if_pos q7, if_pos q8]
  obtain ⟨p4, hp4⟩ : ∃ p4, p + 4 = p4 := ⟨_, rfl⟩
  have hp4q : (p : Int) + 4 = (p4 : Int) := by omega
  have hz1 : (p4 : Int) ≤ (c : Int) := by omega
  have hz2 : (p : Int) ≤ (p4 : Int) := by omega
  have hz3 : p4 - p = 4 := by omega
  have hz4 : ¬ c = p := by omega
  have hz5 : p4 ≤ c := by omega
  have hz6 : p ≤ p4 := by omega
  have hz7 : IntKind.i64.wrap (p4 : Int) = (p4 : Int) := by rw [IntKind.wrap_i64]; omega
  have hz8 : (0 : Int) ≤ (p : Int) := by omega
  have hNl : le (tk b p 4) < 4294967296 := by have := le_lt (tk b p 4); rw [tk_length _ _ _ (by omega)] at this; exact this
  have HH1 := B.has 4 4 rfl (by decide) true (decide_eq_true (by omega))
  have HNU := B.num (by omega)
  obtain ⟨N, hNe⟩ : ∃ N, le (tk b p 4) = N := ⟨_, rfl⟩
  rw [hNe] at hNl HNU
  rw [hNe] at q2 q3 q4 q7 q8 q5
  obtain ⟨m, hm⟩ : ∃ m, N % 2147483648 = m := ⟨_, rfl⟩
  have hmq : (N : Int) % 2147483648 = (m : Int) := by omega
  have hmt : Int.tmod (N : Int) 2147483648 = (m : Int) := by rw [Int.tmod_eq_emod_of_nonneg (by omega)]; omega
  have hN0 : ¬ (N : Int) = 0 := by omega
  have hZw : IntKind.u64.wrap ((siz s : Nat) : Int) = ((siz s : Nat) : Int) := by rw [IntKind.wrap_u64]; omega
  rw [hm] at q3 q4 q8 q5
  have q3' : ¬ ((siz s : Nat) : Int) < (m : Int) := by omega
  have hbs : bs s = 4 := by unfold bs; rw [hzb]; rfl
  rw [hbs] at q4
  obtain ⟨m4, hm4⟩ : ∃ m4, 4 + m = m4 := ⟨_, rfl⟩
  have hm4q : (4 : Int) + (m : Int) = (m4 : Int) := by omega
  have hm4w : IntKind.u64.wrap (m4 : Int) = (m4 : Int) := by rw [IntKind.wrap_u64]; omega
  obtain ⟨ms, hms⟩ : ∃ ms, m4 + 4 = ms := ⟨_, rfl⟩
  have hmsq : (m4 : Int) + 4 = (ms : Int) := by omega
  have hmsw : IntKind.u64.wrap (ms : Int) = (ms : Int) := by rw [IntKind.wrap_u64]; omega
  have HH4 := B.has ms _ rfl (by omega) true (decide_eq_true (by omega))
  have hmw : IntKind.i64.wrap (m : Int) = (m : Int) := by rw [IntKind.wrap_i64]; omega
  obtain ⟨pm, hpm⟩ : ∃ pm, p4 + m = pm := ⟨_, rfl⟩
  have hpmq : (p4 : Int) + (m : Int) = (pm : Int) := by omega
  have hpmw : IntKind.i64.wrap (pm : Int) = (pm : Int) := by rw [IntKind.wrap_i64]; omega
  have hy1 : (pm : Int) ≤ (c : Int) := by omega
  have hy2 : (p4 : Int) ≤ (pm : Int) := by omega
  have hy3 : pm - p4 = m := by omega
  have hy4 : (0 : Int) ≤ (p4 : Int) := by omega
  obtain ⟨pm4, hpm4⟩ : ∃ pm4, pm + 4 = pm4 := ⟨_, rfl⟩
  have hx1q : (pm : Int) + 4 = (pm4 : Int) := by omega
  have hx1 : (pm4 : Int) ≤ (c : Int) := by omega
  have hx2 : (pm : Int) ≤ (pm4 : Int) := by omega
  have hx3 : pm4 - pm = 4 := by omega
  have hx4 : ¬ c = pm := by omega
  have HN2 : Hid (∀ V, Nw W1 V → Calls Try.prog 51 #[.slice (some ⟨g, o + pm, none⟩) 4 (c - pm)] V fun e w1 => e = .returned (.int .u64 (le (tk b pm 4))) ∧ w1 = V) := fun V hV => dnumber_any _ _ _ V ((B.rf hV).sl pm 4 (by omega)) (by rw [tk_length _ _ _ (by omega)]; decide)
  have HS2 : Hid (∀ V, Nw W1 V → Calls Try.prog 45 #[.int .u32 0, .slice (some ⟨g, o + p4, none⟩) m (c - p4)] V fun e w1 => e = .returned (.int .u32 (sm (tk b p4 m))) ∧ BF rb fb w.heap.size g o c b.length p most ao out.length ko f.blocks s w1 ∧ Hid (Nw W1 w1)) := by
    intro V hV
    have hR := B.rf hV
    refine (rsum32_any 0#32 _ (tk b p4 m) V ((hR.sl p4 m (by omega)).mono (fun k hk => by have := hR.lt rb hR.kr; have := hR.dr; show D ≤ k; omega))).mono ?_
    rintro e w1 ⟨rfl, h1⟩
    exact ⟨rfl, B.bf (hV.trans h1), hV.trans h1⟩
  obtain ⟨Q, hQ⟩ : ∃ Q, le (tk b pm 4) = Q := ⟨_, rfl⟩
  obtain ⟨SM, hSM⟩ : ∃ SM, sm (tk b p4 m) = SM := ⟨_, rfl⟩
  have hSl : SM < 4294967296 := by rw [← hSM]; exact sm_lt _
  have hSw : IntKind.u64.wrap (SM : Int) = (SM : Int) := by rw [IntKind.wrap_u64]; omega
  rw [hQ] at HN2
  rw [hSM] at HS2
  rw [← hp4] at hSM
  rw [hp4, hpm, ← hp4, hQ, hSM] at q5
  have hne : ((Q : Int) != (SM : Int)) = false := by simp; omega
  have hy5 : ¬ c = p4 := by omega
  have q7' : (2147483648 : Int) ≤ (N : Int) := by omega
  obtain ⟨lf, hlf⟩ : ∃ lf, most - out.length = lf := ⟨_, rfl⟩
  have hlfq : (most : Int) - (out.length : Int) = (lf : Int) := by omega
  have hlfw : IntKind.i64.wrap (lf : Int) = (lf : Int) := by rw [IntKind.wrap_i64]; omega
  rw [hlf] at q8
  have hb1 := B.hb1
  have hb2 := B.hb2
  have hzB : (f.blocks : Int) + 1 = ((f.blocks + 1 : Nat) : Int) := by omega
  have hzBw : IntKind.i64.wrap ((f.blocks + 1 : Nat) : Int) = ((f.blocks + 1 : Nat) : Int) := by rw [IntKind.wrap_i64]; omega
  have KBF : Hid (∀ V, Nw W1 V → BF rb fb w.heap.size g o c b.length p most ao out.length ko f.blocks s V) := fun V hV => B.bf hV
  have q8' : (lf : Int) < (m : Int) := by omega
  rw [hp4] at hpre
  have HF : Hid (∀ V, Nw W1 V → P (.returned (.tuple #[.bool false, .int .i64 p4, .int .i64 32])) (V.setCell ⟨fb, 9, none⟩ (.int .i64 ((f.blocks + 1 : Nat) : Int)))) := fun V hV => by
    rw [hP, hpre]
    exact ⟨(B.up hV).2.2.2.2, rfl⟩
  have HZB : Hid (s.bsum = true) := hzb
  rw [hzb] at HSZ
  clear hzb
  clear hpre hQ hSM q5 B hP hW1 HBAD
  generalize b.length = L at *
  generalize out.length = ol at *
  generalize siz s = Z at *
  generalize f.blocks + 1 = B1 at *
  generalize f.plain + 1 = L1 at *
  go_enter Try.func49, Try.ntmps49
  go_upto_region 1 with fail
  rw [HW1.out]
  go_upto_region 3 with (first | (go_at_call 34; (with_reducible refine (HH1.out _ HN0.out).mono ?_); rintro e w1 ⟨rfl, hk1, H1⟩))
  have HNU1 : Hid (Calls Try.prog 51 #[.slice (some ⟨g, o + p, none⟩) 4 (c - p)] w1.drew _) := HNU.out _ H1.out
  have kk0 := hk1.1
  have kk1 : RK rb g o c L p w1.drew := hk1.1
  unfold RK at kk0 kk1
  clear r0 r1 r2 r3 r4 r5 r6 s0 s1 s2 s3 s4 HNU HH1
  go_region_held3 (fun w' => w'.cell? ⟨rb, 0, none⟩ = some (.slice (some ⟨g, o, none⟩) L c) ∧ w'.cell? ⟨rb, 1, none⟩ = some (.int .i64 p) ∧ w'.frozen? ⟨rb, 1, none⟩ = false)
    (first | assumption)
    (first | (go_at_call 51; (with_reducible refine HNU1.out.mono ?_); rintro e w2 ⟨rfl, hk2, H2⟩; have kk2 := hk2.1; unfold RK at kk2))
  obtain ⟨⟨r0, r1, r2⟩, ⟨r3, r4⟩, ⟨r5, r6⟩, ⟨s0, s1, s2, s3, s4⟩⟩ := hk2
  clear kk0 kk1 kk2 hk1 HNU1
  rw [HZB.out] at s2
  go_upto_region 19 with (first | (go_at_call 42; (with_reducible refine (HSZ.out _ H2.out).mono ?_); rintro e w3 ⟨rfl, ⟨⟨r0, r1, r2⟩, ⟨r3, r4⟩, ⟨r5, r6⟩, ⟨s0, s1, s2, s3, s4⟩⟩, H3⟩; rw [HZB.out] at s2) | (go_at_call 34; (with_reducible refine (HH4.out _ H3.out).mono ?_); rintro e w4 ⟨rfl, ⟨⟨r0, r1, r2⟩, ⟨r3, r4⟩, ⟨r5, r6⟩, ⟨s0, s1, s2, s3, s4⟩⟩, H4⟩; rw [HZB.out] at s2) | (go_at_call 51; (with_reducible refine (HN2.out _ H4.out).mono ?_); rintro e w4' ⟨rfl, rfl⟩) | (go_at_call 45; (with_reducible refine (HS2.out _ H4.out).mono ?_); rintro e w5 ⟨rfl, ⟨⟨r0, r1, r2⟩, ⟨r3, r4⟩, ⟨r5, r6⟩, ⟨s0, s1, s2, s3, s4⟩⟩, H5⟩; rw [HZB.out] at s2))
  go_quiet (fail)
  have hV : Nw W1 (w5.drewN nq) := H5.out.drewN nq
  clear r0 r1 r2 r3 r4 r5 r6 s0 s1 s2 s3 s4
  obtain ⟨⟨r0, r1, r2⟩, ⟨r3, r4⟩, ⟨r5, r6⟩, ⟨s0, s1, s2, s3, s4⟩⟩ := KBF.out _ hV
  have HF5 := HF.out _ hV
  clear KBF HF HSZ HH4 HSH
  generalize w5.drewN nq = V5 at *
  rw [HZB.out] at s2
  have HF6 : Hid (P (.returned (.tuple #[.bool false, .int .i64 p4, .int .i64 32])) (V5.setCell ⟨fb, 9, none⟩ (.int .i64 B1))) := HF5
  clear HF5
  go_wp2_with fail
  exact HF6.out
set_option maxHeartbeats 16000000 in
set_option maxRecDepth 100000 in
theorem eblock_L6f (B : BS D rb g o c b most p out K w fb f s ao ko W1) (hW1 : w.alloc (.cells #[.int .i64 s.block, .bool s.alone, .bool s.bsum, .bool s.csum, .bool s.csize] 24) = W1) (began : Nat) (q1 : ¬ b.length < p + 4) (q2 : ¬ le (tk b p 4) = 0) (q3 : ¬ siz s < le (tk b p 4) % 2147483648) (q4 : ¬ b.length < p + 4 + le (tk b p 4) % 2147483648 + bs s) (hzb : s.bsum = false) (q7 : 2147483648 ≤ le (tk b p 4)) (q8 : most - out.length < le (tk b p 4) % 2147483648) :
    Calls Try.prog 49 #[.pointer (some ⟨rb, 0, none⟩), .agg #[.int .i64 s.block, .bool s.alone, .bool s.bsum, .bool s.csum, .bool s.csize], .pointer (some ⟨fb, 0, none⟩), .int .i64 began] w (EBk D rb g o c b most p out K w fb f (blockF b most s began p out)) := by
  obtain ⟨P, hP⟩ : ∃ P : Ending → World → Prop, P = EBk D rb g o c b most p out K w fb f (blockF b most s began p out) := ⟨_, rfl⟩
  rw [← hP]
  have hbl := B.h.bl
  have hpl := B.h.pl
  have hcb := B.h.hc
  have hc2 := B.h.hc2
  have hol := B.h.ol
  have hml := B.h.ml
  have HW1 : Hid (w.alloc (.cells #[.int .i64 s.block, .bool s.alone, .bool s.bsum, .bool s.csum, .bool s.csize] 24) = W1) := hW1
  have HBAD : Hid (∀ (a y : Nat) V, blockF b most s began p out = .bad a y → Nw W1 V → P (.returned (.tuple #[.bool false, .int .i64 a, .int .i64 y])) V) := fun a y V h1 h2 => by
    rw [hP, h1]; exact ⟨(B.hN1.trans h2).any, rfl⟩
  have HSH := B.short
  have HSZ := B.size
  have hZ4 := B.siz_le
  have HN0 : Hid (Nw W1 W1) := Fr.refl _ _
  obtain ⟨⟨r0, r1, r2⟩, ⟨r3, r4⟩, ⟨r5, r6⟩, ⟨s0, s1, s2, s3, s4⟩⟩ := B.bf (Fr.refl _ W1)
  have hpre : blockF b most s began p out = .bad (p + 4) 32 := by unfold blockF; rw [if_neg q1, if_neg q2, if_neg q3, if_neg q4, if_neg (fun hx => by rw [hzb] at hx; exact absurd hx.1 (by decide)), if_pos q7, if_pos q8]
  obtain ⟨p4, hp4⟩ : ∃ p4, p + 4 = p4 := ⟨_, rfl⟩
  have hp4q : (p : Int) + 4 = (p4 : Int) := by omega
  have hz1 : (p4 : Int) ≤ (c : Int) := by omega
  have hz2 : (p : Int) ≤ (p4 : Int) := by omega
  have hz3 : p4 - p = 4 := by omega
  have hz4 : ¬ c = p := by omega
  have hz5 : p4 ≤ c := by omega
  have hz6 : p ≤ p4 := by omega
  have hz7 : IntKind.i64.wrap (p4 : Int) = (p4 : Int) := by rw [IntKind.wrap_i64]; omega
  have hz8 : (0 : Int) ≤ (p : Int) := by omega
  have hNl : le (tk b p 4) < 4294967296 := by have := le_lt (tk b p 4); rw [tk_length _ _ _ (by omega)] at this; exact this
  have HH1 := B.has 4 4 rfl (by decide) true (decide_eq_true (by omega))
  have HNU := B.num (by omega)
  obtain ⟨N, hNe⟩ : ∃ N, le (tk b p 4) = N := ⟨_, rfl⟩
  rw [hNe] at hNl HNU
  rw [hNe] at q2 q3 q4 q7 q8
  obtain ⟨m, hm⟩ : ∃ m, N % 2147483648 = m := ⟨_, rfl⟩
  have hmq : (N : Int) % 2147483648 = (m : Int) := by omega
  have hmt : Int.tmod (N : Int) 2147483648 = (m : Int) := by rw [Int.tmod_eq_emod_of_nonneg (by omega)]; omega
  have hN0 : ¬ (N : Int) = 0 := by omega
  have hZw : IntKind.u64.wrap ((siz s : Nat) : Int) = ((siz s : Nat) : Int) := by rw [IntKind.wrap_u64]; omega
  rw [hm] at q3 q4 q8
  have q3' : ¬ ((siz s : Nat) : Int) < (m : Int) := by omega
  have hbs : bs s = 0 := by unfold bs; rw [hzb]; rfl
  rw [hbs] at q4
  obtain ⟨m4, hm4⟩ : ∃ m4, 4 + m = m4 := ⟨_, rfl⟩
  have hm4q : (4 : Int) + (m : Int) = (m4 : Int) := by omega
  have hm4w : IntKind.u64.wrap (m4 : Int) = (m4 : Int) := by rw [IntKind.wrap_u64]; omega
  obtain ⟨ms, hms⟩ : ∃ ms, m4 + 0 = ms := ⟨_, rfl⟩
  have hmsq : (m4 : Int) + 0 = (ms : Int) := by omega
  have hmsw : IntKind.u64.wrap (ms : Int) = (ms : Int) := by rw [IntKind.wrap_u64]; omega
  have HH4 := B.has ms _ rfl (by omega) true (decide_eq_true (by omega))
  have hmw : IntKind.i64.wrap (m : Int) = (m : Int) := by rw [IntKind.wrap_i64]; omega
  obtain ⟨pm, hpm⟩ : ∃ pm, p4 + m = pm := ⟨_, rfl⟩
  have hpmq : (p4 : Int) + (m : Int) = (pm : Int) := by omega
  have hpmw : IntKind.i64.wrap (pm : Int) = (pm : Int) := by rw [IntKind.wrap_i64]; omega
  have hy1 : (pm : Int) ≤ (c : Int) := by omega
  have hy2 : (p4 : Int) ≤ (pm : Int) := by omega
  have hy3 : pm - p4 = m := by omega
  have hy4 : (0 : Int) ≤ (p4 : Int) := by omega
  have hy5 : ¬ c = p4 := by omega
  have q7' : (2147483648 : Int) ≤ (N : Int) := by omega
  obtain ⟨lf, hlf⟩ : ∃ lf, most - out.length = lf := ⟨_, rfl⟩
  have hlfq : (most : Int) - (out.length : Int) = (lf : Int) := by omega
  have hlfw : IntKind.i64.wrap (lf : Int) = (lf : Int) := by rw [IntKind.wrap_i64]; omega
  rw [hlf] at q8
  have hb1 := B.hb1
  have hb2 := B.hb2
  have hzB : (f.blocks : Int) + 1 = ((f.blocks + 1 : Nat) : Int) := by omega
  have hzBw : IntKind.i64.wrap ((f.blocks + 1 : Nat) : Int) = ((f.blocks + 1 : Nat) : Int) := by rw [IntKind.wrap_i64]; omega
  have KBF : Hid (∀ V, Nw W1 V → BF rb fb w.heap.size g o c b.length p most ao out.length ko f.blocks s V) := fun V hV => B.bf hV
  have q8' : (lf : Int) < (m : Int) := by omega
  rw [hp4] at hpre
  have HF : Hid (∀ V, Nw W1 V → P (.returned (.tuple #[.bool false, .int .i64 p4, .int .i64 32])) (V.setCell ⟨fb, 9, none⟩ (.int .i64 ((f.blocks + 1 : Nat) : Int)))) := fun V hV => by
    rw [hP, hpre]
    exact ⟨(B.up hV).2.2.2.2, rfl⟩
  have HZB : Hid (s.bsum = false) := hzb
  rw [hzb] at HSZ
  clear hzb
  clear hpre  B hP hW1 HBAD
  obtain rfl : m4 = ms := by omega
  generalize b.length = L at *
  generalize out.length = ol at *
  generalize siz s = Z at *
  generalize f.blocks + 1 = B1 at *
  generalize f.plain + 1 = L1 at *
  go_enter Try.func49, Try.ntmps49
  go_upto_region 1 with fail
  rw [HW1.out]
  go_upto_region 3 with (first | (go_at_call 34; (with_reducible refine (HH1.out _ HN0.out).mono ?_); rintro e w1 ⟨rfl, hk1, H1⟩))
  have HNU1 : Hid (Calls Try.prog 51 #[.slice (some ⟨g, o + p, none⟩) 4 (c - p)] w1.drew _) := HNU.out _ H1.out
  have kk0 := hk1.1
  have kk1 : RK rb g o c L p w1.drew := hk1.1
  unfold RK at kk0 kk1
  clear r0 r1 r2 r3 r4 r5 r6 s0 s1 s2 s3 s4 HNU HH1
  go_region_held3 (fun w' => w'.cell? ⟨rb, 0, none⟩ = some (.slice (some ⟨g, o, none⟩) L c) ∧ w'.cell? ⟨rb, 1, none⟩ = some (.int .i64 p) ∧ w'.frozen? ⟨rb, 1, none⟩ = false)
    (first | assumption)
    (first | (go_at_call 51; (with_reducible refine HNU1.out.mono ?_); rintro e w2 ⟨rfl, hk2, H2⟩; have kk2 := hk2.1; unfold RK at kk2))
  obtain ⟨⟨r0, r1, r2⟩, ⟨r3, r4⟩, ⟨r5, r6⟩, ⟨s0, s1, s2, s3, s4⟩⟩ := hk2
  clear kk0 kk1 kk2 hk1 HNU1
  rw [HZB.out] at s2
  go_upto_region 19 with (first | (go_at_call 42; (with_reducible refine (HSZ.out _ H2.out).mono ?_); rintro e w3 ⟨rfl, ⟨⟨r0, r1, r2⟩, ⟨r3, r4⟩, ⟨r5, r6⟩, ⟨s0, s1, s2, s3, s4⟩⟩, H3⟩; rw [HZB.out] at s2) | (go_at_call 34; (with_reducible refine (HH4.out _ H3.out).mono ?_); rintro e w4 ⟨rfl, ⟨⟨r0, r1, r2⟩, ⟨r3, r4⟩, ⟨r5, r6⟩, ⟨s0, s1, s2, s3, s4⟩⟩, H4⟩; rw [HZB.out] at s2))
  go_quiet (fail)
  have hV : Nw W1 (w4.drewN nq) := H4.out.drewN nq
  clear r0 r1 r2 r3 r4 r5 r6 s0 s1 s2 s3 s4
  obtain ⟨⟨r0, r1, r2⟩, ⟨r3, r4⟩, ⟨r5, r6⟩, ⟨s0, s1, s2, s3, s4⟩⟩ := KBF.out _ hV
  have HF5 := HF.out _ hV
  clear KBF HF HSZ HH4 HSH
  generalize w4.drewN nq = V5 at *
  rw [HZB.out] at s2
  have HF6 : Hid (P (.returned (.tuple #[.bool false, .int .i64 p4, .int .i64 32])) (V5.setCell ⟨fb, 9, none⟩ (.int .i64 B1))) := HF5
  clear HF5
  go_wp2_with fail
  exact HF6.out
end Go.Proofs.Ytdeefemeiggolaa

import Derived.Test.YtdeefemeiggolaaRf
namespace Go.Proofs.Ytdeefemeiggolaa
open Go.RowKit
set_option linter.unusedVariables false
variable {D rb g o c : Nat} {b : List By} {most p : Nat} {out : List By} {K : Nat → Prop} {w : World} {fb : Nat} {f : Fm} {s : Shp} {ao : Option Addr} {ko : Nat} {W1 : World}
set_option maxHeartbeats 16000000 in
set_option maxRecDepth 100000 in
theorem eblock_L1 (B : BS D rb g o c b most p out K w fb f s ao ko W1) (hW1 : w.alloc (.cells #[.int .i64 s.block, .bool s.alone, .bool s.bsum, .bool s.csum, .bool s.csize] 24) = W1) (began : Nat) (q1 : b.length < p + 4) :
    Calls Try.prog 49 #[.pointer (some ⟨rb, 0, none⟩), .agg #[.int .i64 s.block, .bool s.alone, .bool s.bsum, .bool s.csum, .bool s.csize], .pointer (some ⟨fb, 0, none⟩), .int .i64 began] w (EBk D rb g o c b most p out K w fb f (blockF b most s began p out)) := by
  obtain ⟨P, hP⟩ : ∃ P : Ending → World → Prop, P = EBk D rb g o c b most p out K w fb f (blockF b most s began p out) := ⟨_, rfl⟩
  rw [← hP]
  have hbl := B.h.bl
  have hpl := B.h.pl
  have hcb := B.h.hc
  have hc2 := B.h.hc2
  have hol := B.h.ol
  have hml := B.h.ml
  have HW1 : Hid (w.alloc (.cells #[.int .i64 s.block, .bool s.alone, .bool s.bsum, .bool s.csum, .bool s.csize] 24) = W1) := hW1
  have HBAD : Hid (∀ (a y : Nat) V, blockF b most s began p out = .bad a y → Nw W1 V → P (.returned (.tuple #[.bool false, .int .i64 a, .int .i64 y])) V) := fun a y V h1 h2 => by
    rw [hP, h1]; exact ⟨(B.hN1.trans h2).any, rfl⟩
  have HSH := B.short
  have HSZ := B.size
  have hZ4 := B.siz_le
  have HN0 : Hid (Nw W1 W1) := Fr.refl _ _
  obtain ⟨⟨r0, r1, r2⟩, ⟨r3, r4⟩, ⟨r5, r6⟩, ⟨s0, s1, s2, s3, s4⟩⟩ := B.bf (Fr.refl _ W1)
  have hh : blockF b most s began p out = .bad b.length 4 := by unfold blockF; rw [if_pos q1]
  have HH1 := B.has 4 4 rfl (by decide) false (decide_eq_false (by omega))
  have HB : Hid (∀ V, Nw W1 V → P (.returned (.tuple #[.bool false, .int .i64 b.length, .int .i64 4])) V) := fun V => HBAD.out _ _ V hh
  clear B hP hW1 HBAD
  generalize b.length = L at *
  generalize out.length = ol at *
  go_enter Try.func49, Try.ntmps49
  go_upto_region 1 with fail
  rw [HW1.out]
  go_wp2_with (first | (go_at_call 34; (with_reducible refine (HH1.out _ HN0.out).mono ?_); rintro e w1 ⟨rfl, ⟨⟨r0, r1, r2⟩, ⟨r3, r4⟩, ⟨r5, r6⟩, ⟨s0, s1, s2, s3, s4⟩⟩, H1⟩) | (go_at_call 50; (with_reducible refine (HSH.out _ H1.out).mono ?_); rintro e ws ⟨rfl, rfl⟩))
  exact HB.out _ H1.out
set_option maxHeartbeats 16000000 in
set_option maxRecDepth 100000 in
theorem eblock_L2 (B : BS D rb g o c b most p out K w fb f s ao ko W1) (hW1 : w.alloc (.cells #[.int .i64 s.block, .bool s.alone, .bool s.bsum, .bool s.csum, .bool s.csize] 24) = W1) (began : Nat) (q1 : ¬ b.length < p + 4) (q2 : le (tk b p 4) = 0) :
    Calls Try.prog 49 #[.pointer (some ⟨rb, 0, none⟩), .agg #[.int .i64 s.block, .bool s.alone, .bool s.bsum, .bool s.csum, .bool s.csize], .pointer (some ⟨fb, 0, none⟩), .int .i64 began] w (EBk D rb g o c b most p out K w fb f (blockF b most s began p out)) := by
  obtain ⟨P, hP⟩ : ∃ P : Ending → World → Prop, P = EBk D rb g o c b most p out K w fb f (blockF b most s began p out) := ⟨_, rfl⟩
  rw [← hP]
  have hbl := B.h.bl
  have hpl := B.h.pl
  have hcb := B.h.hc
  have hc2 := B.h.hc2
  have hol := B.h.ol
  have hml := B.h.ml
  have HW1 : Hid (w.alloc (.cells #[.int .i64 s.block, .bool s.alone, .bool s.bsum, .bool s.csum, .bool s.csize] 24) = W1) := hW1
  have HBAD : Hid (∀ (a y : Nat) V, blockF b most s began p out = .bad a y → Nw W1 V → P (.returned (.tuple #[.bool false, .int .i64 a, .int .i64 y])) V) := fun a y V h1 h2 => by
    rw [hP, h1]; exact ⟨(B.hN1.trans h2).any, rfl⟩
  have HSH := B.short
  have HSZ := B.size
  have hZ4 := B.siz_le
  have HN0 : Hid (Nw W1 W1) := Fr.refl _ _
  obtain ⟨⟨r0, r1, r2⟩, ⟨r3, r4⟩, ⟨r5, r6⟩, ⟨s0, s1, s2, s3, s4⟩⟩ := B.bf (Fr.refl _ W1)
  have hh : blockF b most s began p out = .fin := by unfold blockF; rw [if_neg q1, if_pos q2]
  obtain ⟨p4, hp4⟩ : ∃ p4, p + 4 = p4 := ⟨_, rfl⟩
  have hp4q : (p : Int) + 4 = (p4 : Int) := by omega
  have hz1 : (p4 : Int) ≤ (c : Int) := by omega
  have hz2 : (p : Int) ≤ (p4 : Int) := by omega
  have hz3 : p4 - p = 4 := by omega
  have hz4 : ¬ c = p := by omega
  have hz5 : p4 ≤ c := by omega
  have hz6 : p ≤ p4 := by omega
  have hz7 : IntKind.i64.wrap (p4 : Int) = (p4 : Int) := by rw [IntKind.wrap_i64]; omega
  have hz8 : (0 : Int) ≤ (p : Int) := by omega
  have hNl : le (tk b p 4) < 4294967296 := by have := le_lt (tk b p 4); rw [tk_length _ _ _ (by omega)] at this; exact this
  have HH1 := B.has 4 4 rfl (by decide) true (decide_eq_true (by omega))
  have HNU := B.num (by omega)
  obtain ⟨N, hNe⟩ : ∃ N, le (tk b p 4) = N := ⟨_, rfl⟩
  rw [hNe] at hNl HNU
  obtain rfl : N = 0 := by omega
  have HF : Hid (∀ V, Nw W1 V → P (.returned (.tuple #[.bool true, .int .i64 0, .int .i64 0])) V) := fun V hV => by
    rw [hP, hh]
    exact ⟨(B.hN1.trans hV).any, rfl, B.rf hV, B.hf.nw (B.hN1.trans hV)⟩
  clear B hP hW1 HBAD
  generalize b.length = L at *
  generalize out.length = ol at *
  go_enter Try.func49, Try.ntmps49
  go_upto_region 1 with fail
  rw [HW1.out]
  go_upto_region 3 with (first | (go_at_call 34; (with_reducible refine (HH1.out _ HN0.out).mono ?_); rintro e w1 ⟨rfl, hk1, H1⟩))
  have HNU1 : Hid (Calls Try.prog 51 #[.slice (some ⟨g, o + p, none⟩) 4 (c - p)] w1.drew _) := HNU.out _ H1.out
  have kk0 := hk1.1
  have kk1 : RK rb g o c L p w1.drew := hk1.1
  unfold RK at kk0 kk1
  clear r0 r1 r2 r3 r4 r5 r6 s0 s1 s2 s3 s4 HNU HH1
  go_region_held3 (fun w' => w'.cell? ⟨rb, 0, none⟩ = some (.slice (some ⟨g, o, none⟩) L c) ∧ w'.cell? ⟨rb, 1, none⟩ = some (.int .i64 p) ∧ w'.frozen? ⟨rb, 1, none⟩ = false)
    (first | assumption)
    (first | (go_at_call 51; (with_reducible refine HNU1.out.mono ?_); rintro e w2 ⟨rfl, hk2, H2⟩; have kk2 := hk2.1; unfold RK at kk2))
  obtain ⟨⟨r0, r1, r2⟩, ⟨r3, r4⟩, ⟨r5, r6⟩, ⟨s0, s1, s2, s3, s4⟩⟩ := hk2
  clear kk0 kk1 kk2 hk1 HNU1
  go_wp2_with fail
  exact HF.out _ H2.out
set_option maxHeartbeats 16000000 in
set_option maxRecDepth 100000 in
theorem eblock_L3 (B : BS D rb g o c b most p out K w fb f s ao ko W1) (hW1 : w.alloc (.cells #[.int .i64 s.block, .bool s.alone, .bool s.bsum, .bool s.csum, .bool s.csize] 24) = W1) (began : Nat) (q1 : ¬ b.length < p + 4) (q2 : ¬ le (tk b p 4) = 0) (q3 : siz s < le (tk b p 4) % 2147483648) :
    Calls Try.prog 49 #[.pointer (some ⟨rb, 0, none⟩), .agg #[.int .i64 s.block, .bool s.alone, .bool s.bsum, .bool s.csum, .bool s.csize], .pointer (some ⟨fb, 0, none⟩), .int .i64 began] w (EBk D rb g o c b most p out K w fb f (blockF b most s began p out)) := by
  obtain ⟨P, hP⟩ : ∃ P : Ending → World → Prop, P = EBk D rb g o c b most p out K w fb f (blockF b most s began p out) := ⟨_, rfl⟩
  rw [← hP]
  have hbl := B.h.bl
  have hpl := B.h.pl
  have hcb := B.h.hc
  have hc2 := B.h.hc2
  have hol := B.h.ol
  have hml := B.h.ml
  have HW1 : Hid (w.alloc (.cells #[.int .i64 s.block, .bool s.alone, .bool s.bsum, .bool s.csum, .bool s.csize] 24) = W1) := hW1
  have HBAD : Hid (∀ (a y : Nat) V, blockF b most s began p out = .bad a y → Nw W1 V → P (.returned (.tuple #[.bool false, .int .i64 a, .int .i64 y])) V) := fun a y V h1 h2 => by
    rw [hP, h1]; exact ⟨(B.hN1.trans h2).any, rfl⟩
  have HSH := B.short
  have HSZ := B.size
  have hZ4 := B.siz_le
  have HN0 : Hid (Nw W1 W1) := Fr.refl _ _
  obtain ⟨⟨r0, r1, r2⟩, ⟨r3, r4⟩, ⟨r5, r6⟩, ⟨s0, s1, s2, s3, s4⟩⟩ := B.bf (Fr.refl _ W1)
  have hh : blockF b most s began p out = .bad p 43 := by unfold blockF; rw [if_neg q1, if_neg q2, if_pos q3]
  obtain ⟨p4, hp4⟩ : ∃ p4, p + 4 = p4 := ⟨_, rfl⟩
  have hp4q : (p : Int) + 4 = (p4 : Int) := by omega
  have hz1 : (p4 : Int) ≤ (c : Int) := by omega
  have hz2 : (p : Int) ≤ (p4 : Int) := by omega
  have hz3 : p4 - p = 4 := by omega
  have hz4 : ¬ c = p := by omega
  have hz5 : p4 ≤ c := by omega
  have hz6 : p ≤ p4 := by omega
  have hz7 : IntKind.i64.wrap (p4 : Int) = (p4 : Int) := by rw [IntKind.wrap_i64]; omega
  have hz8 : (0 : Int) ≤ (p : Int) := by omega
  have hNl : le (tk b p 4) < 4294967296 := by have := le_lt (tk b p 4); rw [tk_length _ _ _ (by omega)] at this; exact this
  have HH1 := B.has 4 4 rfl (by decide) true (decide_eq_true (by omega))
  have HNU := B.num (by omega)
  obtain ⟨N, hNe⟩ : ∃ N, le (tk b p 4) = N := ⟨_, rfl⟩
  rw [hNe] at hNl HNU
  rw [hNe] at q2 q3
  obtain ⟨m, hm⟩ : ∃ m, N % 2147483648 = m := ⟨_, rfl⟩
  have hmq : (N : Int) % 2147483648 = (m : Int) := by omega
  have hmt : Int.tmod (N : Int) 2147483648 = (m : Int) := by rw [Int.tmod_eq_emod_of_nonneg (by omega)]; omega
  have hN0 : ¬ (N : Int) = 0 := by omega
  have hZw : IntKind.u64.wrap ((siz s : Nat) : Int) = ((siz s : Nat) : Int) := by rw [IntKind.wrap_u64]; omega
  rw [hm] at q3
  have q3' : ((siz s : Nat) : Int) < (m : Int) := by omega
  have HB : Hid (∀ V, Nw W1 V → P (.returned (.tuple #[.bool false, .int .i64 p, .int .i64 43])) V) := fun V => HBAD.out _ _ V hh
  clear B hP hW1 HBAD
  generalize b.length = L at *
  generalize out.length = ol at *
  generalize siz s = Z at *
  go_enter Try.func49, Try.ntmps49
  go_upto_region 1 with fail
  rw [HW1.out]
  go_upto_region 3 with (first | (go_at_call 34; (with_reducible refine (HH1.out _ HN0.out).mono ?_); rintro e w1 ⟨rfl, hk1, H1⟩))
  have HNU1 : Hid (Calls Try.prog 51 #[.slice (some ⟨g, o + p, none⟩) 4 (c - p)] w1.drew _) := HNU.out _ H1.out
  have kk0 := hk1.1
  have kk1 : RK rb g o c L p w1.drew := hk1.1
  unfold RK at kk0 kk1
  clear r0 r1 r2 r3 r4 r5 r6 s0 s1 s2 s3 s4 HNU HH1
  go_region_held3 (fun w' => w'.cell? ⟨rb, 0, none⟩ = some (.slice (some ⟨g, o, none⟩) L c) ∧ w'.cell? ⟨rb, 1, none⟩ = some (.int .i64 p) ∧ w'.frozen? ⟨rb, 1, none⟩ = false)
    (first | assumption)
    (first | (go_at_call 51; (with_reducible refine HNU1.out.mono ?_); rintro e w2 ⟨rfl, hk2, H2⟩; have kk2 := hk2.1; unfold RK at kk2))
  obtain ⟨⟨r0, r1, r2⟩, ⟨r3, r4⟩, ⟨r5, r6⟩, ⟨s0, s1, s2, s3, s4⟩⟩ := hk2
  clear kk0 kk1 kk2 hk1 HNU1
  go_wp2_with (first | (go_at_call 42; (with_reducible refine (HSZ.out _ H2.out).mono ?_); rintro e w3 ⟨rfl, ⟨⟨r0, r1, r2⟩, ⟨r3, r4⟩, ⟨r5, r6⟩, ⟨s0, s1, s2, s3, s4⟩⟩, H3⟩))
  go_quiet (fail)
  go_wp2
  exact HB.out _ (H3.out.drewN _)
set_option maxHeartbeats 16000000 in
set_option maxRecDepth 100000 in
theorem eblock_L4t (B : BS D rb g o c b most p out K w fb f s ao ko W1) (hW1 : w.alloc (.cells #[.int .i64 s.block, .bool s.alone, .bool s.bsum, .bool s.csum, .bool s.csize] 24) = W1) (began : Nat) (q1 : ¬ b.length < p + 4) (q2 : ¬ le (tk b p 4) = 0) (q3 : ¬ siz s < le (tk b p 4) % 2147483648) (q4 : b.length < p + 4 + le (tk b p 4) % 2147483648 + bs s) (hzb : s.bsum = true) :
    Calls Try.prog 49 #[.pointer (some ⟨rb, 0, none⟩), .agg #[.int .i64 s.block, .bool s.alone, .bool s.bsum, .bool s.csum, .bool s.csize], .pointer (some ⟨fb, 0, none⟩), .int .i64 began] w (EBk D rb g o c b most p out K w fb f (blockF b most s began p out)) := by
  obtain ⟨P, hP⟩ : ∃ P : Ending → World → Prop, P = EBk D rb g o c b most p out K w fb f (blockF b most s began p out) := ⟨_, rfl⟩
  rw [← hP]
  have hbl := B.h.bl
  have hpl := B.h.pl
  have hcb := B.h.hc
  have hc2 := B.h.hc2
  have hol := B.h.ol
  have hml := B.h.ml
  have HW1 : Hid (w.alloc (.cells #[.int .i64 s.block, .bool s.alone, .bool s.bsum, .bool s.csum, .bool s.csize] 24) = W1) := hW1
  have HBAD : Hid (∀ (a y : Nat) V, blockF b most s began p out = .bad a y → Nw W1 V → P (.returned (.tuple #[.bool false, .int .i64 a, .int .i64 y])) V) := fun a y V h1 h2 => by
    rw [hP, h1]; exact ⟨(B.hN1.trans h2).any, rfl⟩
  have HSH := B.short
  have HSZ := B.size
  have hZ4 := B.siz_le
  have HN0 : Hid (Nw W1 W1) := Fr.refl _ _
  obtain ⟨⟨r0, r1, r2⟩, ⟨r3, r4⟩, ⟨r5, r6⟩, ⟨s0, s1, s2, s3, s4⟩⟩ := B.bf (Fr.refl _ W1)
  have hh : blockF b most s began p out = .bad b.length 4 := by unfold blockF; rw [if_neg q1, if_neg q2, if_neg q3, if_pos q4]
  obtain ⟨p4, hp4⟩ : ∃ p4, p + 4 = p4 := ⟨_, rfl⟩
  have hp4q : (p : Int) + 4 = (p4 : Int) := by omega
  have hz1 : (p4 : Int) ≤ (c : Int) := by omega
  have hz2 : (p : Int) ≤ (p4 : Int) := by omega
  have hz3 : p4 - p = 4 := by omega
  have hz4 : ¬ c = p := by omega
  have hz5 : p4 ≤ c := by omega
  have hz6 : p ≤ p4 := by omega
  have hz7 : IntKind.i64.wrap (p4 : Int) = (p4 : Int) := by rw [IntKind.wrap_i64]; omega
  have hz8 : (0 : Int) ≤ (p : Int) := by omega
  have hNl : le (tk b p 4) < 4294967296 := by have := le_lt (tk b p 4); rw [tk_length _ _ _ (by omega)] at this; exact this
  have HH1 := B.has 4 4 rfl (by decide) true (decide_eq_true (by omega))
  have HNU := B.num (by omega)
  obtain ⟨N, hNe⟩ : ∃ N, le (tk b p 4) = N := ⟨_, rfl⟩
  rw [hNe] at hNl HNU
  rw [hNe] at q2 q3 q4
  obtain ⟨m, hm⟩ : ∃ m, N % 2147483648 = m := ⟨_, rfl⟩
  have hmq : (N : Int) % 2147483648 = (m : Int) := by omega
  have hmt : Int.tmod (N : Int) 2147483648 = (m : Int) := by rw [Int.tmod_eq_emod_of_nonneg (by omega)]; omega
  have hN0 : ¬ (N : Int) = 0 := by omega
  have hZw : IntKind.u64.wrap ((siz s : Nat) : Int) = ((siz s : Nat) : Int) := by rw [IntKind.wrap_u64]; omega
  rw [hm] at q3 q4
  have q3' : ¬ ((siz s : Nat) : Int) < (m : Int) := by omega
  have hbs : bs s = 4 := by unfold bs; rw [hzb]; rfl
  obtain ⟨m4, hm4⟩ : ∃ m4, 4 + m = m4 := ⟨_, rfl⟩
  have hm4q : (4 : Int) + (m : Int) = (m4 : Int) := by omega
  have hm4w : IntKind.u64.wrap (m4 : Int) = (m4 : Int) := by rw [IntKind.wrap_u64]; omega
  obtain ⟨ms, hms⟩ : ∃ ms, m4 + 4 = ms := ⟨_, rfl⟩
  have hmsq : (m4 : Int) + 4 = (ms : Int) := by omega
  have hmsw : IntKind.u64.wrap (ms : Int) = (ms : Int) := by rw [IntKind.wrap_u64]; omega
  have HH4 := B.has ms _ rfl (by omega) false (decide_eq_false (by omega))
  have HB : Hid (∀ V, Nw W1 V → P (.returned (.tuple #[.bool false, .int .i64 b.length, .int .i64 4])) V) := fun V => HBAD.out _ _ V hh
  have HZB : Hid (s.bsum = true) := hzb
  rw [hzb] at HSZ
  clear hzb
  clear B hP hW1 HBAD
  generalize b.length = L at *
  generalize out.length = ol at *
  generalize siz s = Z at *
  go_enter Try.func49, Try.ntmps49
  go_upto_region 1 with fail
  rw [HW1.out]
  go_upto_region 3 with (first | (go_at_call 34; (with_reducible refine (HH1.out _ HN0.out).mono ?_); rintro e w1 ⟨rfl, hk1, H1⟩))
  have HNU1 : Hid (Calls Try.prog 51 #[.slice (some ⟨g, o + p, none⟩) 4 (c - p)] w1.drew _) := HNU.out _ H1.out
  have kk0 := hk1.1
  have kk1 : RK rb g o c L p w1.drew := hk1.1
  unfold RK at kk0 kk1
  clear r0 r1 r2 r3 r4 r5 r6 s0 s1 s2 s3 s4 HNU HH1
  go_region_held3 (fun w' => w'.cell? ⟨rb, 0, none⟩ = some (.slice (some ⟨g, o, none⟩) L c) ∧ w'.cell? ⟨rb, 1, none⟩ = some (.int .i64 p) ∧ w'.frozen? ⟨rb, 1, none⟩ = false)
    (first | assumption)
    (first | (go_at_call 51; (with_reducible refine HNU1.out.mono ?_); rintro e w2 ⟨rfl, hk2, H2⟩; have kk2 := hk2.1; unfold RK at kk2))
  obtain ⟨⟨r0, r1, r2⟩, ⟨r3, r4⟩, ⟨r5, r6⟩, ⟨s0, s1, s2, s3, s4⟩⟩ := hk2
  clear kk0 kk1 kk2 hk1 HNU1
  rw [HZB.out] at s2
  go_wp2_with (first | (go_at_call 42; (with_reducible refine (HSZ.out _ H2.out).mono ?_); rintro e w3 ⟨rfl, ⟨⟨r0, r1, r2⟩, ⟨r3, r4⟩, ⟨r5, r6⟩, ⟨s0, s1, s2, s3, s4⟩⟩, H3⟩; rw [HZB.out] at s2) | (go_at_call 34; (with_reducible refine (HH4.out _ H3.out).mono ?_); rintro e w4 ⟨rfl, ⟨⟨r0, r1, r2⟩, ⟨r3, r4⟩, ⟨r5, r6⟩, ⟨s0, s1, s2, s3, s4⟩⟩, H4⟩) | (go_at_call 50; (with_reducible refine (HSH.out _ H4.out).mono ?_); rintro e ws ⟨rfl, rfl⟩))
  exact HB.out _ H4.out
set_option maxHeartbeats 16000000 in
set_option maxRecDepth 100000 in
theorem eblock_L4f (B : BS D rb g o c b most p out K w fb f s ao ko W1) (hW1 : w.alloc (.cells #[.int .i64 s.block, .bool s.alone, .bool s.bsum, .bool s.csum, .bool s.csize] 24) = W1) (began : Nat) (q1 : ¬ b.length < p + 4) (q2 : ¬ le (tk b p 4) = 0) (q3 : ¬ siz s < le (tk b p 4) % 2147483648) (q4 : b.length < p + 4 + le (tk b p 4) % 2147483648 + bs s) (hzb : s.bsum = false) :
    Calls Try.prog 49 #[.pointer (some ⟨rb, 0, none⟩), .agg #[.int .i64 s.block, .bool s.alone, .bool s.bsum, .bool s.csum, .bool s.csize], .pointer (some ⟨fb, 0, none⟩), .int .i64 began] w (EBk D rb g o c b most p out K w fb f (blockF b most s began p out)) := by
  obtain ⟨P, hP⟩ : ∃ P : Ending → World → Prop, P = EBk D rb g o c b most p out K w fb f (blockF b most s began p out) := ⟨_, rfl⟩
  rw [← hP]
  have hbl := B.h.bl
  have hpl := B.h.pl
  have hcb := B.h.hc
  have hc2 := B.h.hc2
  have hol := B.h.ol
  have hml := B.h.ml
  have HW1 : Hid (w.alloc (.cells #[.int .i64 s.block, .bool s.alone, .bool s.bsum, .bool s.csum, .bool s.csize] 24) = W1) := hW1
  have HBAD : Hid (∀ (a y : Nat) V, blockF b most s began p out = .bad a y → Nw W1 V → P (.returned (.tuple #[.bool false, .int .i64 a, .int .i64 y])) V) := fun a y V h1 h2 => by
    rw [hP, h1]; exact ⟨(B.hN1.trans h2).any, rfl⟩
  have HSH := B.short
  have HSZ := B.size
  have hZ4 := B.siz_le
  have HN0 : Hid (Nw W1 W1) := Fr.refl _ _
  obtain ⟨⟨r0, r1, r2⟩, ⟨r3, r4⟩, ⟨r5, r6⟩, ⟨s0, s1, s2, s3, s4⟩⟩ := B.bf (Fr.refl _ W1)
  have hh : blockF b most s began p out = .bad b.length 4 := by unfold blockF; rw [if_neg q1, if_neg q2, if_neg q3, if_pos q4]
  obtain ⟨p4, hp4⟩ : ∃ p4, p + 4 = p4 := ⟨_, rfl⟩
  have hp4q : (p : Int) + 4 = (p4 : Int) := by omega
  have hz1 : (p4 : Int) ≤ (c : Int) := by omega
  have hz2 : (p : Int) ≤ (p4 : Int) := by omega
  have hz3 : p4 - p = 4 := by omega
  have hz4 : ¬ c = p := by omega
  have hz5 : p4 ≤ c := by omega
  have hz6 : p ≤ p4 := by omega
  have hz7 : IntKind.i64.wrap (p4 : Int) = (p4 : Int) := by rw [IntKind.wrap_i64]; omega
  have hz8 : (0 : Int) ≤ (p : Int) := by omega
  have hNl : le (tk b p 4) < 4294967296 := by have := le_lt (tk b p 4); rw [tk_length _ _ _ (by omega)] at this; exact this
  have HH1 := B.has 4 4 rfl (by decide) true (decide_eq_true (by omega))
  have HNU := B.num (by omega)
  obtain ⟨N, hNe⟩ : ∃ N, le (tk b p 4) = N := ⟨_, rfl⟩
  rw [hNe] at hNl HNU
  rw [hNe] at q2 q3 q4
  obtain ⟨m, hm⟩ : ∃ m, N % 2147483648 = m := ⟨_, rfl⟩
  have hmq : (N : Int) % 2147483648 = (m : Int) := by omega
  have hmt : Int.tmod (N : Int) 2147483648 = (m : Int) := by rw [Int.tmod_eq_emod_of_nonneg (by omega)]; omega
  have hN0 : ¬ (N : Int) = 0 := by omega
  have hZw : IntKind.u64.wrap ((siz s : Nat) : Int) = ((siz s : Nat) : Int) := by rw [IntKind.wrap_u64]; omega
  rw [hm] at q3 q4
  have q3' : ¬ ((siz s : Nat) : Int) < (m : Int) := by omega
  have hbs : bs s = 0 := by unfold bs; rw [hzb]; rfl
  obtain ⟨m4, hm4⟩ : ∃ m4, 4 + m = m4 := ⟨_, rfl⟩
  have hm4q : (4 : Int) + (m : Int) = (m4 : Int) := by omega
  have hm4w : IntKind.u64.wrap (m4 : Int) = (m4 : Int) := by rw [IntKind.wrap_u64]; omega
  obtain ⟨ms, hms⟩ : ∃ ms, m4 + 0 = ms := ⟨_, rfl⟩
  have hmsq : (m4 : Int) + 0 = (ms : Int) := by omega
  have hmsw : IntKind.u64.wrap (ms : Int) = (ms : Int) := by rw [IntKind.wrap_u64]; omega
  have HH4 := B.has ms _ rfl (by omega) false (decide_eq_false (by omega))
  have HB : Hid (∀ V, Nw W1 V → P (.returned (.tuple #[.bool false, .int .i64 b.length, .int .i64 4])) V) := fun V => HBAD.out _ _ V hh
  have HZB : Hid (s.bsum = false) := hzb
  rw [hzb] at HSZ
  clear hzb
  clear B hP hW1 HBAD
  obtain rfl : m4 = ms := by omega
  generalize b.length = L at *
  generalize out.length = ol at *
  generalize siz s = Z at *
  go_enter Try.func49, Try.ntmps49
  go_upto_region 1 with fail
  rw [HW1.out]
  go_upto_region 3 with (first | (go_at_call 34; (with_reducible refine (HH1.out _ HN0.out).mono ?_); rintro e w1 ⟨rfl, hk1, H1⟩))
  have HNU1 : Hid (Calls Try.prog 51 #[.slice (some ⟨g, o + p, none⟩) 4 (c - p)] w1.drew _) := HNU.out _ H1.out
  have kk0 := hk1.1
  have kk1 : RK rb g o c L p w1.drew := hk1.1
  unfold RK at kk0 kk1
  clear r0 r1 r2 r3 r4 r5 r6 s0 s1 s2 s3 s4 HNU HH1
  go_region_held3 (fun w' => w'.cell? ⟨rb, 0, none⟩ = some (.slice (some ⟨g, o, none⟩) L c) ∧ w'.cell? ⟨rb, 1, none⟩ = some (.int .i64 p) ∧ w'.frozen? ⟨rb, 1, none⟩ = false)
    (first | assumption)
    (first | (go_at_call 51; (with_reducible refine HNU1.out.mono ?_); rintro e w2 ⟨rfl, hk2, H2⟩; have kk2 := hk2.1; unfold RK at kk2))
  obtain ⟨⟨r0, r1, r2⟩, ⟨r3, r4⟩, ⟨r5, r6⟩, ⟨s0, s1, s2, s3, s4⟩⟩ := hk2
  clear kk0 kk1 kk2 hk1 HNU1
  rw [HZB.out] at s2
  go_wp2_with (first | (go_at_call 42; (with_reducible refine (HSZ.out _ H2.out).mono ?_); rintro e w3 ⟨rfl, ⟨⟨r0, r1, r2⟩, ⟨r3, r4⟩, ⟨r5, r6⟩, ⟨s0, s1, s2, s3, s4⟩⟩, H3⟩; rw [HZB.out] at s2) | (go_at_call 34; (with_reducible refine (HH4.out _ H3.out).mono ?_); rintro e w4 ⟨rfl, ⟨⟨r0, r1, r2⟩, ⟨r3, r4⟩, ⟨r5, r6⟩, ⟨s0, s1, s2, s3, s4⟩⟩, H4⟩) | (go_at_call 50; (with_reducible refine (HSH.out _ H4.out).mono ?_); rintro e ws ⟨rfl, rfl⟩))
  exact HB.out _ H4.out
end Go.Proofs.Ytdeefemeiggolaa

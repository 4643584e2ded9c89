import Derived.Test.YtdeefemeiggolaaRh
import Derived.Test.YtdeefemeiggolaaQl
namespace Go.Proofs.Ytdeefemeiggolaa
open Go.RowKit
set_option linter.unusedVariables false
variable {D rb g o c : Nat} {b : List By} {most p : Nat} {out : List By} {K : Nat → Prop} {w : World} {fb : Nat} {f : Fm} {s : Shp} {ao : Option Addr} {ko : Nat} {W1 : World}
set_option maxHeartbeats 16000000 in
set_option maxRecDepth 100000 in
theorem eblock_L8t (B : BS D rb g o c b most p out K w fb f s ao ko W1) (hW1 : w.alloc (.cells #[.int .i64 s.block, .bool s.alone, .bool s.bsum, .bool s.csum, .bool s.csize] 24) = W1) (began : Nat) (q1 : ¬ b.length < p + 4) (q2 : ¬ le (tk b p 4) = 0) (q3 : ¬ siz s < le (tk b p 4) % 2147483648) (q4 : ¬ b.length < p + 4 + le (tk b p 4) % 2147483648 + bs s) (hzb : s.bsum = true) (q5 : le (tk b (p + 4 + le (tk b p 4) % 2147483648) 4) = sm (tk b (p + 4) (le (tk b p 4) % 2147483648))) (q7 : ¬ 2147483648 ≤ le (tk b p 4)) (hbg : began ≤ out.length) :
    Calls Try.prog 49 #[.pointer (some ⟨rb, 0, none⟩), .agg #[.int .i64 s.block, .bool s.alone, .bool s.bsum, .bool s.csum, .bool s.csize], .pointer (some ⟨fb, 0, none⟩), .int .i64 began] w (EBk D rb g o c b most p out K w fb f (blockF b most s began p out)) := by
  obtain ⟨P, hP⟩ : ∃ P : Ending → World → Prop, P = EBk D rb g o c b most p out K w fb f (blockF b most s began p out) := ⟨_, rfl⟩
  rw [← hP]
  have hbl := B.h.bl
  have hpl := B.h.pl
  have hcb := B.h.hc
  have hc2 := B.h.hc2
  have hol := B.h.ol
  have hml := B.h.ml
  have HW1 : Hid (w.alloc (.cells #[.int .i64 s.block, .bool s.alone, .bool s.bsum, .bool s.csum, .bool s.csize] 24) = W1) := hW1
  have HBAD : Hid (∀ (a y : Nat) V, blockF b most s began p out = .bad a y → Nw W1 V → P (.returned (.tuple #[.bool false, .int .i64 a, .int .i64 y])) V) := fun a y V h1 h2 => by
    rw [hP, h1]; exact ⟨(B.hN1.trans h2).any, rfl⟩
  have HSH := B.short
  have HSZ := B.size
  have hZ4 := B.siz_le
  have HN0 : Hid (Nw W1 W1) := Fr.refl _ _
  obtain ⟨⟨r0, r1, r2⟩, ⟨r3, r4⟩, ⟨r5, r6⟩, ⟨s0, s1, s2, s3, s4⟩⟩ := B.bf (Fr.refl _ W1)
  obtain ⟨r, hr⟩ : ∃ r, dec (tk b (p + 4) (le (tk b p 4) % 2147483648)) (ahd s began out) ((min (siz s) (most - out.length) : Nat) : Int) = r := ⟨_, rfl⟩
  have hpre : blockF b most s began p out = if r.2.2 ≠ 0 then .bad (p + 4 + r.2.1) r.2.2 else .ok (p + 4 + le (tk b p 4) % 2147483648 + bs s) (out ++ r.1) false := by unfold blockF; rw [if_neg q1, if_neg q2, if_neg q3, if_neg q4, if_neg (fun hx => hx.2 q5), if_neg q7]; simp only [hr]
  obtain ⟨p4, hp4⟩ : ∃ p4, p + 4 = p4 := ⟨_, rfl⟩
  have hp4q : (p : Int) + 4 = (p4 : Int) := by omega
  have hz1 : (p4 : Int) ≤ (c : Int) := by omega
  have hz2 : (p : Int) ≤ (p4 : Int) := by omega
  have hz3 : p4 - p = 4 := by omega
  have hz4 : ¬ c = p := by omega
  have hz5 : p4 ≤ c := by omega
  have hz6 : p ≤ p4 := by omega
  have hz7 : IntKind.i64.wrap (p4 : Int) = (p4 : Int) := by rw [IntKind.wrap_i64]; omega
  have hz8 : (0 : Int) ≤ (p : Int) := by omega
  have hNl : le (tk b p 4) < 4294967296 := by have := le_lt (tk b p 4); rw [tk_length _ _ _ (by omega)] at this; exact this
  have HH1 := B.has 4 4 rfl (by decide) true (decide_eq_true (by omega))
  have HNU := B.num (by omega)
  obtain ⟨N, hNe⟩ : ∃ N, le (tk b p 4) = N := ⟨_, rfl⟩
  rw [hNe] at hNl HNU
  rw [hNe] at q2 q3 q4 q7 hpre hr q5
  obtain ⟨m, hm⟩ : ∃ m, N % 2147483648 = m := ⟨_, rfl⟩
  have hmq : (N : Int) % 2147483648 = (m : Int) := by omega
  have hmt : Int.tmod (N : Int) 2147483648 = (m : Int) := by rw [Int.tmod_eq_emod_of_nonneg (by omega)]; omega
  have hN0 : ¬ (N : Int) = 0 := by omega
  have hZw : IntKind.u64.wrap ((siz s : Nat) : Int) = ((siz s : Nat) : Int) := by rw [IntKind.wrap_u64]; omega
  rw [hm] at q3 q4 hpre hr q5
  have q3' : ¬ ((siz s : Nat) : Int) < (m : Int) := by omega
  have hbs : bs s = 4 := by unfold bs; rw [hzb]; rfl
  rw [hbs] at q4
  obtain ⟨m4, hm4⟩ : ∃ m4, 4 + m = m4 := ⟨_, rfl⟩
  have hm4q : (4 : Int) + (m : Int) = (m4 : Int) := by omega
  have hm4w : IntKind.u64.wrap (m4 : Int) = (m4 : Int) := by rw [IntKind.wrap_u64]; omega
  obtain ⟨ms, hms⟩ : ∃ ms, m4 + 4 = ms := ⟨_, rfl⟩
  have hmsq : (m4 : Int) + 4 = (ms : Int) := by omega
  have hmsw : IntKind.u64.wrap (ms : Int) = (ms : Int) := by rw [IntKind.wrap_u64]; omega
  have HH4 := B.has ms _ rfl (by omega) true (decide_eq_true (by omega))
  have hmw : IntKind.i64.wrap (m : Int) = (m : Int) := by rw [IntKind.wrap_i64]; omega
  obtain ⟨pm, hpm⟩ : ∃ pm, p4 + m = pm := ⟨_, rfl⟩
  have hpmq : (p4 : Int) + (m : Int) = (pm : Int) := by omega
  have hpmw : IntKind.i64.wrap (pm : Int) = (pm : Int) := by rw [IntKind.wrap_i64]; omega
  have hy1 : (pm : Int) ≤ (c : Int) := by omega
  have hy2 : (p4 : Int) ≤ (pm : Int) := by omega
  have hy3 : pm - p4 = m := by omega
  have hy4 : (0 : Int) ≤ (p4 : Int) := by omega
  obtain ⟨pm4, hpm4⟩ : ∃ pm4, pm + 4 = pm4 := ⟨_, rfl⟩
  have hx1q : (pm : Int) + 4 = (pm4 : Int) := by omega
  have hx1 : (pm4 : Int) ≤ (c : Int) := by omega
  have hx2 : (pm : Int) ≤ (pm4 : Int) := by omega
  have hx3 : pm4 - pm = 4 := by omega
  have hx4 : ¬ c = pm := by omega
  have HN2 : Hid (∀ V, Nw W1 V → Calls Try.prog 51 #[.slice (some ⟨g, o + pm, none⟩) 4 (c - pm)] V fun e w1 => e = .returned (.int .u64 (le (tk b pm 4))) ∧ w1 = V) := fun V hV => dnumber_any _ _ _ V ((B.rf hV).sl pm 4 (by omega)) (by rw [tk_length _ _ _ (by omega)]; decide)
  have HS2 : Hid (∀ V, Nw W1 V → Calls Try.prog 45 #[.int .u32 0, .slice (some ⟨g, o + p4, none⟩) m (c - p4)] V fun e w1 => e = .returned (.int .u32 (sm (tk b p4 m))) ∧ BF rb fb w.heap.size g o c b.length p most ao out.length ko f.blocks s w1 ∧ Hid (Nw W1 w1)) := by
    intro V hV
    have hR := B.rf hV
    refine (rsum32_any 0#32 _ (tk b p4 m) V ((hR.sl p4 m (by omega)).mono (fun k hk => by have := hR.lt rb hR.kr; have := hR.dr; show D ≤ k; omega))).mono ?_
    rintro e w1 ⟨rfl, h1⟩
    exact ⟨rfl, B.bf (hV.trans h1), hV.trans h1⟩
  obtain ⟨Q, hQ⟩ : ∃ Q, le (tk b pm 4) = Q := ⟨_, rfl⟩
  obtain ⟨SM, hSM⟩ : ∃ SM, sm (tk b p4 m) = SM := ⟨_, rfl⟩
  have hSl : SM < 4294967296 := by rw [← hSM]; exact sm_lt _
  have hSw : IntKind.u64.wrap (SM : Int) = (SM : Int) := by rw [IntKind.wrap_u64]; omega
  rw [hQ] at HN2
  rw [hSM] at HS2
  rw [← hp4] at hSM
  rw [hp4, hpm, ← hp4, hQ, hSM] at q5
  have hne : ((Q : Int) != (SM : Int)) = false := by simp; omega
  have hNm : N = m := by omega
  have hm0 : 0 < m := by omega
  have hy5 : ¬ c = p4 := by omega
  have q7' : ¬ (2147483648 : Int) ≤ (N : Int) := by omega
  obtain ⟨lf, hlf⟩ : ∃ lf, most - out.length = lf := ⟨_, rfl⟩
  have hlfq : (most : Int) - (out.length : Int) = (lf : Int) := by omega
  have hlfw : IntKind.i64.wrap (lf : Int) = (lf : Int) := by rw [IntKind.wrap_i64]; omega
  rw [hlf] at hr
  have hb1 := B.hb1
  have hzB : (f.blocks : Int) + 1 = ((f.blocks + 1 : Nat) : Int) := by omega
  have hzBw : IntKind.i64.wrap ((f.blocks + 1 : Nat) : Int) = ((f.blocks + 1 : Nat) : Int) := by rw [IntKind.wrap_i64]; omega
  have KBF : Hid (∀ V, Nw W1 V → BF rb fb w.heap.size g o c b.length p most ao out.length ko f.blocks s V) := fun V hV => B.bf hV
  obtain ⟨pe, hpe⟩ : ∃ pe, pm + 4 = pe := ⟨_, rfl⟩
  have hpeq : (pm : Int) + 4 = (pe : Int) := by omega
  have hpew : IntKind.i64.wrap (pe : Int) = (pe : Int) := by rw [IntKind.wrap_i64]; omega
  rw [hp4, hpm, hbs, hpe] at hpre
  rw [hp4] at hr
  have htl : (tk b p4 m).length = m := tk_length _ _ _ (by omega)
  obtain ⟨fX, hfX⟩ : ∃ fX : Fm, fX = { f with blocks := f.blocks + 1 } := ⟨_, rfl⟩
  obtain ⟨ST, hST⟩ : ∃ ST : World → Prop, ST = STB D rb g o c b most p out K w fb s ao ko fX := ⟨_, rfl⟩
  have hSF : ∀ V, ST V → SF rb fb w.heap.size g o c b.length p ao out.length ko fX.plain s V := fun V h => by rw [hST] at h; exact h.sf
  have hSN : ∀ V V', ST V → Nw V V' → ST V' := fun V V' h f => by rw [hST] at h ⊢; exact h.nw f
  have HUP : Hid (∀ V, Nw W1 V → SF rb fb w.heap.size g o c b.length p ao out.length ko fX.plain s (V.setCell ⟨fb, 9, none⟩ (.int .i64 ((f.blocks + 1 : Nat) : Int))) ∧ Hid (ST (V.setCell ⟨fb, 9, none⟩ (.int .i64 ((f.blocks + 1 : Nat) : Int))))) := fun V hV => by
    have hU : ST (V.setCell ⟨fb, 9, none⟩ (.int .i64 ((f.blocks + 1 : Nat) : Int))) := by rw [hST, hfX]; exact B.up hV
    exact ⟨hSF _ hU, hU⟩
  have HSB : Hid (∀ V, ST V → Calls Try.prog 42 #[.agg #[.int .i64 s.block, .bool s.alone, .bool s.bsum, .bool s.csum, .bool s.csize]] V fun e w1 => e = .returned (.int .i64 (siz s)) ∧ SF rb fb w.heap.size g o c b.length p ao out.length ko fX.plain s w1 ∧ Hid (ST w1)) := fun V hV => by
    refine (dSize_any s B.hs1 B.hs2 V).mono ?_
    rintro e w1 ⟨rfl, h1⟩
    exact ⟨rfl, hSF _ (hSN _ _ hV h1), hSN _ _ hV h1⟩
  obtain ⟨M, hMd⟩ : ∃ M, min (siz s) lf = M := ⟨_, rfl⟩
  rw [hMd] at hr
  have hbd := dec_bound (tk b p4 m) (ahd s began out) (M : Int)
  rw [hr] at hbd
  have HAO : Hid (∀ V, ST V → (ao = none ∧ began = 0 ∧ ko = 0 ∧ out.length = 0 ∧ Old V (.slice none 0 0) (out.drop began)) ∨ ∃ g2, ao = some ⟨g2, 0, none⟩ ∧ began ≤ ko ∧ out.length ≤ ko ∧ ko < 9223372036854775808 ∧ ((ko = began ∧ out.length = began ∧ ∀ a, Old V (.slice a 0 0) (out.drop began)) ∨ (¬ ko = began ∧ Old V (.slice (some ⟨g2, began, none⟩) (out.length - began) (ko - began)) (out.drop began)))) := fun V hV => by
    rw [hST] at hV
    obtain ⟨_, _, _, _, _, a', k', hcc, hle, hlt', hMo⟩ := hV.1.cells
    rw [hV.2.2.2.1] at hcc
    have hcc' := Option.some.inj hcc
    injection hcc' with h1 h2 h3
    subst h1 h3
    rcases hMo with ⟨e1, e2⟩ | ⟨g2, _, hO⟩
    · injection e1 with e1 e3 e4
      refine .inl ⟨e1, by rw [e2] at hbg; simp at hbg; omega, e4, e3, .inl ⟨none, rfl, by rw [e2]; simp⟩⟩
    · have hO' := hO
      obtain ⟨xs, e1, _⟩ := hO'
      injection e1 with e1
      refine .inr ⟨g2, e1, by omega, hle, hlt', ?_⟩
      by_cases hk : ko = began
      · exact .inl ⟨hk, by omega, fun a => .inl ⟨a, rfl, List.eq_nil_of_length_eq_zero (by rw [List.length_drop]; omega)⟩⟩
      · refine .inr ⟨hk, ?_⟩
        obtain ⟨o2, k2, e5, e6, e7, e8⟩ := hO.slb
        rw [e1] at e5
        injection e5 with e5 _ e9
        injection e5 with e5
        injection e5 with _ e5
        subst e5
        refine .inr ⟨g2, by have := hO.lt; show ¬ V.heap.size ≤ g2; omega, 0 + began, ko - began, by rw [List.length_drop, Nat.zero_add], by rw [List.length_drop]; omega, by omega, e8.drop began⟩
  have HDC : Hid (∀ V aa la ca, Old V (.slice aa la ca) (ahd s began out) ∧ ST V → Calls Try.prog 67 #[.slice (some ⟨g, o + p4, none⟩) m (c - p4), .slice aa la ca, .int .i64 M] V fun e w1 => ∃ a9 c9, e = .returned (.tuple #[.slice a9 r.1.length c9, .int .i64 r.2.1, .int .i64 r.2.2]) ∧ SF rb fb w.heap.size g o c b.length p ao out.length ko fX.plain s w1 ∧ Hid (ST w1 ∧ Sl (fun _ => False) (.slice a9 r.1.length c9) r.1 w1)) := by
    rintro V aa la ca ⟨hO, hV⟩
    have hV' := hV
    rw [hST] at hV'
    have hR := hV'.1
    have hd := rDecode_any V _ _ (tk b p4 m) (ahd s began out) (M : Int) ((hR.sl p4 m (by omega)).mono (fun k hk => by have := hR.lt rb hR.kr; have := hR.dr; show D ≤ k; omega)) hO (by rw [htl]; omega) (by unfold ahd; split <;> simp <;> omega)
    rw [hr] at hd
    refine hd.mono ?_
    rintro e w1 ⟨a9, c9, rfl, hsl, h1⟩
    exact ⟨a9, c9, rfl, hSF _ (hSN _ _ hV h1), hSN _ _ hV h1, hsl.mono (fun _ h => h.elim)⟩
  have HTL : Hid (r.2.2 = 0 → ∀ V u, ST V ∧ Sl (fun _ => False) u r.1 V → ∃ a2 l2 k2 W x, W.cell? ⟨rb, 3, none⟩ = some x ∧ W.frozen? ⟨rb, 3, none⟩ = false ∧ Hid (∀ ty, (Builtin.append_ #[22, 22] ty #[.slice ao out.length ko, u]).run Try.prog V = .ok (.slice a2 l2 k2) W) ∧ (∃ y, (W.setCell ⟨rb, 3, none⟩ (.slice a2 l2 k2)).cell? ⟨rb, 1, none⟩ = some y) ∧ (W.setCell ⟨rb, 3, none⟩ (.slice a2 l2 k2)).frozen? ⟨rb, 1, none⟩ = false ∧ Hid (P (.returned (.tuple #[.bool false, .int .i64 0, .int .i64 0])) ((W.setCell ⟨rb, 3, none⟩ (.slice a2 l2 k2)).setCell ⟨rb, 1, none⟩ (.int .i64 pe)))) := by
    rintro h0 V u ⟨hV, hu⟩
    rw [hST] at hV
    have hM1 : M ≤ lf := by omega
    have hb := hbd.2.2 h0
    obtain ⟨a2, l2, k2, W, x, t1, t2, t3, t4, t5, t6⟩ := blk_tail hV.1 fb _ hV.2.1 B.hfr B.hKf ao _ ko hV.2.2.2.1 u _ hu (by omega) pe (by omega)
    refine ⟨a2, l2, k2, W, x, t1, t2, t3, t4, t5, ?_⟩
    show P _ _
    rw [hP, hpre, if_neg (by omega)]
    refine ⟨hV.2.2.2.2.trans (t6.out.2.2.mono (fun i hi => .inl (by rcases hi with hi | hi; exact .inl hi; exact .inr (.inr hi)))), rfl, t6.out.1, ?_⟩
    have := t6.out.2.1
    rw [hfX] at this
    exact this
  have HBD : Hid (¬ r.2.2 = 0 → ∀ V, ST V → P (.returned (.tuple #[.bool false, .int .i64 ((p4 + r.2.1 : Nat) : Int), .int .i64 r.2.2])) V) := fun h0 V hV => by
    rw [hST] at hV
    rw [hP, hpre, if_pos h0]
    exact ⟨hV.2.2.2.2, rfl⟩
  have HR1' : r.2.1 ≤ m := by
    have := dec_shape (tk b p4 m) (ahd s began out) (M : Int)
    rw [hr, htl] at this
    omega
  have HR1 : Hid (r.2.1 ≤ m) := HR1'
  clear HR1'
  have HZM : Hid (M = siz s ∧ siz s < lf ∨ M = lf ∧ ¬ siz s < lf) := by show _ ∨ _; omega
  have HOA : Hid (∀ V va, s.alone = false → Old V va (out.drop began) → Old V va (ahd s began out)) := fun V va h1 h2 => by unfold ahd; rw [if_neg (by rw [h1]; decide)]; exact h2
  have HOT : Hid (∀ V, s.alone = true → Old V (.slice none 0 0) (ahd s began out)) := fun V h1 => by unfold ahd; rw [if_pos h1]; exact .inl ⟨none, rfl, rfl⟩
  subst hNm
  have hN31 : N < 2147483648 := by omega
  have HZB : Hid (s.bsum = true) := hzb
  rw [hzb] at HSZ HSB
  clear hzb
  clear hpre hr hbd htl hSF hSN hST hMd hQ hSM q5 B hP hW1 HBAD
  obtain rfl : pm4 = pe := by omega
  have HQ7 : Hid (decide ((2147483648 : Int) ≤ (N : Int)) = false) := decide_eq_false (by omega)
  clear q7 q7' hN31 hm0
  obtain ⟨RL, hRL⟩ : ∃ RL, r.1.length = RL := ⟨_, rfl⟩
  rw [hRL] at HDC
  clear hRL hfX
  generalize out.drop began = od at *
  generalize ahd s began out = ad at *
  obtain ⟨R1, R2, R3⟩ := r
  simp only at HDC HTL HBD HR1
  generalize b.length = L at *
  generalize out.length = ol at *
  generalize siz s = Z at *
  generalize f.blocks + 1 = B1 at *
  generalize fX.plain = fp at *
  go_enter Try.func49, Try.ntmps49
  go_upto_region 1 with fail
  rw [HW1.out]
  go_upto_region 3 with (first | (go_at_call 34; (with_reducible refine (HH1.out _ HN0.out).mono ?_); rintro e w1 ⟨rfl, hk1, H1⟩))
  have HNU1 : Hid (Calls Try.prog 51 #[.slice (some ⟨g, o + p, none⟩) 4 (c - p)] w1.drew _) := HNU.out _ H1.out
  have kk0 := hk1.1
  have kk1 : RK rb g o c L p w1.drew := hk1.1
  unfold RK at kk0 kk1
  clear r0 r1 r2 r3 r4 r5 r6 s0 s1 s2 s3 s4 HNU HH1
  go_region_held3 (fun w' => w'.cell? ⟨rb, 0, none⟩ = some (.slice (some ⟨g, o, none⟩) L c) ∧ w'.cell? ⟨rb, 1, none⟩ = some (.int .i64 p) ∧ w'.frozen? ⟨rb, 1, none⟩ = false)
    (first | assumption)
    (first | (go_at_call 51; (with_reducible refine HNU1.out.mono ?_); rintro e w2 ⟨rfl, hk2, H2⟩; have kk2 := hk2.1; unfold RK at kk2))
  obtain ⟨⟨r0, r1, r2⟩, ⟨r3, r4⟩, ⟨r5, r6⟩, ⟨s0, s1, s2, s3, s4⟩⟩ := hk2
  clear kk0 kk1 kk2 hk1 HNU1
  rw [HZB.out] at s2
  go_upto_region 19 with (first | (go_at_call 42; (with_reducible refine (HSZ.out _ H2.out).mono ?_); rintro e w3 ⟨rfl, ⟨⟨r0, r1, r2⟩, ⟨r3, r4⟩, ⟨r5, r6⟩, ⟨s0, s1, s2, s3, s4⟩⟩, H3⟩; rw [HZB.out] at s2) | (go_at_call 34; (with_reducible refine (HH4.out _ H3.out).mono ?_); rintro e w4 ⟨rfl, ⟨⟨r0, r1, r2⟩, ⟨r3, r4⟩, ⟨r5, r6⟩, ⟨s0, s1, s2, s3, s4⟩⟩, H4⟩; rw [HZB.out] at s2) | (go_at_call 51; (with_reducible refine (HN2.out _ H4.out).mono ?_); rintro e w4' ⟨rfl, rfl⟩) | (go_at_call 45; (with_reducible refine (HS2.out _ H4.out).mono ?_); rintro e w5 ⟨rfl, ⟨⟨r0, r1, r2⟩, ⟨r3, r4⟩, ⟨r5, r6⟩, ⟨s0, s1, s2, s3, s4⟩⟩, H5⟩; rw [HZB.out] at s2))
  go_quiet (fail)
  have hV : Nw W1 (w5.drewN nq) := H5.out.drewN nq
  clear r0 r1 r2 r3 r4 r5 r6 s0 s1 s2 s3 s4
  obtain ⟨⟨r0, r1, r2⟩, ⟨r3, r4⟩, ⟨r5, r6⟩, ⟨s0, s1, s2, s3, s4⟩⟩ := KBF.out _ hV
  have HU5 := HUP.out _ hV
  clear KBF HUP HSZ HH4 HSH hV
  generalize w5.drewN nq = V5 at *
  rw [HZB.out] at s2
  go_upto_region 21 with fail
  rw [HQ7.out]
  obtain ⟨hsf, HS6⟩ := HU5
  clear r0 r1 r2 r3 r4 r5 r6 s0 s1 s2 s3 s4
  obtain ⟨⟨r0, r1, r2⟩, r4, ⟨r5, r6⟩, ⟨s0, s1, s2, s3, s4⟩⟩ := hsf
  generalize V5.setCell ⟨fb, 9, none⟩ (.int .i64 B1) = V6 at *
  rw [HZB.out] at s2
  go_upto_if 157 with (first | (go_at_call 42; (with_reducible refine (HSB.out _ HS6.out).mono ?_); rintro e w7 ⟨rfl, hk7, HS7⟩))
  go_cut [16] (fun v wx => v = .int .i64 M ∧ SF rb fb w.heap.size g o c L p ao ol ko fp s wx ∧ Hid (ST wx))
  case first =>
    have HSF7 : Hid (SF rb fb w.heap.size g o c L p ao ol ko fp s w7) := hk7
    clear r0 r1 r2 r4 r5 r6 s0 s1 s2 s3 s4
    obtain ⟨⟨r0, r1, r2⟩, r4, ⟨r5, r6⟩, ⟨s0, s1, s2, s3, s4⟩⟩ := hk7
    rw [HZB.out] at s2
    rcases HZM.out with ⟨rfl, hlz⟩ | ⟨rfl, hlz⟩
    · have hlz' : (M : Int) < (lf : Int) := by omega
      clear HDC HTL HBD HAO HOA HOT
      go_wp2_with (first | (go_at_call 42; (with_reducible refine (HSB.out _ HS7.out).mono ?_); rintro e w8 ⟨rfl, hk8, HS8⟩))
      go_meet
      exact ⟨rfl, hk8, HS8.out⟩
    · have hlz' : ¬ (Z : Int) < (M : Int) := by omega
      clear HDC HTL HBD HAO HOA HOT
      go_wp2_with fail
      go_meet
      exact ⟨rfl, HSF7.out, HS7.out⟩
  case rest =>
    obtain ⟨rfl, hk8, HS8⟩ := hcut
    have HSF8 : Hid (SF rb fb w.heap.size g o c L p ao ol ko fp s wc) := hk8
    clear r0 r1 r2 r4 r5 r6 s0 s1 s2 s3 s4
    obtain ⟨⟨r0, r1, r2⟩, r4, ⟨r5, r6⟩, ⟨s0, s1, s2, s3, s4⟩⟩ := hk8
    clear HSB hk7 HS7 HZM
    rw [HZB.out] at s2
    have hac : s.alone = true ∨ s.alone = false := by cases s.alone <;> simp
    rcases hac with hac | hac
    · have HOS : Hid (Old wc (.slice none 0 0) ad ∧ ST wc) := ⟨HOT.out _ hac, HS8.out⟩
      rw [hac] at s1
      clear HAO HOA HOT hac HSF8
      by_cases h0 : R3 = 0
      · subst h0
        have HTL' := HTL.out rfl
        have HTQ : Hid (∀ V u, ST V ∧ Sl (fun _ => False) u R1 V → _) := HTL'
        clear HTL HBD HTL'
        go_upto_region 34 with (first | (go_at_call 67; (with_reducible refine (HDC.out _ _ _ _ HOS.out).mono ?_); rintro e w9 ⟨a9, c9, rfl, ⟨⟨r0, r1, r2⟩, r4, ⟨r5, r6⟩, ⟨s0, s1, s2, s3, s4⟩⟩, HS9⟩))
        obtain ⟨a2, l2, k2, W, x, t1, t2, HAP, ⟨yy, t4⟩, t5, HFF⟩ := HTQ.out _ _ HS9.out
        clear HTQ
        go_upto_region 35 with (first | (at_builtin; refine Lib.wpList_append_run _ rfl _ _ 22 22 rfl (.slice ao ol ko) (.slice a9 RL c9) (by simp [Act.eval]) (by simp [Act.eval]) _ _ (HAP.out _) ?_))
        generalize W.setCell ⟨rb, 3, none⟩ (.slice a2 l2 k2) = V8 at *
        go_wp2_with fail
        exact HFF.out
      · have HB0 := HBD.out h0
        obtain ⟨pk, hpk⟩ : ∃ pk, p4 + R2 = pk := ⟨_, rfl⟩
        rw [hpk] at HB0
        have HB1 : Hid (∀ V, ST V → P (.returned (.tuple #[.bool false, .int .i64 pk, .int .i64 R3])) V) := HB0
        have hR1 := HR1.out
        have hpkq : (p4 : Int) + (R2 : Int) = (pk : Int) := by omega
        have hpkw : IntKind.i64.wrap (pk : Int) = (pk : Int) := by rw [IntKind.wrap_i64]; omega
        have h0' : ¬ (R3 : Int) = 0 := by omega
        clear HTL HBD HB0 hR1
        go_wp2_with (first | (go_at_call 67; (with_reducible refine (HDC.out _ _ _ _ HOS.out).mono ?_); rintro e w9 ⟨a9, c9, rfl, ⟨⟨r0, r1, r2⟩, r4, ⟨r5, r6⟩, ⟨s0, s1, s2, s3, s4⟩⟩, HS9⟩))
        exact HB1.out _ HS9.out.1
    · have HO1 := fun va h => HOA.out wc va hac h
      rw [hac] at s1
      clear hac HOA HOT HSF8
      rcases HAO.out _ HS8.out with ⟨rfl, rfl, rfl, hol0, hO⟩ | ⟨g2, rfl, hk1, hk2, hk3, hO⟩
      · have HOS : Hid (Old wc (.slice none 0 0) ad ∧ ST wc) := ⟨HO1 _ hO, HS8.out⟩
        subst hol0
        clear HAO HO1 hO
        by_cases h0 : R3 = 0
        · subst h0
          have HTL' := HTL.out rfl
          have HTQ : Hid (∀ V u, ST V ∧ Sl (fun _ => False) u R1 V → _) := HTL'
          clear HTL HBD HTL'
          go_upto_region 34 with (first | (go_at_call 67; (with_reducible refine (HDC.out _ _ _ _ HOS.out).mono ?_); rintro e w9 ⟨a9, c9, rfl, ⟨⟨r0, r1, r2⟩, r4, ⟨r5, r6⟩, ⟨s0, s1, s2, s3, s4⟩⟩, HS9⟩))
          obtain ⟨a2, l2, k2, W, x, t1, t2, HAP, ⟨yy, t4⟩, t5, HFF⟩ := HTQ.out _ _ HS9.out
          clear HTQ
          go_upto_region 35 with (first | (at_builtin; refine Lib.wpList_append_run _ rfl _ _ 22 22 rfl (.slice none 0 0) (.slice a9 RL c9) (by simp [Act.eval]) (by simp [Act.eval]) _ _ (HAP.out _) ?_))
          generalize W.setCell ⟨rb, 3, none⟩ (.slice a2 l2 k2) = V8 at *
          go_wp2_with fail
          exact HFF.out
        · have HB0 := HBD.out h0
          obtain ⟨pk, hpk⟩ : ∃ pk, p4 + R2 = pk := ⟨_, rfl⟩
          rw [hpk] at HB0
          have HB1 : Hid (∀ V, ST V → P (.returned (.tuple #[.bool false, .int .i64 pk, .int .i64 R3])) V) := HB0
          have hR1 := HR1.out
          have hpkq : (p4 : Int) + (R2 : Int) = (pk : Int) := by omega
          have hpkw : IntKind.i64.wrap (pk : Int) = (pk : Int) := by rw [IntKind.wrap_i64]; omega
          have h0' : ¬ (R3 : Int) = 0 := by omega
          clear HTL HBD HB0 hR1
          go_wp2_with (first | (go_at_call 67; (with_reducible refine (HDC.out _ _ _ _ HOS.out).mono ?_); rintro e w9 ⟨a9, c9, rfl, ⟨⟨r0, r1, r2⟩, r4, ⟨r5, r6⟩, ⟨s0, s1, s2, s3, s4⟩⟩, HS9⟩))
          exact HB1.out _ HS9.out.1
      · rcases hO with ⟨hkb, hob, hO⟩ | ⟨hkn, hO⟩
        · have HOS : Hid (Old wc (.slice (some ⟨g2, 0, none⟩) 0 0) ad ∧ ST wc) := ⟨HO1 _ (hO _), HS8.out⟩
          subst hkb
          subst hob
          clear HAO HO1 hO
          by_cases h0 : R3 = 0
          · subst h0
            have HTL' := HTL.out rfl
            have HTQ : Hid (∀ V u, ST V ∧ Sl (fun _ => False) u R1 V → _) := HTL'
            clear HTL HBD HTL'
            go_upto_region 34 with (first | (go_at_call 67; (with_reducible refine (HDC.out _ _ _ _ HOS.out).mono ?_); rintro e w9 ⟨a9, c9, rfl, ⟨⟨r0, r1, r2⟩, r4, ⟨r5, r6⟩, ⟨s0, s1, s2, s3, s4⟩⟩, HS9⟩))
            obtain ⟨a2, l2, k2, W, x, t1, t2, HAP, ⟨yy, t4⟩, t5, HFF⟩ := HTQ.out _ _ HS9.out
            clear HTQ
            go_upto_region 35 with (first | (at_builtin; refine Lib.wpList_append_run _ rfl _ _ 22 22 rfl (.slice (some ⟨g2, 0, none⟩) ol ol) (.slice a9 RL c9) (by simp [Act.eval]) (by simp [Act.eval]) _ _ (HAP.out _) ?_))
            generalize W.setCell ⟨rb, 3, none⟩ (.slice a2 l2 k2) = V8 at *
            go_wp2_with fail
            exact HFF.out
          · have HB0 := HBD.out h0
            obtain ⟨pk, hpk⟩ : ∃ pk, p4 + R2 = pk := ⟨_, rfl⟩
            rw [hpk] at HB0
            have HB1 : Hid (∀ V, ST V → P (.returned (.tuple #[.bool false, .int .i64 pk, .int .i64 R3])) V) := HB0
            have hR1 := HR1.out
            have hpkq : (p4 : Int) + (R2 : Int) = (pk : Int) := by omega
            have hpkw : IntKind.i64.wrap (pk : Int) = (pk : Int) := by rw [IntKind.wrap_i64]; omega
            have h0' : ¬ (R3 : Int) = 0 := by omega
            clear HTL HBD HB0 hR1
            go_wp2_with (first | (go_at_call 67; (with_reducible refine (HDC.out _ _ _ _ HOS.out).mono ?_); rintro e w9 ⟨a9, c9, rfl, ⟨⟨r0, r1, r2⟩, r4, ⟨r5, r6⟩, ⟨s0, s1, s2, s3, s4⟩⟩, HS9⟩))
            exact HB1.out _ HS9.out.1
        · have HOS : Hid (Old wc (.slice (some ⟨g2, began, none⟩) (ol - began) (ko - began)) ad ∧ ST wc) := ⟨HO1 _ hO, HS8.out⟩
          have hzk : (began : Int) ≤ (ol : Int) := by omega
          clear HAO HO1 hO
          by_cases h0 : R3 = 0
          · subst h0
            have HTL' := HTL.out rfl
            have HTQ : Hid (∀ V u, ST V ∧ Sl (fun _ => False) u R1 V → _) := HTL'
            clear HTL HBD HTL'
            go_upto_region 34 with (first | (go_at_call 67; (with_reducible refine (HDC.out _ _ _ _ HOS.out).mono ?_); rintro e w9 ⟨a9, c9, rfl, ⟨⟨r0, r1, r2⟩, r4, ⟨r5, r6⟩, ⟨s0, s1, s2, s3, s4⟩⟩, HS9⟩))
            obtain ⟨a2, l2, k2, W, x, t1, t2, HAP, ⟨yy, t4⟩, t5, HFF⟩ := HTQ.out _ _ HS9.out
            clear HTQ
            go_upto_region 35 with (first | (at_builtin; refine Lib.wpList_append_run _ rfl _ _ 22 22 rfl (.slice (some ⟨g2, 0, none⟩) ol ko) (.slice a9 RL c9) (by simp [Act.eval]) (by simp [Act.eval]) _ _ (HAP.out _) ?_))
            generalize W.setCell ⟨rb, 3, none⟩ (.slice a2 l2 k2) = V8 at *
            go_wp2_with fail
            exact HFF.out
          · have HB0 := HBD.out h0
            obtain ⟨pk, hpk⟩ : ∃ pk, p4 + R2 = pk := ⟨_, rfl⟩
            rw [hpk] at HB0
            have HB1 : Hid (∀ V, ST V → P (.returned (.tuple #[.bool false, .int .i64 pk, .int .i64 R3])) V) := HB0
            have hR1 := HR1.out
            have hpkq : (p4 : Int) + (R2 : Int) = (pk : Int) := by omega
            have hpkw : IntKind.i64.wrap (pk : Int) = (pk : Int) := by rw [IntKind.wrap_i64]; omega
            have h0' : ¬ (R3 : Int) = 0 := by omega
            clear HTL HBD HB0 hR1
            go_wp2_with (first | (go_at_call 67; (with_reducible refine (HDC.out _ _ _ _ HOS.out).mono ?_); rintro e w9 ⟨a9, c9, rfl, ⟨⟨r0, r1, r2⟩, r4, ⟨r5, r6⟩, ⟨s0, s1, s2, s3, s4⟩⟩, HS9⟩))
            exact HB1.out _ HS9.out.1
end Go.Proofs.Ytdeefemeiggolaa

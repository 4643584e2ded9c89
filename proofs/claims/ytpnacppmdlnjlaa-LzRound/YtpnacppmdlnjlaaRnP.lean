import Derived.Test.YtpnacppmdlnjlaaRows
import Derived.Test.YtpnacppmdlnjlaaRnA
import Derived.Test.YtpnacppmdlnjlaaLzOp
namespace Go.Proofs.Ytpnacppmdlnjlaa
namespace lzRound
open Go.ChangeShapes Go.WideShapes Go.ChangeAt Go.RowKit Go.Deep
set_option linter.unusedVariables false
theorem lents (w : World) (vp va : Value) (p ahead : List By) (hp : Old w vp p) (ha : Old w va ahead) (hpl : 4194304 < p.length) (hpl2 : p.length ≤ 140737488351232) (hal : ahead.length ≤ 140737488351232) :
    Hid (Calls Try.prog 9 #[vp] w fun e w1 => ∃ g1 c1, e = .returned (.tuple #[.slice (some ⟨g1, 0, none⟩) p.length c1, .slice (some ⟨g1, 0, none⟩) (p.length + 32) c1]) ∧ Hid (Calls Try.prog 9 #[va] w1 fun e w2 => ∃ g2 c2, e = .returned (.tuple #[.slice (some ⟨g2, 0, none⟩) ahead.length c2, .slice (some ⟨g2, 0, none⟩) (ahead.length + 32) c2]) ∧ Hid (Calls Try.prog 23 #[.slice (some ⟨g1, 0, none⟩) p.length c1, .slice (some ⟨g2, 0, none⟩) ahead.length c2] w2 fun e w3 => e = .returned (.tuple #[.slice none 0 0, .int .i64 2]) ∧ Hid (Nw w w3)))) := by
  show Calls _ _ _ _ _
  refine (lent_any w vp p hp hpl2).mono ?_
  rintro e w1 ⟨g1, c1, rfl, hg1, hO1, hN1⟩
  refine ⟨g1, c1, rfl, ?_⟩
  show Calls _ _ _ _ _
  refine (lent_any w1 va ahead (Sl.later ha hN1) hal).mono ?_
  rintro e w2 ⟨g2, c2, rfl, hg2, hO2, hN2⟩
  refine ⟨g2, c2, rfl, ?_⟩
  have hc2 : Old w2 (.slice (some ⟨g1, 0, none⟩) p.length c1) p := by
    obtain ⟨c', e, h1, h2, h3⟩ := (hO1.nw hN2).cut p.length (by rw [List.length_append]; omega)
    injection e with _ _ e
    subst e
    rw [List.take_left] at h3
    exact h3.old
  show Calls _ _ _ _ _
  refine (Encode_long w2 _ _ p ahead hc2 hpl hpl2).mono ?_
  rintro e w3 ⟨rfl, rfl⟩
  exact ⟨rfl, hN1.trans hN2⟩
set_option maxHeartbeats 40000000 in
set_option maxRecDepth 100000 in
theorem walk (w : World) (ap aa : Option Addr) (cp ca : Nat) (p ahead : List By) (hp : Old w (.slice ap p.length cp) p) (ha : Old w (.slice aa ahead.length ca) ahead) (hpl : p.length ≤ 140737488351232) (hal : ahead.length ≤ 140737488351232) :
    Calls Try.prog 6 #[.slice ap p.length cp, .slice aa ahead.length ca] w fun e w' => e = .returned (.bool true) ∧ Nw w w' := by
  obtain ⟨P, hP⟩ : ∃ P : Ending → World → Prop, P = fun e w' => e = .returned (.bool true) ∧ Nw w w' := ⟨_, rfl⟩
  rw [← hP]
  have HP : Hid (P = fun e w' => e = .returned (.bool true) ∧ Nw w w') := hP
  clear hP
  by_cases hlong : 4194304 < p.length
  · have HC := lents w _ _ p ahead hp ha hlong hpl hal
    clear hp ha
    have hz : (4194304 : Int) < (p.length : Int) := by omega
    generalize p.length = N at *
    generalize ahead.length = A at *
    go_enter Try.func6, Try.ntmps6
    go_wp2_with (first
      | (go_at_call 9; with_reducible refine (HC.out).mono ?_; rintro e w1 ⟨g1, c1, rfl, HC2⟩)
      | (go_at_call 9; with_reducible refine (HC2.out).mono ?_; rintro e w2 ⟨g2, c2, rfl, HC3⟩)
      | (go_at_call 23; with_reducible refine (HC3.out).mono ?_; rintro e w3 ⟨rfl, HN⟩))
    rw [HP.out]
    exact ⟨rfl, HN.out⟩
  · have HC := chainR w _ _ p ahead hp ha (by omega) hal
    clear hp ha
    have hz : ¬ (4194304 : Int) < (p.length : Int) := by omega
    have hpl4 : p.length ≤ 4194304 := by omega
    have HBR : Hid (∀ V, Calls Try.prog 25 #[.int .i64 p.length] V fun e w' => e = .returned (.int .i64 (p.length + p.length / 255 + 16 : Nat)) ∧ V = w') := fun V => (rbound_any V p.length).mono (fun e w' ⟨h1, h2⟩ => ⟨by rw [h1, bnd_nat _ hpl4], h2.symm⟩)
    have HBL : Hid (∀ V, Calls Try.prog 26 #[.int .i64 p.length] V fun e w' => e = .returned (.int .i64 (p.length + p.length / 255 + 16 : Nat)) ∧ V = w') := fun V => (bound_any V p.length).mono (fun e w' ⟨h1, h2⟩ => ⟨by rw [h1, bnd_nat _ hpl4], h2.symm⟩)
    have hbb : p.length + p.length / 255 + 16 ≤ 10000000 := by omega
    generalize p.length + p.length / 255 + 16 = BB at *
    generalize p.length = N at *
    generalize ahead.length = A at *
    go_enter Try.func6, Try.ntmps6
    go_wp2_with (first
      | (go_at_call 9; with_reducible refine (HC.out).mono ?_; rintro e w1 ⟨g1, c1, rfl, HC2⟩)
      | (go_at_call 9; with_reducible refine (HC2.out).mono ?_; rintro e w2 ⟨g2, c2, rfl, HC3⟩)
      | (go_at_call 23; with_reducible refine (HC3.out).mono ?_; rintro e w3 ⟨a3, bl, c3, rfl, hbl, HC4⟩; have hzb : ¬ (BB : Int) < (bl : Int) := (by omega))
      | (go_at_call 16; with_reducible refine (HC4.out).mono ?_; rintro e w4 ⟨a4, l4, c4, z4, rfl, SE, SK1, SK2, SD⟩)
      | (go_at_call 24; with_reducible refine (SE.out _ (by first | assumption | exact Fr.refl _ _)).mono ?_; rintro e v1 ⟨rfl, n1⟩)
      | (go_at_call 25; with_reducible refine (HBR.out _).mono ?_; rintro e v2 ⟨rfl, rfl⟩)
      | (go_at_call 26; with_reducible refine (HBL.out _).mono ?_; rintro e v3 ⟨rfl, rfl⟩)
      | (go_at_call 13; with_reducible refine (SK1.out _ (by first | assumption | exact Fr.refl _ _)).mono ?_; rintro e v4 ⟨rfl, n4⟩)
      | (go_at_call 13; with_reducible refine (SK2.out _ (by first | assumption | exact Fr.refl _ _)).mono ?_; rintro e v5 ⟨rfl, n5⟩)
      | (go_at_call 11; with_reducible refine (SD.out _ (by first | assumption | exact Fr.refl _ _)).mono ?_; rintro e w5 ⟨a5, c5, z5, rfl, a6, c6, W6, HAP6, HC7⟩)
      | (at_builtin; refine Lib.wpList_append_run _ rfl _ _ 22 22 rfl (.slice (some ⟨w5.heap.size, 0, none⟩) 0 0) (.slice a3 bl c3) (by simp [Act.eval]) (by simp [Act.eval]) _ _ (HAP6.out _) ?_)
      | (go_at_call 10; with_reducible refine (HC7.out).mono ?_; rintro e w7 ⟨a7, c7, z7, rfl, S1, S2, HC8⟩)
      | (go_at_call 12; with_reducible refine (S1.out _ (by first | assumption | exact Fr.refl _ _)).mono ?_; rintro e v6 ⟨rfl, n6⟩)
      | (go_at_call 12; with_reducible refine (S2.out _ (by first | assumption | exact Fr.refl _ _)).mono ?_; rintro e v7 ⟨rfl, n7⟩)
      | (go_at_call 23; with_reducible refine (HC8.out _ (by first | assumption | exact Fr.refl _ _)).mono ?_; rintro e w8 ⟨a8, c8, rfl, a9, c9, W9, HAP9, HC10⟩)
      | (at_builtin; refine Lib.wpList_append_run _ rfl _ _ 22 22 rfl (.slice (some ⟨w8.heap.size, 0, none⟩) 0 0) (.slice a3 bl c3) (by simp [Act.eval]) (by simp [Act.eval]) _ _ (HAP9.out _) ?_)
      | (go_at_call 14; with_reducible refine (HC10.out).mono ?_; rintro e w10 ⟨⟨r10, rfl⟩, Q1, Q2, Q3, HN10⟩)
      | (go_at_call 12; with_reducible refine (Q1.out _ (by first | assumption | exact Fr.refl _ _)).mono ?_; rintro e u1 ⟨rfl, m1⟩)
      | (go_at_call 13; with_reducible refine (Q2.out _ (by first | assumption | exact Fr.refl _ _)).mono ?_; rintro e u2 ⟨rfl, m2⟩)
      | (go_at_call 13; with_reducible refine (Q3.out _ (by first | assumption | exact Fr.refl _ _)).mono ?_; rintro e u3 ⟨rfl, m3⟩))
    rw [HP.out]
    exact ⟨rfl, HN10.out.trans m3⟩
set_option maxRecDepth 100000 in
theorem lifted (os : Os) (started : os.Started) (H : Type) (enc : TypeId × Value → H) :
    ReturnsInHanded {} Try.checked os 6 .any (Rows.lzRoundSpec.pre6 enc Try.prog Try.f6 Rows.lzRoundRow.domain false) (Rows.lzRoundSpec.post enc Try.prog Try.f6 false true false false) := by
  refine returnsInHanded_of_change_sized (C := Try.checked) own started (by kernel_rfl) Try.func6
    (ChangeSpec.witness6 (enc := enc) (C := Try.checked) false ⟨#[], #[.slice none 0 0, .slice none 0 0], []⟩ 8 (by kernel_rfl) (by kernel_rfl) (by kernel_rfl) (by kernel_rfl)) ?_
  intro W base args ds gs before hval0 hW hcnd hsz0 _
  have hval : ∀ (j : Nat) t v, Try.f6.params[j]? = some t → args[j]? = some v → Value.okWide Try.prog W .any base t v := hval0
  have hW' := hW
  obtain ⟨p, q, hA0, hV, rfl, hfz, hnd⟩ := hW
  have hA : DataW.TrodAll enc Try.prog W 0 (fun _ => true) true Try.f6.params.toList args.toList ds p := hA0
  have hsz : (DataW.weightsEach Try.prog (Try.f6.params.toList ++ Rows.lzRoundSpec.plain.varTypes Try.prog) (ds ++ gs)).all (· ≤ reachBytes) = true := hsz0
  rw [Try.params6] at hA hval hsz
  obtain ⟨v0, vs0, d0, ds0, p0, q0, hargs, rfl, rfl, h0, r0⟩ := trodAll_cons hA
  obtain ⟨v1, vs1, d1, ds1, p1, q1, rfl, rfl, rfl, h1, r1⟩ := trodAll_cons r0
  obtain ⟨rfl, rfl, rfl⟩ := trodAll_nil r1
  obtain rfl : args = #[v0, v1] := by cases args; simp_all
  obtain ⟨rfl, rfl⟩ := trodVars_none hV
  obtain ⟨a0, len0, cap0, rfl⟩ := okWide_slice Try.underlying22 (hval 0 22 v0 rfl rfl)
  obtain ⟨a1, len1, cap1, rfl⟩ := okWide_slice Try.underlying22 (hval 1 22 v1 rfl rfl)
  have lt0 : ∀ x ∈ p0, x.block < W.heap.size := by obtain ⟨m, hm⟩ := h0; exact DataW.trod_lt m _ _ _ hm
  have lt1 : ∀ x ∈ p1, x.block < W.heap.size := by obtain ⟨m, hm⟩ := h1; exact DataW.trod_lt m _ _ _ hm
  obtain ⟨l, hl, hll, hd⟩ := openedB h0
  obtain ⟨l', hl', hll', hd'⟩ := openedB h1
  have hrb : reachBytes = 140737488351232 := by decide
  have hbig : l.length ≤ 140737488351232 := by
    rcases hd with hd | ⟨e, sp, rfl, he⟩
    · omega
    · have := sized_slice hsz (j := 0) (t := 22) rfl rfl Try.underlying22
      rw [bytes5] at this
      rw [hrb] at this
      omega
  have hbig' : l'.length ≤ 140737488351232 := by
    rcases hd' with hd' | ⟨e, sp, rfl, he⟩
    · omega
    · have := sized_slice hsz (j := 1) (t := 22) rfl rfl Try.underlying22
      rw [bytes5] at this
      rw [hrb] at this
      omega
  clear hA0 hval0
  subst hll hll'
  refine (walk W a0 a1 cap0 cap1 l l' hl hl' hbig hbig').mono fun e W' ⟨he, hN⟩ => ?_
  subst he
  have bel : Below W.heap.size W W' := Fr.below (Below.refl _ _) hN (Nat.le_refl _) (fun i h => h.elim)
  exact ⟨_, rfl, _, _, _, [], _, [], hW', trodAll_mk1 (shut_bool Try.underlying4 _), (trodAll_cons_mk (Below.trod laidOut (by kernel_rfl) (of_decide_eq_true (by kernel_rfl)) h0 bel lt0) (trodAll_cons_mk (Below.trod laidOut (by kernel_rfl) (of_decide_eq_true (by kernel_rfl)) h1 bel lt1) trodAll_mk0)), rfl, bel.frame _, fun h => by cases h⟩

theorem over : Rows.lzRoundRow.holds Try.pinned (OpenSpec.ofChange Rows.lzRoundSpec) :=
  OpenClaim.holds_of_wide 6 Try.f6 rfl rfl rfl rfl rfl rfl rfl ⟨rfl, rfl, rfl, rfl, rfl⟩ rfl rfl rfl rfl rfl (by kernel_rfl) Try.func6 (by kernel_rfl)
    (of_decide_eq_true (by kernel_rfl)) (by unfold Func.isWrapper; first | (rw [if_pos (by decide +kernel)]; kernel_rfl) | (rw [if_neg (by decide +kernel)]; exact ⟨rfl, rfl⟩))
    (fun os started H enc _ => lifted os started H enc)
end lzRound
/-- THE STATEMENT -/
theorem lzRound_holds : Rows.LzRoundSaid :=
  lzRound.over
#print axioms lzRound_holds
end Go.Proofs.Ytpnacppmdlnjlaa

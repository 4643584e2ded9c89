import Derived.Test.YtpnacppmdlnjlaaRows
import Derived.Test.YtpnacppmdlnjlaaDeA
import Derived.Test.YtpnacppmdlnjlaaLzOp
namespace Go.Proofs.Ytpnacppmdlnjlaa
namespace lzDecodes
open Go.ChangeShapes Go.WideShapes Go.ChangeAt Go.RowKit Go.Deep
set_option linter.unusedVariables false
set_option maxHeartbeats 40000000 in
set_option maxRecDepth 100000 in
theorem walk (w : World) (ab aa : Option Addr) (cb ca : Nat) (b ahead : List By) (most : Int) (hb : Old w (.slice ab b.length cb) b) (ha : Old w (.slice aa ahead.length ca) ahead) (hbl : b.length ≤ 140737488351232) (hal : ahead.length ≤ 140737488351232) :
    Calls Try.prog 3 #[.slice ab b.length cb, .slice aa ahead.length ca, .int .i64 most] w fun e w' => e = .returned (.bool true) ∧ Nw w w' := by
  obtain ⟨R, at', why, hdec⟩ : ∃ R at' why, dec b ahead most = (R, at', why) := ⟨_, _, _, rfl⟩
  have hRl := dec_le b ahead most
  rw [hdec] at hRl
  have HC := chain w _ _ b ahead most hb ha hbl hal R at' why hdec hRl
  clear hb ha hdec
  obtain ⟨P, hP⟩ : ∃ P : Ending → World → Prop, P = fun e w' => e = .returned (.bool true) ∧ Nw w w' := ⟨_, rfl⟩
  rw [← hP]
  have HP : Hid (P = fun e w' => e = .returned (.bool true) ∧ Nw w w') := hP
  clear hP
  generalize R.length = rl at *
  generalize b.length = L at *
  generalize ahead.length = A at *
  go_enter Try.func3, Try.ntmps3
  go_wp2_with (first
    | (go_at_call 9; with_reducible refine (HC.out).mono ?_; rintro e w1 ⟨g1, c1, rfl, HC2⟩)
    | (go_at_call 9; with_reducible refine (HC2.out).mono ?_; rintro e w2 ⟨g2, c2, rfl, HC3⟩)
    | (go_at_call 10; with_reducible refine (HC3.out).mono ?_; rintro e w3 ⟨a3, c3, rfl, HC4⟩)
    | (go_at_call 10; with_reducible refine (HC4.out).mono ?_; rintro e w4 ⟨a4, c4, rfl, HC5⟩)
    | (go_at_call 11; with_reducible refine (HC5.out).mono ?_; rintro e w5 ⟨a5, c5, rfl, S1, S2, S3, S4, HF⟩)
    | (go_at_call 12; with_reducible refine (S1.out _ (by first | assumption | exact Fr.refl _ _)).mono ?_; rintro e v1 ⟨rfl, n1⟩)
    | (go_at_call 12; with_reducible refine (S2.out _ (by first | assumption | exact Fr.refl _ _)).mono ?_; rintro e v2 ⟨rfl, n2⟩)
    | (go_at_call 13; with_reducible refine (S3.out _ (by first | assumption | exact Fr.refl _ _)).mono ?_; rintro e v3 ⟨rfl, n3⟩)
    | (go_at_call 13; with_reducible refine (S4.out _ (by first | assumption | exact Fr.refl _ _)).mono ?_; rintro e v4 ⟨rfl, n4⟩)
    | (go_at_call 14; with_reducible refine (HF.out _ (by first | assumption | exact Fr.refl _ _)).mono ?_; rintro e w6 ⟨⟨r6, rfl⟩, HC7⟩)
    | (go_at_call 10; with_reducible refine (HC7.out).mono ?_; rintro e w7 ⟨g7, c7, rfl, hcell7, hc7, Q2, Q3, Q4, HN7⟩)
    | (go_at_call 12; with_reducible refine (Q2.out _ (by first | assumption | exact Fr.refl _ _)).mono ?_; rintro e u2 ⟨rfl, m2⟩)
    | (go_at_call 13; with_reducible refine (Q3.out _ (by first | assumption | exact Fr.refl _ _)).mono ?_; rintro e u3 ⟨rfl, m3⟩)
    | (go_at_call 13; with_reducible refine (Q4.out _ (by first | assumption | exact Fr.refl _ _)).mono ?_; rintro e u4 ⟨rfl, m4⟩; have hcell8 := Nw.cell m4 hcell7))
  rw [HP.out]
  exact ⟨rfl, HN7.out.trans m4⟩
set_option maxRecDepth 100000 in
theorem lifted (os : Os) (started : os.Started) (H : Type) (enc : TypeId × Value → H) :
    ReturnsInHanded {} Try.checked os 3 .any (Rows.lzDecodesSpec.pre6 enc Try.prog Try.f3 Rows.lzDecodesRow.domain false) (Rows.lzDecodesSpec.post enc Try.prog Try.f3 false true false false) := by
  refine returnsInHanded_of_change_sized (C := Try.checked) own started (by kernel_rfl) Try.func3
    (ChangeSpec.witness6 (enc := enc) (C := Try.checked) false ⟨#[], #[.slice none 0 0, .slice none 0 0, .int .i64 0], []⟩ 8 (by kernel_rfl) (by kernel_rfl) (by kernel_rfl) (by kernel_rfl)) ?_
  intro W base args ds gs before hval0 hW hcnd hsz0 _
  have hval : ∀ (j : Nat) t v, Try.f3.params[j]? = some t → args[j]? = some v → Value.okWide Try.prog W .any base t v := hval0
  have hW' := hW
  obtain ⟨p, q, hA0, hV, rfl, hfz, hnd⟩ := hW
  have hA : DataW.TrodAll enc Try.prog W 0 (fun _ => true) true Try.f3.params.toList args.toList ds p := hA0
  have hsz : (DataW.weightsEach Try.prog (Try.f3.params.toList ++ Rows.lzDecodesSpec.plain.varTypes Try.prog) (ds ++ gs)).all (· ≤ reachBytes) = true := hsz0
  rw [Try.params3] at hA hval hsz
  obtain ⟨v0, vs0, d0, ds0, p0, q0, hargs, rfl, rfl, h0, r0⟩ := trodAll_cons hA
  obtain ⟨v1, vs1, d1, ds1, p1, q1, rfl, rfl, rfl, h1, r1⟩ := trodAll_cons r0
  obtain ⟨v2, vs2, d2, ds2, p2, q2, rfl, rfl, rfl, h2, r2⟩ := trodAll_cons r1
  obtain ⟨rfl, rfl, rfl⟩ := trodAll_nil r2
  obtain rfl : args = #[v0, v1, v2] := by cases args; simp_all
  obtain ⟨rfl, rfl⟩ := trodVars_none hV
  obtain ⟨a0, len0, cap0, rfl⟩ := okWide_slice Try.underlying22 (hval 0 22 v0 rfl rfl)
  obtain ⟨a1, len1, cap1, rfl⟩ := okWide_slice Try.underlying22 (hval 1 22 v1 rfl rfl)
  obtain ⟨a2, rfl, rfl, rfl, w2⟩ := open_int Try.underlying3 (hval 2 3 v2 rfl rfl) h2
  have lt0 : ∀ x ∈ p0, x.block < W.heap.size := by obtain ⟨m, hm⟩ := h0; exact DataW.trod_lt m _ _ _ hm
  have lt1 : ∀ x ∈ p1, x.block < W.heap.size := by obtain ⟨m, hm⟩ := h1; exact DataW.trod_lt m _ _ _ hm
  obtain ⟨l, hl, hll, hd⟩ := openedB h0
  obtain ⟨l', hl', hll', hd'⟩ := openedB h1
  have hrb : reachBytes = 140737488351232 := by decide
  have hbig : l.length ≤ 140737488351232 := by
    rcases hd with hd | ⟨e, sp, rfl, he⟩
    · omega
    · have := sized_slice hsz (j := 0) (t := 22) rfl rfl Try.underlying22
      rw [bytes5] at this
      rw [hrb] at this
      omega
  have hbig' : l'.length ≤ 140737488351232 := by
    rcases hd' with hd' | ⟨e, sp, rfl, he⟩
    · omega
    · have := sized_slice hsz (j := 1) (t := 22) rfl rfl Try.underlying22
      rw [bytes5] at this
      rw [hrb] at this
      omega
  clear hA0 hval0
  subst hll hll'
  refine (walk W a0 a1 cap0 cap1 l l' _ hl hl' hbig hbig').mono fun e W' ⟨he, hN⟩ => ?_
  subst he
  have bel : Below W.heap.size W W' := Fr.below (Below.refl _ _) hN (Nat.le_refl _) (fun i h => h.elim)
  exact ⟨_, rfl, _, _, _, [], _, [], hW', trodAll_mk1 (shut_bool Try.underlying4 _), (trodAll_cons_mk (Below.trod laidOut (by kernel_rfl) (of_decide_eq_true (by kernel_rfl)) h0 bel lt0) (trodAll_cons_mk (Below.trod laidOut (by kernel_rfl) (of_decide_eq_true (by kernel_rfl)) h1 bel lt1) (trodAll_cons_mk (shut_int Try.underlying3 w2) trodAll_mk0))), rfl, bel.frame _, fun h => by cases h⟩

theorem over : Rows.lzDecodesRow.holds Try.pinned (OpenSpec.ofChange Rows.lzDecodesSpec) :=
  OpenClaim.holds_of_wide 3 Try.f3 rfl rfl rfl rfl rfl rfl rfl ⟨rfl, rfl, rfl, rfl, rfl⟩ rfl rfl rfl rfl rfl (by kernel_rfl) Try.func3 (by kernel_rfl)
    (of_decide_eq_true (by kernel_rfl)) (by unfold Func.isWrapper; first | (rw [if_pos (by decide +kernel)]; kernel_rfl) | (rw [if_neg (by decide +kernel)]; exact ⟨rfl, rfl⟩))
    (fun os started H enc _ => lifted os started H enc)
end lzDecodes
/-- THE STATEMENT -/
theorem lzDecodes_holds : Rows.LzDecodesSaid :=
  lzDecodes.over
#print axioms lzDecodes_holds
end Go.Proofs.Ytpnacppmdlnjlaa

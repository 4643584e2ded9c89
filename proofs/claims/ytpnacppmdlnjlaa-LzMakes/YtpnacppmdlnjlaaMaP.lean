import Derived.Test.YtpnacppmdlnjlaaRows
import Derived.Test.YtpnacppmdlnjlaaMaR
import Derived.Test.YtpnacppmdlnjlaaLzOp
import Derived.Test.YtpnacppmdlnjlaaSqOp
namespace Go.Proofs.Ytpnacppmdlnjlaa
namespace lzMakes
open Go.ChangeShapes Go.WideShapes Go.ChangeAt Go.RowKit Go.Deep
set_option linter.unusedVariables false
set_option maxHeartbeats 40000000 in
set_option maxRecDepth 100000 in
theorem walk (w : World) (al aa : Option Addr) (cl ca : Nat) (l : List Si) (ahead : List By) (most : Int) (hl : OldS w (.slice al l.length cl) l) (hp : ∀ s ∈ l, s.p.length ≤ 140737488351232) (ha : Old w (.slice aa ahead.length ca) ahead) (hal : ahead.length ≤ 140737488351232) :
    Calls Try.prog 5 #[.slice al l.length cl, .slice aa ahead.length ca, .int .i64 most] w fun e w' => e = .returned (.bool true) ∧ Nw w w' := by
  obtain ⟨M, me, hM⟩ : ∃ M me, mkR l = (M, me) := ⟨_, _, rfl⟩
  obtain ⟨Y, ye, hY⟩ : ∃ Y ye, plR l ahead most = (Y, ye) := ⟨_, _, rfl⟩
  have HC := chainM w _ _ l ahead most hl hp ha hal M me hM Y ye hY
  clear hl hp ha hM hY
  obtain ⟨P, hP⟩ : ∃ P : Ending → World → Prop, P = fun e w' => e = .returned (.bool true) ∧ Nw w w' := ⟨_, rfl⟩
  rw [← hP]
  have HP : Hid (P = fun e w' => e = .returned (.bool true) ∧ Nw w w') := hP
  clear hP
  generalize M.length = ml at *
  generalize Y.length = yl at *
  generalize l.length = L at *
  generalize ahead.length = A at *
  go_enter Try.func5, Try.ntmps5
  go_wp2_with (first
    | (go_at_call 18; with_reducible refine (HC.out).mono ?_; rintro e w1 ⟨g1, c1, rfl, HC2⟩)
    | (go_at_call 9; with_reducible refine (HC2.out).mono ?_; rintro e w2 ⟨g2, c2, rfl, HC3⟩)
    | (go_at_call 19; with_reducible refine (HC3.out).mono ?_; rintro e w3 ⟨a3, c3, rfl, HC4⟩)
    | (go_at_call 20; with_reducible refine (HC4.out).mono ?_; rintro e w4 ⟨a4, c4, rfl, HC5⟩)
    | (go_at_call 21; with_reducible refine (HC5.out).mono ?_; rintro e w5 ⟨a5, c5, rfl, HC6⟩)
    | (go_at_call 22; with_reducible refine (HC6.out).mono ?_; rintro e w6 ⟨a6, c6, rfl, S1, S2, S3, S4, HF⟩)
    | (go_at_call 12; with_reducible refine (S1.out _ (by first | assumption | exact Fr.refl _ _)).mono ?_; rintro e v1 ⟨rfl, n1⟩)
    | (go_at_call 12; with_reducible refine (S2.out _ (by first | assumption | exact Fr.refl _ _)).mono ?_; rintro e v2 ⟨rfl, n2⟩)
    | (go_at_call 17; with_reducible refine (S3.out _ (by first | assumption | exact Fr.refl _ _)).mono ?_; rintro e v3 ⟨rfl, n3⟩)
    | (go_at_call 13; with_reducible refine (S4.out _ (by first | assumption | exact Fr.refl _ _)).mono ?_; rintro e v4 ⟨rfl, n4⟩)
    | (go_at_call 14; with_reducible refine (HF.out _ (by first | assumption | exact Fr.refl _ _)).mono ?_; rintro e w7 ⟨⟨r7, rfl⟩, HC8⟩)
    | (go_at_call 14; with_reducible refine (HC8.out).mono ?_; rintro e w8 ⟨⟨r8, rfl⟩, HC9⟩)
    | (go_at_call 19; with_reducible refine (HC9.out).mono ?_; rintro e w9 ⟨a9, c9, rfl, Q3, Q4, HN9⟩)
    | (go_at_call 17; with_reducible refine (Q3.out _ (by first | assumption | exact Fr.refl _ _)).mono ?_; rintro e u3 ⟨rfl, m3⟩)
    | (go_at_call 13; with_reducible refine (Q4.out _ (by first | assumption | exact Fr.refl _ _)).mono ?_; rintro e u4 ⟨rfl, m4⟩))
  rw [HP.out]
  exact ⟨rfl, HN9.out.trans m4⟩
set_option maxRecDepth 100000 in
theorem lifted (os : Os) (started : os.Started) (H : Type) (enc : TypeId × Value → H) :
    ReturnsInHanded {} Try.checked os 5 .any (Rows.lzMakesSpec.pre6 enc Try.prog Try.f5 Rows.lzMakesRow.domain false) (Rows.lzMakesSpec.post enc Try.prog Try.f5 false true false false) := by
  refine returnsInHanded_of_change_sized (C := Try.checked) own started (by kernel_rfl) Try.func5
    (ChangeSpec.witness6 (enc := enc) (C := Try.checked) false ⟨#[], #[.slice none 0 0, .slice none 0 0, .int .i64 0], []⟩ 8 (by kernel_rfl) (by kernel_rfl) (by kernel_rfl) (by kernel_rfl)) ?_
  intro W base args ds gs before hval0 hW hcnd hsz0 _
  have hval : ∀ (j : Nat) t v, Try.f5.params[j]? = some t → args[j]? = some v → Value.okWide Try.prog W .any base t v := hval0
  have hW' := hW
  obtain ⟨p, q, hA0, hV, rfl, hfz, hnd⟩ := hW
  have hA : DataW.TrodAll enc Try.prog W 0 (fun _ => true) true Try.f5.params.toList args.toList ds p := hA0
  have hsz : (DataW.weightsEach Try.prog (Try.f5.params.toList ++ Rows.lzMakesSpec.plain.varTypes Try.prog) (ds ++ gs)).all (· ≤ reachBytes) = true := hsz0
  rw [Try.params5] at hA hval hsz
  obtain ⟨v0, vs0, d0, ds0, p0, q0, hargs, rfl, rfl, h0, r0⟩ := trodAll_cons hA
  obtain ⟨v1, vs1, d1, ds1, p1, q1, rfl, rfl, rfl, h1, r1⟩ := trodAll_cons r0
  obtain ⟨v2, vs2, d2, ds2, p2, q2, rfl, rfl, rfl, h2, r2⟩ := trodAll_cons r1
  obtain ⟨rfl, rfl, rfl⟩ := trodAll_nil r2
  obtain rfl : args = #[v0, v1, v2] := by cases args; simp_all
  obtain ⟨rfl, rfl⟩ := trodVars_none hV
  obtain ⟨a0, len0, cap0, rfl⟩ := okWide_slice Try.underlying31 (hval 0 31 v0 rfl rfl)
  obtain ⟨a1, len1, cap1, rfl⟩ := okWide_slice Try.underlying22 (hval 1 22 v1 rfl rfl)
  obtain ⟨a2, rfl, rfl, rfl, w2⟩ := open_int Try.underlying3 (hval 2 3 v2 rfl rfl) h2
  have lt0 : ∀ x ∈ p0, x.block < W.heap.size := by obtain ⟨m, hm⟩ := h0; exact DataW.trod_lt m _ _ _ hm
  have lt1 : ∀ x ∈ p1, x.block < W.heap.size := by obtain ⟨m, hm⟩ := h1; exact DataW.trod_lt m _ _ _ hm
  obtain ⟨l', hl', hll', hd'⟩ := openedB h1
  have hrb : reachBytes = 140737488351232 := by decide
  obtain ⟨l, hll, hl, hpl⟩ := openedS h0 (fun n hn => by
    have := List.all_eq_true.1 hsz n (DataW.weights_mem_each (j := 0) (t := 31) rfl rfl n hn)
    simpa using this)
  have hbig' : l'.length ≤ 140737488351232 := by
    rcases hd' with hd' | ⟨e, sp, rfl, he⟩
    · omega
    · have := sized_slice hsz (j := 1) (t := 22) rfl rfl Try.underlying22
      rw [bytes5] at this
      rw [hrb] at this
      omega
  clear hA0 hval0
  subst hll hll'
  refine (walk W a0 a1 cap0 cap1 l l' _ hl hpl hl' hbig').mono fun e W' ⟨he, hN⟩ => ?_
  subst he
  have bel : Below W.heap.size W W' := Fr.below (Below.refl _ _) hN (Nat.le_refl _) (fun i h => h.elim)
  exact ⟨_, rfl, _, _, _, [], _, [], hW', trodAll_mk1 (shut_bool Try.underlying4 _), (trodAll_cons_mk (Below.trod laidOut (by kernel_rfl) (of_decide_eq_true (by kernel_rfl)) h0 bel lt0) (trodAll_cons_mk (Below.trod laidOut (by kernel_rfl) (of_decide_eq_true (by kernel_rfl)) h1 bel lt1) (trodAll_cons_mk (shut_int Try.underlying3 w2) trodAll_mk0))), rfl, bel.frame _, fun h => by cases h⟩

theorem over : Rows.lzMakesRow.holds Try.pinned (OpenSpec.ofChange Rows.lzMakesSpec) :=
  OpenClaim.holds_of_wide 5 Try.f5 rfl rfl rfl rfl rfl rfl rfl ⟨rfl, rfl, rfl, rfl, rfl⟩ rfl rfl rfl rfl rfl (by kernel_rfl) Try.func5 (by kernel_rfl)
    (of_decide_eq_true (by kernel_rfl)) (by unfold Func.isWrapper; first | (rw [if_pos (by decide +kernel)]; kernel_rfl) | (rw [if_neg (by decide +kernel)]; exact ⟨rfl, rfl⟩))
    (fun os started H enc _ => lifted os started H enc)
end lzMakes
/-- THE STATEMENT -/
theorem lzMakes_holds : Rows.LzMakesSaid :=
  lzMakes.over
#print axioms lzMakes_holds
end Go.Proofs.Ytpnacppmdlnjlaa

import Derived.Test.YtpnacppmdlnjlabRows
import Derived.Test.YtpnacppmdlnjlabLzQ
import Derived.Test.YtpnacppmdlnjlabLzC3
import Derived.Test.YtpnacppmdlnjlabLzOp
import Derived.Lib.AppendZeros
namespace Go.Proofs.Ytpnacppmdlnjlab
/-- A copy: append([]byte{}, x...). -/
theorem copy_any (w : World) (x : Value) (l : List By) (hx : Old w x l) (hl : l.length ≤ 200000000000000) : ∃ g c W, Go.RowKit.Hid (∀ ty, (Builtin.append_ #[22, 22] ty #[.slice (some ⟨w.heap.size, 0, none⟩) 0 0, x]).run Try.prog (w.alloc (.cells #[] 5)) = .ok (.slice (some ⟨g, 0, none⟩) l.length c) W) ∧ Ow g (.slice (some ⟨g, 0, none⟩) l.length c) l W ∧ w.heap.size ≤ g ∧ Nw w W := by
  obtain ⟨v, g, W, hap, hO, hF, hg⟩ := app_any (w.alloc (.cells #[] 5)) w.heap.size _ [] (Ow.empty w) x l ((hx.nw ((Fr.refl _ _).alloc _)).mono (fun _ h => h.elim)) (by simp; omega)
  rw [List.nil_append] at hO
  have hO' := hO
  obtain ⟨xs, rfl, _⟩ := hO'
  refine ⟨g, xs.length, W, hap, hO, ?_, Fr.then ((Fr.refl _ _).alloc _) hF (fun i hi => .inr (by omega))⟩
  rcases hg with h | h
  · omega
  · simp at h; omega
namespace lzBounded
open Go.ChangeShapes Go.WideShapes Go.ChangeAt Go.RowKit Go.Deep
set_option linter.unusedVariables false
set_option maxHeartbeats 40000000 in
set_option maxRecDepth 100000 in
theorem walk (w : World) (ab aa : Option Addr) (cb ca : Nat) (b ahead : List By) (most : Int) (hb : Old w (.slice ab b.length cb) b) (ha : Old w (.slice aa ahead.length ca) ahead) (hbl : b.length ≤ 140737488351232) (hal : ahead.length ≤ 140737488351232) :
    Calls Try.prog 3 #[.slice ab b.length cb, .slice aa ahead.length ca, .int .i64 most] w fun e w' => e = .returned (.bool true) ∧ Nw w w' := by
  obtain ⟨P, hP⟩ : ∃ P : Ending → World → Prop, P = fun e w' => e = .returned (.bool true) ∧ Nw w w' := ⟨_, rfl⟩
  rw [← hP]
  have HP : Hid (P = fun e w' => e = .returned (.bool true) ∧ Nw w w') := hP
  clear hP
  obtain ⟨g1, c1, W1, HAP1, hO1, hg1, hN1⟩ := copy_any w _ b hb (by omega)
  obtain ⟨g2, c2, W2, HAP2, hO2, hg2, hN2⟩ := copy_any W1 _ ahead (Sl.later ha hN1) (by omega)
  have hsh := dec_shape b ahead most
  have hbd := dec_bound b ahead most
  have hD := decode_any W2 _ _ b ahead most (hO1.nw hN2).old hO2.old hbl hal
  obtain ⟨R, at', why, hdec⟩ : ∃ R at' why, dec b ahead most = (R, at', why) := ⟨_, _, _, rfl⟩
  rw [hdec] at hsh hbd hD
  have HD : Hid (Calls Try.prog 5 #[.slice (some ⟨g1, 0, none⟩) b.length c1, .slice (some ⟨g2, 0, none⟩) ahead.length c2, .int .i64 most] W2 fun e w3 => ∃ a3 c3, e = .returned (.tuple #[.slice a3 R.length c3, .int .i64 at', .int .i64 why]) ∧ Hid (Nw w w3) ∧ Hid (Calls Try.prog 5 #[.slice none 0 0, .slice none 0 0, .int .i64 0] w3 fun e w4 => ∃ a4 c4, e = .returned (.tuple #[.slice a4 0 c4, .int .i64 0, .int .i64 4]) ∧ Hid (Nw w w4))) := by
    show Calls _ _ _ _ _
    refine hD.mono ?_
    rintro e w3 ⟨a3, c3, rfl, _, hN3⟩
    have h3 : Nw w w3 := (hN1.trans hN2).trans hN3
    refine ⟨a3, c3, rfl, h3, ?_⟩
    show Calls _ _ _ _ _
    refine (decode_any w3 _ _ [] [] 0 (.inl ⟨none, rfl, rfl⟩) (.inl ⟨none, rfl, rfl⟩) (by simp) (by simp)).mono ?_
    rw [dec_none]
    rintro e w4 ⟨a4, c4, rfl, _, hN4⟩
    exact ⟨a4, c4, rfl, h3.trans hN4⟩
  clear hD hb ha hO1 hO2 hg1 hg2 hN1 hN2 hdec
  simp only at hsh hbd
  rcases hsh with ⟨rfl, rfl⟩ | ⟨hw, rfl, hat⟩
  · obtain ⟨hb1, hb2, hb3⟩ := hbd
    have hb3' := hb3 rfl
    clear hb3
    generalize R.length = rl at *
    generalize b.length = L at *
    generalize ahead.length = A at *
    have F1 : (rl : Int) ≤ most := by omega
    have F2 : (rl : Int) ≤ 255 * (L : Int) := by omega
    have hw0 : IntKind.i64.wrap (255 * (L : Int)) = 255 * (L : Int) := by rw [IntKind.wrap_i64]; omega
    go_enter Try.func3, Try.ntmps3
    go_wp2_with (first
      | (at_builtin; refine Lib.wpList_append_run _ rfl _ _ 22 22 rfl (.slice (some ⟨w.heap.size, 0, none⟩) 0 0) (.slice ab L cb) (by simp [Act.eval]) (by simp [Act.eval]) _ _ (HAP1.out _) ?_)
      | (at_builtin; refine Lib.wpList_append_run _ rfl _ _ 22 22 rfl (.slice (some ⟨W1.heap.size, 0, none⟩) 0 0) (.slice aa A ca) (by simp [Act.eval]) (by simp [Act.eval]) _ _ (HAP2.out _) ?_)
      | (go_at_call 5; with_reducible refine (HD.out).mono ?_; rintro e w3 ⟨a3, c3, rfl, HN3, HD2⟩)
      | (go_at_call 5; with_reducible refine (HD2.out).mono ?_; rintro e w4 ⟨a4, c4, rfl, HN4⟩))
    rw [HP.out]
    exact ⟨by simp, HN4.out⟩
  · have hw' : ¬ (why : Int) = 0 := by omega
    have hlt : (at' : Int) ≤ (b.length : Int) := by omega
    rw [List.length_nil] at HD
    generalize b.length = L at *
    generalize ahead.length = A at *
    go_enter Try.func3, Try.ntmps3
    go_wp2_with (first
      | (at_builtin; refine Lib.wpList_append_run _ rfl _ _ 22 22 rfl (.slice (some ⟨w.heap.size, 0, none⟩) 0 0) (.slice ab L cb) (by simp [Act.eval]) (by simp [Act.eval]) _ _ (HAP1.out _) ?_)
      | (at_builtin; refine Lib.wpList_append_run _ rfl _ _ 22 22 rfl (.slice (some ⟨W1.heap.size, 0, none⟩) 0 0) (.slice aa A ca) (by simp [Act.eval]) (by simp [Act.eval]) _ _ (HAP2.out _) ?_)
      | (go_at_call 5; with_reducible refine (HD.out).mono ?_; rintro e w3 ⟨a3, c3, rfl, HN3, HD2⟩))
    rw [HP.out]
    exact ⟨by simp, HN3.out⟩
set_option maxRecDepth 100000 in
theorem lifted (os : Os) (started : os.Started) (H : Type) (enc : TypeId × Value → H) :
    ReturnsInHanded {} Try.checked os 3 .any (Rows.lzBoundedSpec.pre6 enc Try.prog Try.f3 Rows.lzBoundedRow.domain false) (Rows.lzBoundedSpec.post enc Try.prog Try.f3 false true false false) := by
  refine returnsInHanded_of_change_sized (C := Try.checked) own started (by kernel_rfl) Try.func3
    (ChangeSpec.witness6 (enc := enc) (C := Try.checked) false ⟨#[], #[.slice none 0 0, .slice none 0 0, .int .i64 0], []⟩ 8 (by kernel_rfl) (by kernel_rfl) (by kernel_rfl) (by kernel_rfl)) ?_
  intro W base args ds gs before hval0 hW hcnd hsz0 _
  have hval : ∀ (j : Nat) t v, Try.f3.params[j]? = some t → args[j]? = some v → Value.okWide Try.prog W .any base t v := hval0
  have hW' := hW
  obtain ⟨p, q, hA0, hV, rfl, hfz, hnd⟩ := hW
  have hA : DataW.TrodAll enc Try.prog W 0 (fun _ => true) true Try.f3.params.toList args.toList ds p := hA0
  have hsz : (DataW.weightsEach Try.prog (Try.f3.params.toList ++ Rows.lzBoundedSpec.plain.varTypes Try.prog) (ds ++ gs)).all (· ≤ reachBytes) = true := hsz0
  rw [Try.params3] at hA hval hsz
  obtain ⟨v0, vs0, d0, ds0, p0, q0, hargs, rfl, rfl, h0, r0⟩ := trodAll_cons hA
  obtain ⟨v1, vs1, d1, ds1, p1, q1, rfl, rfl, rfl, h1, r1⟩ := trodAll_cons r0
  obtain ⟨v2, vs2, d2, ds2, p2, q2, rfl, rfl, rfl, h2, r2⟩ := trodAll_cons r1
  obtain ⟨rfl, rfl, rfl⟩ := trodAll_nil r2
  obtain rfl : args = #[v0, v1, v2] := by cases args; simp_all
  obtain ⟨rfl, rfl⟩ := trodVars_none hV
  obtain ⟨a0, len0, cap0, rfl⟩ := okWide_slice Try.underlying22 (hval 0 22 v0 rfl rfl)
  obtain ⟨a1, len1, cap1, rfl⟩ := okWide_slice Try.underlying22 (hval 1 22 v1 rfl rfl)
  obtain ⟨a2, rfl, rfl, rfl, w2⟩ := open_int Try.underlying3 (hval 2 3 v2 rfl rfl) h2
  have lt0 : ∀ x ∈ p0, x.block < W.heap.size := by obtain ⟨m, hm⟩ := h0; exact DataW.trod_lt m _ _ _ hm
  have lt1 : ∀ x ∈ p1, x.block < W.heap.size := by obtain ⟨m, hm⟩ := h1; exact DataW.trod_lt m _ _ _ hm
  obtain ⟨l, hl, hll, hd⟩ := openedB h0
  obtain ⟨l', hl', hll', hd'⟩ := openedB h1
  have hrb : reachBytes = 140737488351232 := by decide
  have hbig : l.length ≤ 140737488351232 := by
    rcases hd with hd | ⟨e, sp, rfl, he⟩
    · omega
    · have := sized_slice hsz (j := 0) (t := 22) rfl rfl Try.underlying22
      rw [bytes5] at this
      rw [hrb] at this
      omega
  have hbig' : l'.length ≤ 140737488351232 := by
    rcases hd' with hd' | ⟨e, sp, rfl, he⟩
    · omega
    · have := sized_slice hsz (j := 1) (t := 22) rfl rfl Try.underlying22
      rw [bytes5] at this
      rw [hrb] at this
      omega
  clear hA0 hval0
  subst hll hll'
  refine (walk W a0 a1 cap0 cap1 l l' _ hl hl' hbig hbig').mono fun e W' ⟨he, hN⟩ => ?_
  subst he
  have bel : Below W.heap.size W W' := Fr.below (Below.refl _ _) hN (Nat.le_refl _) (fun i h => h.elim)
  exact ⟨_, rfl, _, _, _, [], _, [], hW', trodAll_mk1 (shut_bool Try.underlying4 _), (trodAll_cons_mk (Below.trod laidOut (by kernel_rfl) (of_decide_eq_true (by kernel_rfl)) h0 bel lt0) (trodAll_cons_mk (Below.trod laidOut (by kernel_rfl) (of_decide_eq_true (by kernel_rfl)) h1 bel lt1) (trodAll_cons_mk (shut_int Try.underlying3 w2) trodAll_mk0))), rfl, bel.frame _, fun h => by cases h⟩

theorem over : Rows.lzBoundedRow.holds Try.pinned (OpenSpec.ofChange Rows.lzBoundedSpec) :=
  OpenClaim.holds_of_wide 3 Try.f3 rfl rfl rfl rfl rfl rfl rfl ⟨rfl, rfl, rfl, rfl, rfl⟩ rfl rfl rfl rfl rfl (by kernel_rfl) Try.func3 (by kernel_rfl)
    (of_decide_eq_true (by kernel_rfl)) (by unfold Func.isWrapper; first | (rw [if_pos (by decide +kernel)]; kernel_rfl) | (rw [if_neg (by decide +kernel)]; exact ⟨rfl, rfl⟩))
    (fun os started H enc _ => lifted os started H enc)
end lzBounded
/-- THE STATEMENT -/
theorem lzBounded_holds : Rows.LzBoundedSaid :=
  lzBounded.over
#print axioms lzBounded_holds
end Go.Proofs.Ytpnacppmdlnjlab

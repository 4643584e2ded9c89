import Derived.Test.YtlfcgldbgejfbaaRows
import Derived.Test.YtlfcgldbgejfbaaXxY
import Derived.Test.YtlfcgldbgejfbaaXxZ
import Derived.Test.YtlfcgldbgejfbaaXxX
import Derived.Lib.AppendZeros
namespace Go.Proofs.Ytlfcgldbgejfbaa
namespace xxhSums
open Go.ChangeShapes Go.WideShapes Go.ChangeAt Go.RowKit Go.Deep
set_option linter.unusedVariables false
theorem later {w V : World} {v : Value} {b : List By} (h : Old w v b) (hV : Nw w V) : Old V v b := (h.nw hV).mono (fun g hg => Nat.le_trans hV.size hg)
set_option maxHeartbeats 40000000 in
set_option maxRecDepth 100000 in
theorem walk (l : List By) (a : Option Addr) (cap : Nat) (s : BitVec 32) (t : BitVec 64) (w : World) (hv : Old w (.slice a l.length cap) l) (hb : l.length ≤ 140737488351232) :
    Calls Try.prog 3 #[.int .u32 s.toNat, .int .u64 t.toNat, .slice a l.length cap] w fun e w' => e = .returned (.bool true) ∧ Nw w w' := by
  -- the first append
  obtain ⟨v1, g1, W1, hap1, hO1, hF1, hg1⟩ := app_any (w.alloc (.cells #[] 5)) w.heap.size _ [] (Ow.empty w) (.slice a l.length cap) l ((hv.nw ((Fr.refl _ _).alloc _)).mono (fun _ h => h.elim)) (by simp; omega)
  rw [List.nil_append] at hO1
  have hN1 : Nw w W1 := Fr.then ((Fr.refl _ _).alloc _) hF1 (fun i hi => .inr (by omega))
  have hg1' : w.heap.size ≤ g1 := by rcases hg1 with h | h; omega; simp at h; omega
  -- the second
  obtain ⟨v2, g2, W2, hap2, hO2, hF2, hg2⟩ := app_any (W1.alloc (.cells #[.int .u8 1, .int .u8 2, .int .u8 3] 5)) g1 v1 l (hO1.nw ((Fr.refl _ _).alloc _)) (.slice (some ⟨W1.heap.size, 0, none⟩) 3 3) [1#8, 2#8, 3#8] (one_two_three W1) (by simp; omega)
  have hN2 : Nw w W2 := Fr.then (hN1.alloc _) hF2 (fun i hi => .inr (by omega))
  obtain ⟨c2, rfl, hc2, hc2', hO3⟩ := hO2.cut l.length (by simp)
  rw [List.take_left] at hO3
  have hstr : Hid (str l ++ ({ data := #[1, 2, 3] } : ByteArray) = str (l ++ [1#8, 2#8, 3#8])) := by show _ = _; rw [← str_app]; rfl
  have H9 : Hid (∀ V, Nw W2 V → Calls Try.prog 9 #[.int .u32 s.toNat, .slice (some ⟨g2, 0, none⟩) l.length c2] V fun e w' => e = .returned (.int .u32 (s32 s l).toNat) ∧ Nw W2 w') := fun V hV => cbase hV (sumf32_any s _ l V (hO3.nw hV).old)
  have H10 : Hid (∀ V, Nw W2 V → Calls Try.prog 10 #[.int .u64 t.toNat, .slice (some ⟨g2, 0, none⟩) l.length c2] V fun e w' => e = .returned (.int .u64 (s64 t l).toNat) ∧ Nw W2 w') := fun V hV => cbase hV (sumf64_any t _ l V (hO3.nw hV).old)
  have H11 : Hid (∀ V, Nw W2 V → Calls Try.prog 11 #[.int .u32 s.toNat, .slice a l.length cap] V fun e w' => e = .returned (.int .u32 (s32 s l).toNat) ∧ Nw W2 w') := fun V hV => cbase hV (rsum32_any s _ l V (later hv (hN2.trans hV)))
  have H12 : Hid (∀ V, Nw W2 V → Calls Try.prog 12 #[.int .u64 t.toNat, .slice a l.length cap] V fun e w' => e = .returned (.int .u64 (s64 t l).toNat) ∧ Nw W2 w' ∧ (convert 24 9 (.slice (some ⟨g2, 0, none⟩) (l.length + 3) c2)).run Try.prog w' = .ok (.string (str (l ++ [1#8, 2#8, 3#8]))) w' ∧ (convert 24 9 (.slice a l.length cap)).run Try.prog w' = .ok (.string (str l)) w') := fun V hV => (cbase hV (rsum64_any t _ l V (later hv (hN2.trans hV)))).mono (fun e w' h => ⟨h.1, h.2, by
    have := conv_any (hO2.nw h.2).old
    rw [show (l ++ [1#8, 2#8, 3#8]).length = l.length + 3 by simp] at this
    exact this, conv_any (hv.nw (hN2.trans h.2))⟩)
  have hs1 : (str l).size = l.length := str_size l
  have hs2 : ({ data := #[1, 2, 3] } : ByteArray).size = 3 := rfl
  have hN2' : Hid (Nw w W2) := hN2
  rw [show (l ++ [1#8, 2#8, 3#8]).length = l.length + 3 by simp] at hap2 hc2
  have HAP1 : Hid (∀ ty, (Builtin.append_ #[24, 24] ty #[.slice (some ⟨w.heap.size, 0, none⟩) 0 0, .slice a l.length cap]).run Try.prog (w.alloc (.cells #[] 5)) = .ok v1 W1) := hap1
  have HAP2 : Hid (∀ ty, (Builtin.append_ #[24, 24] ty #[v1, .slice (some ⟨W1.heap.size, 0, none⟩) 3 3]).run Try.prog (W1.alloc (.cells #[.int .u8 1, .int .u8 2, .int .u8 3] 5)) = .ok (.slice (some ⟨g2, 0, none⟩) (l.length + 3) c2) W2) := hap2
  clear hap1 hap2 hO1 hO2 hO3 hF1 hF2 hv hN1 hN2 hg1 hg2 hg1'
  generalize l.length = n at *
  have hz : (n : Int) ≤ (c2 : Int) := by omega
  generalize s32 s l = A at *
  generalize s64 t l = B at *
  go_enter Try.func3, Try.ntmps3
  go_wp2_with (first
      | (at_builtin; refine Lib.wpList_append_run _ rfl _ _ 24 24 rfl (.slice (some ⟨w.heap.size, 0, none⟩) 0 0) (.slice a n cap) (by simp [Act.eval]) (by simp [Act.eval]) _ _ (HAP1.out _) ?_)
      | (at_builtin; refine Lib.wpList_append_run _ rfl _ _ 24 24 rfl v1 (.slice (some ⟨W1.heap.size, 0, none⟩) 3 3) (by simp [Act.eval]) (by simp [Act.eval]) _ _ (HAP2.out _) ?_))
  go_region_held3 (fun w' => True) (exact trivial)
    (first
      | (go_at_call 9; with_reducible refine (H9.out _ ?_).mono ?_; (first | assumption | exact (Fr.refl _ _).drew | exact Fr.refl _ _); rintro e w3 ⟨rfl, hN3⟩)
      | (go_at_call 10; with_reducible refine (H10.out _ ?_).mono ?_; (first | assumption | exact (Fr.refl _ _).drew | exact Fr.refl _ _); rintro e w4 ⟨rfl, hN4⟩))
  all_goals go_wp2_with (first
      | (go_at_call 11; with_reducible refine (H11.out _ ?_).mono ?_; (first | assumption | exact (Fr.refl _ _).drew | exact Fr.refl _ _); rintro e w5 ⟨rfl, hN5⟩)
      | (go_at_call 12; with_reducible refine (H12.out _ ?_).mono ?_; (first | assumption | exact (Fr.refl _ _).drew | exact Fr.refl _ _); rintro e w6 ⟨rfl, hN6, hcv1, hcv2⟩))
  all_goals go_ret
  all_goals exact ⟨by rw [hstr.out]; simp, hN2'.out.trans (by assumption)⟩

theorem u32_of {n : Int} (h : (Lit.int .u32 n).wf = true) : ∃ o : BitVec 32, n = (o.toNat : Int) := by
  have hb : 0 ≤ n ∧ n < 4294967296 := by
    simp [Lit.wf, IntKind.bits, IntKind.signed, IntKind.min, IntKind.max] at h
    omega
  exact ⟨BitVec.ofNat 32 n.toNat, by rw [BitVec.toNat_ofNat]; omega⟩
theorem u64_of {n : Int} (h : (Lit.int .u64 n).wf = true) : ∃ o : BitVec 64, n = (o.toNat : Int) := by
  have hb : 0 ≤ n ∧ n < 18446744073709551616 := by
    simp [Lit.wf, IntKind.bits, IntKind.signed, IntKind.min, IntKind.max] at h
    omega
  exact ⟨BitVec.ofNat 64 n.toNat, by rw [BitVec.toNat_ofNat]; omega⟩
set_option maxRecDepth 100000 in
theorem lifted (os : Os) (started : os.Started) (H : Type) (enc : TypeId × Value → H) :
    ReturnsInHanded {} Try.checked os 3 .any (Rows.xxhSumsSpec.pre6 enc Try.prog Try.f3 Rows.xxhSumsRow.domain false) (Rows.xxhSumsSpec.post enc Try.prog Try.f3 false true false false) := by
  refine returnsInHanded_of_change_sized (C := Try.checked) own started (by kernel_rfl) Try.func3
    (ChangeSpec.witness6 (enc := enc) (C := Try.checked) false ⟨#[], #[.int .u32 0, .int .u64 0, .slice none 0 0], []⟩ 8 (by kernel_rfl) (by kernel_rfl) (by kernel_rfl) (by kernel_rfl)) ?_
  intro W base args ds gs before hval0 hW hcnd hsz0 _
  have hval : ∀ (j : Nat) t v, Try.f3.params[j]? = some t → args[j]? = some v → Value.okWide Try.prog W .any base t v := hval0
  have hW' := hW
  obtain ⟨p, q, hA0, hV, rfl, hfz, hnd⟩ := hW
  have hA : DataW.TrodAll enc Try.prog W 0 (fun _ => true) true Try.f3.params.toList args.toList ds p := hA0
  have hsz : (DataW.weightsEach Try.prog (Try.f3.params.toList ++ Rows.xxhSumsSpec.plain.varTypes Try.prog) (ds ++ gs)).all (· ≤ reachBytes) = true := hsz0
  rw [Try.params3] at hA hval hsz
  obtain ⟨v0, vs0, d0, ds0, p0, q0, hargs, rfl, rfl, h0, r0⟩ := trodAll_cons hA
  obtain ⟨v1, vs1, d1, ds1, p1, q1, rfl, rfl, rfl, h1, r1⟩ := trodAll_cons r0
  obtain ⟨v2, vs2, d2, ds2, p2, q2, rfl, rfl, rfl, h2, r2⟩ := trodAll_cons r1
  obtain ⟨rfl, rfl, rfl⟩ := trodAll_nil r2
  obtain rfl : args = #[v0, v1, v2] := by cases args; simp_all
  obtain ⟨rfl, rfl⟩ := trodVars_none hV
  obtain ⟨a0, rfl, rfl, rfl, w0⟩ := open_int Try.underlying22 (hval 0 22 v0 rfl rfl) h0
  obtain ⟨a1, rfl, rfl, rfl, w1⟩ := open_int Try.underlying23 (hval 1 23 v1 rfl rfl) h1
  obtain ⟨a2, len2, cap2, rfl⟩ := okWide_slice Try.underlying24 (hval 2 24 v2 rfl rfl)
  have lt2 : ∀ x ∈ p2, x.block < W.heap.size := by obtain ⟨m, hm⟩ := h2; exact DataW.trod_lt m _ _ _ hm
  obtain ⟨l, hl, hll, hd⟩ := openedB h2
  have hbig : l.length ≤ 140737488351232 := by
    rcases hd with hd | ⟨e, sp, rfl, he⟩
    · omega
    · have := sized_slice hsz (j := 2) (t := 24) rfl rfl Try.underlying24
      rw [bytes5] at this
      have hrb : reachBytes = 140737488351232 := by decide
      rw [hrb] at this
      omega
  obtain ⟨o, rfl⟩ := u32_of w0
  obtain ⟨t, rfl⟩ := u64_of w1
  clear hA0 hval0
  subst hll
  refine (walk l a2 cap2 o t W hl hbig).mono fun e W' ⟨he, hN⟩ => ?_
  subst he
  have bel : Below W.heap.size W W' := Fr.below (Below.refl _ _) hN (Nat.le_refl _) (fun i h => h.elim)
  exact ⟨_, rfl, _, _, _, [], _, [], hW', trodAll_mk1 (shut_bool Try.underlying4 _), (trodAll_cons_mk (shut_int Try.underlying22 w0) (trodAll_cons_mk (shut_int Try.underlying23 w1) (trodAll_cons_mk (Below.trod laidOut (by kernel_rfl) (of_decide_eq_true (by kernel_rfl)) h2 bel lt2) trodAll_mk0))), rfl, bel.frame _, fun h => by cases h⟩

theorem over : Rows.xxhSumsRow.holds Try.pinned (OpenSpec.ofChange Rows.xxhSumsSpec) :=
  OpenClaim.holds_of_wide 3 Try.f3 rfl rfl rfl rfl rfl rfl rfl ⟨rfl, rfl, rfl, rfl, rfl⟩ rfl rfl rfl rfl rfl (by kernel_rfl) Try.func3 (by kernel_rfl)
    (of_decide_eq_true (by kernel_rfl)) (by unfold Func.isWrapper; first | (rw [if_pos (by decide +kernel)]; kernel_rfl) | (rw [if_neg (by decide +kernel)]; exact ⟨rfl, rfl⟩))
    (fun os started H enc _ => lifted os started H enc)
end xxhSums
/-- THE STATEMENT -/
theorem xxhSums_holds : Rows.XxhSumsSaid :=
  xxhSums.over
#print axioms xxhSums_holds
end Go.Proofs.Ytlfcgldbgejfbaa

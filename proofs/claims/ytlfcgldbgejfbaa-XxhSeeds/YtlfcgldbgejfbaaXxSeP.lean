import Derived.Test.YtlfcgldbgejfbaaRows
import Derived.Test.YtlfcgldbgejfbaaXxW
import Derived.Test.YtlfcgldbgejfbaaXxX
namespace Go.Proofs.Ytlfcgldbgejfbaa
namespace xxhSeeds
open Go.ChangeShapes Go.WideShapes Go.ChangeAt Go.RowKit Go.Deep
set_option linter.unusedVariables false
theorem u64_of {n : Int} (h : (Lit.int .u64 n).wf = true) : ∃ o : BitVec 64, n = (o.toNat : Int) := by
  have hb : 0 ≤ n ∧ n < 18446744073709551616 := by
    simp [Lit.wf, IntKind.bits, IntKind.signed, IntKind.min, IntKind.max] at h
    omega
  exact ⟨BitVec.ofNat 64 n.toNat, by rw [BitVec.toNat_ofNat]; omega⟩
theorem low_of (o : BitVec 64) : ((o.setWidth 32).toNat : Int) = (o.toNat : Int) % 4294967296 := by
  rw [BitVec.toNat_setWidth]; omega
set_option maxHeartbeats 4000000 in
theorem walk (v : Value) (l : List By) (a : Option Addr) (cap : Nat) (hvf : v = .slice a l.length cap) (o t : BitVec 64) (w : World) (hv : Old w v l) :
    Calls Try.prog 8 #[v, .int .u64 o.toNat, .int .u64 t.toNat] w fun e w' => e = .returned (.bool true) ∧ Nw w w' := by
  have hlen := hv.length
  have HL : Hid (∀ V, Nw w V → Calls Try.prog 19 #[] V fun e w' => e = .returned (.bool true) ∧ Nw w w') := fun V hV => cbase hV (lives_any V)
  have Ho : Hid (∀ V, Nw w V → Calls Try.prog 9 #[.int .u32 ((o.toNat : Int) % 4294967296), v] V fun e w' => e = .returned (.int .u32 (s32 (o.setWidth 32) l).toNat) ∧ Nw w w') := fun V hV => sumf32_at w v l hv (o.setWidth 32) _ (low_of o).symm V hV
  have Ht : Hid (∀ V, Nw w V → Calls Try.prog 9 #[.int .u32 ((t.toNat : Int) % 4294967296), v] V fun e w' => e = .returned (.int .u32 (s32 (t.setWidth 32) l).toNat) ∧ Nw w w') := fun V hV => sumf32_at w v l hv (t.setWidth 32) _ (low_of t).symm V hV
  have Ko : Hid (∀ V, Nw w V → Calls Try.prog 10 #[.int .u64 o.toNat, v] V fun e w' => e = .returned (.int .u64 (s64 o l).toNat) ∧ Nw w w') := fun V hV => sumf64_at w v l hv o _ rfl V hV
  have Kt : Hid (∀ V, Nw w V → Calls Try.prog 10 #[.int .u64 t.toNat, v] V fun e w' => e = .returned (.int .u64 (s64 t l).toNat) ∧ Nw w w') := fun V hV => sumf64_at w v l hv t _ rfl V hV
  have hS : l.length < 16 → (((s32 (o.setWidth 32) l).toNat : Int) == ((s32 (t.setWidth 32) l).toNat : Int)) = (((o.toNat : Int) % 4294967296) == ((t.toNat : Int) % 4294967296)) := by
    intro hl
    rw [Bool.eq_iff_iff]
    simp only [beq_iff_eq]
    rw [← low_of, ← low_of]
    constructor
    · intro e
      rw [(seeds32 l hl (o.setWidth 32) (t.setWidth 32)).1 (BitVec.eq_of_toNat_eq (by omega))]
    · intro e
      rw [BitVec.eq_of_toNat_eq (show (o.setWidth 32).toNat = (t.setWidth 32).toNat by omega)]
  have hT : l.length < 32 → (((s64 o l).toNat : Int) == ((s64 t l).toNat : Int)) = ((o.toNat : Int) == (t.toNat : Int)) := by
    intro hl
    rw [Bool.eq_iff_iff]
    simp only [beq_iff_eq]
    constructor
    · intro e; rw [(seeds64 l hl o t).1 (BitVec.eq_of_toNat_eq (by omega))]
    · intro e; rw [BitVec.eq_of_toNat_eq (show o.toNat = t.toNat by omega)]
  subst hvf
  generalize s32 (o.setWidth 32) l = A1 at *
  generalize s32 (t.setWidth 32) l = A2 at *
  generalize s64 o l = B1 at *
  generalize s64 t l = B2 at *
  have hO := o.isLt
  have hTt := t.isLt
  clear hv
  generalize l.length = n at *
  by_cases h16 : n < 16
  · have hz1 : (n : Int) < 16 := by omega
    have hz2 : (n : Int) < 32 := by omega
    have e1 := hS h16
    have e2 := hT (by omega)
    clear hS hT
    go_enter Try.func8, Try.ntmps8
    go_wp2_with (first
      | (go_at_call 19; with_reducible refine (HL.out _ ?_).mono ?_; (first | assumption | exact Fr.refl _ _); rintro e w1 ⟨rfl, hN1⟩)
      | (go_at_call 9; with_reducible refine (Ho.out _ ?_).mono ?_; (first | assumption | exact Fr.refl _ _); rintro e w2 ⟨rfl, hN2⟩)
      | (go_at_call 9; with_reducible refine (Ht.out _ ?_).mono ?_; (first | assumption | exact Fr.refl _ _); rintro e w3 ⟨rfl, hN3⟩)
      | (go_at_call 10; with_reducible refine (Ko.out _ ?_).mono ?_; (first | assumption | exact Fr.refl _ _); rintro e w4 ⟨rfl, hN4⟩)
      | (go_at_call 10; with_reducible refine (Kt.out _ ?_).mono ?_; (first | assumption | exact Fr.refl _ _); rintro e w5 ⟨rfl, hN5⟩))
    go_ret
    exact ⟨by simp, by assumption⟩
  · have hz1 : ¬ (n : Int) < 16 := by omega
    clear hS
    by_cases h32 : n < 32
    · have hz2 : (n : Int) < 32 := by omega
      have e2 := hT (by omega)
      clear hT
      go_enter Try.func8, Try.ntmps8
      go_wp2_with (first
      | (go_at_call 19; with_reducible refine (HL.out _ ?_).mono ?_; (first | assumption | exact Fr.refl _ _); rintro e w1 ⟨rfl, hN1⟩)
      | (go_at_call 9; with_reducible refine (Ho.out _ ?_).mono ?_; (first | assumption | exact Fr.refl _ _); rintro e w2 ⟨rfl, hN2⟩)
      | (go_at_call 9; with_reducible refine (Ht.out _ ?_).mono ?_; (first | assumption | exact Fr.refl _ _); rintro e w3 ⟨rfl, hN3⟩)
      | (go_at_call 10; with_reducible refine (Ko.out _ ?_).mono ?_; (first | assumption | exact Fr.refl _ _); rintro e w4 ⟨rfl, hN4⟩)
      | (go_at_call 10; with_reducible refine (Kt.out _ ?_).mono ?_; (first | assumption | exact Fr.refl _ _); rintro e w5 ⟨rfl, hN5⟩))
      go_ret
      exact ⟨by simp, by assumption⟩
    · have hz2 : ¬ (n : Int) < 32 := by omega
      clear hT
      go_enter Try.func8, Try.ntmps8
      go_wp2_with (first
      | (go_at_call 19; with_reducible refine (HL.out _ ?_).mono ?_; (first | assumption | exact Fr.refl _ _); rintro e w1 ⟨rfl, hN1⟩)
      | (go_at_call 9; with_reducible refine (Ho.out _ ?_).mono ?_; (first | assumption | exact Fr.refl _ _); rintro e w2 ⟨rfl, hN2⟩)
      | (go_at_call 9; with_reducible refine (Ht.out _ ?_).mono ?_; (first | assumption | exact Fr.refl _ _); rintro e w3 ⟨rfl, hN3⟩)
      | (go_at_call 10; with_reducible refine (Ko.out _ ?_).mono ?_; (first | assumption | exact Fr.refl _ _); rintro e w4 ⟨rfl, hN4⟩)
      | (go_at_call 10; with_reducible refine (Kt.out _ ?_).mono ?_; (first | assumption | exact Fr.refl _ _); rintro e w5 ⟨rfl, hN5⟩))
      go_ret
      exact ⟨rfl, by assumption⟩

set_option maxRecDepth 100000 in
theorem lifted (os : Os) (started : os.Started) (H : Type) (enc : TypeId × Value → H) :
    ReturnsInHanded {} Try.checked os 8 .any (Rows.xxhSeedsSpec.pre6 enc Try.prog Try.f8 Rows.xxhSeedsRow.domain false) (Rows.xxhSeedsSpec.post enc Try.prog Try.f8 false true false false) := by
  refine returnsInHanded_of_change (C := Try.checked) own started (by kernel_rfl) Try.func8
    (ChangeSpec.witness6 (enc := enc) (C := Try.checked) false ⟨#[], #[.slice none 0 0, .int .u64 0, .int .u64 0], []⟩ 8 (by kernel_rfl) (by kernel_rfl) (by kernel_rfl) (by kernel_rfl)) ?_
  intro W base args ds gs before hval0 hW hcnd _
  have hval : ∀ (j : Nat) t v, Try.f8.params[j]? = some t → args[j]? = some v → Value.okWide Try.prog W .any base t v := hval0
  have hW' := hW
  obtain ⟨p, q, hA0, hV, rfl, hfz, hnd⟩ := hW
  have hA : DataW.TrodAll enc Try.prog W 0 (fun _ => true) true Try.f8.params.toList args.toList ds p := hA0
  rw [Try.params8] at hA hval
  obtain ⟨v0, vs0, d0, ds0, p0, q0, hargs, rfl, rfl, h0, r0⟩ := trodAll_cons hA
  obtain ⟨v1, vs1, d1, ds1, p1, q1, rfl, rfl, rfl, h1, r1⟩ := trodAll_cons r0
  obtain ⟨v2, vs2, d2, ds2, p2, q2, rfl, rfl, rfl, h2, r2⟩ := trodAll_cons r1
  obtain ⟨rfl, rfl, rfl⟩ := trodAll_nil r2
  obtain rfl : args = #[v0, v1, v2] := by cases args; simp_all
  obtain ⟨rfl, rfl⟩ := trodVars_none hV
  obtain ⟨a0, len0, cap0, rfl⟩ := okWide_slice Try.underlying24 (hval 0 24 v0 rfl rfl)
  obtain ⟨a1, rfl, rfl, rfl, w1⟩ := open_int Try.underlying23 (hval 1 23 v1 rfl rfl) h1
  obtain ⟨a2, rfl, rfl, rfl, w2⟩ := open_int Try.underlying23 (hval 2 23 v2 rfl rfl) h2
  have lt0 : ∀ x ∈ p0, x.block < W.heap.size := by obtain ⟨m, hm⟩ := h0; exact DataW.trod_lt m _ _ _ hm
  obtain ⟨l, hl, hll, _⟩ := openedB h0
  obtain ⟨o, rfl⟩ := u64_of w1
  obtain ⟨t, rfl⟩ := u64_of w2
  clear hA0 hval0
  refine (walk (.slice a0 len0 cap0) l a0 cap0 (by rw [hll]) o t W hl).mono fun e W' ⟨he, hN⟩ => ?_
  subst he
  have bel : Below W.heap.size W W' := Fr.below (Below.refl _ _) hN (Nat.le_refl _) (fun i h => h.elim)
  exact ⟨_, rfl, _, _, _, [], _, [], hW', trodAll_mk1 (shut_bool Try.underlying4 _), (trodAll_cons_mk (Below.trod laidOut (by kernel_rfl) (of_decide_eq_true (by kernel_rfl)) h0 bel lt0) (trodAll_cons_mk (shut_int Try.underlying23 w1) (trodAll_cons_mk (shut_int Try.underlying23 w2) trodAll_mk0))), rfl, bel.frame _, fun h => by cases h⟩

theorem over : Rows.xxhSeedsRow.holds Try.pinned (OpenSpec.ofChange Rows.xxhSeedsSpec) :=
  OpenClaim.holds_of_wide 8 Try.f8 rfl rfl rfl rfl rfl rfl rfl ⟨rfl, rfl, rfl, rfl, rfl⟩ rfl rfl rfl rfl rfl (by kernel_rfl) Try.func8 (by kernel_rfl)
    (of_decide_eq_true (by kernel_rfl)) (by unfold Func.isWrapper; first | (rw [if_pos (by decide +kernel)]; kernel_rfl) | (rw [if_neg (by decide +kernel)]; exact ⟨rfl, rfl⟩))
    (fun os started H enc _ => lifted os started H enc)
end xxhSeeds
/-- THE STATEMENT -/
theorem xxhSeeds_holds : Rows.XxhSeedsSaid :=
  xxhSeeds.over
#print axioms xxhSeeds_holds
end Go.Proofs.Ytlfcgldbgejfbaa

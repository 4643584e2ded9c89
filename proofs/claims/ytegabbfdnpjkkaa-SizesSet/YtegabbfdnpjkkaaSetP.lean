import Derived.Test.YtegabbfdnpjkkaaRows
import Derived.Test.YtegabbfdnpjkkaaSetC
import Derived.WalkKit
import Derived.ProofKit
import Derived.OpenShut
import Derived.ChangeOld
import Derived.Below
import Derived.Deep.SlicePairs
namespace Go.Proofs.Ytegabbfdnpjkkaa
namespace sizesSet
open Go.ChangeShapes Go.WideShapes Go.ChangeAt Go.RowKit Go.Deep
set_option linter.unusedVariables false

theorem own : ownKnob Try.prog.godebug = none := by kernel_rfl
theorem laidOut : laidOutB Try.prog = true := by kernel_rfl
theorem cells49 : Try.prog.cellsOf 49 = 2 := by kernel_rfl
theorem cells2 : Try.prog.cellsOf 2 = 1 := by kernel_rfl

theorem pick_all {α : Type} [Inhabited α] {m : Nat} {p : Nat → α → Prop} (h : ∀ i, i < m → ∃ x, p i x) : ∃ f : Nat → α, ∀ i, i < m → p i (f i) := by
  classical
  exact ⟨fun i => if hi : i < m then Classical.choose (h i hi) else default, fun i hi => by simp only [dif_pos hi]; exact Classical.choose_spec (h i hi)⟩

theorem le_of_wf {x : Int} (h : (Lit.int .i64 x).wf = true) : x ≤ 9223372036854775807 := (bounds_i64 h).2

/-- A range of two cells, read. -/
theorem range_read {H : Type} {enc : TypeId × Value → H} {W : World} {n : Nat} {v0 v1 : Value} {y : DataW H × List MemPlace} (h : DataW.trod enc Try.prog W 0 (fun _ => true) true n 49 [v0, v1] = some y) :
    ∃ p q : Int, v0 = .int .i64 p ∧ v1 = .int .i64 q ∧ q ≤ 9223372036854775807 := by
  obtain ⟨y0, y1, k, _, _, g0, g1⟩ := trod_struct2 Try.underlying49 h
  simp [cells2] at g0 g1
  obtain ⟨p, e0, _⟩ := DataW.trod_int Try.underlying2 g0
  obtain ⟨q, e1, _, hw⟩ := DataW.trod_int Try.underlying2 g1
  exact ⟨p, q, by simpa using e0, by simpa using e1, le_of_wf hw⟩

theorem opened {H : Type} {enc : TypeId × Value → H} {W : World} {a : Option Addr} {len cap : Nat} {d : DataW H} {p : List MemPlace} (h : DataW.Trod enc Try.prog W 0 (fun _ => true) true 45 (.slice a len cap) d p) :
    ∃ Ls : Nat → Rg, IsRgs W a len Ls := by
  obtain ⟨fuel, hf⟩ := h
  rcases open_slice_pairs Try.underlying45 Try.underlying49 cells49 rfl rfl cells2 cells2 hf with ⟨hcs, _⟩ | ⟨x, l, c, m, n, V0, V1, D0, D1, P0, P1, hcs, _, hl, hm, hmm, _, hx⟩
  · simp [Value.cells] at hcs
    obtain ⟨rfl, rfl, rfl⟩ := hcs
    exact ⟨fun _ => (0, 0), Nat.zero_le _, fun i hi => by omega⟩
  · simp [Value.cells] at hcs
    obtain ⟨rfl, rfl, rfl⟩ := hcs
    by_cases h0 : len = 0
    · subst h0
      exact ⟨fun _ => (0, 0), Nat.zero_le _, fun i hi => by omega⟩
    have hlm : len ≤ m := by rw [hmm]; simp; omega
    obtain ⟨b, off, spot⟩ := x
    have hspot : spot = none := by simpa [Addr.add] using World.cell?_spot (hx 0 (by omega)).1
    subst hspot
    obtain ⟨N0, hN0⟩ := pick_all (m := m) (p := fun i (x : Int) => V0 i = .int .i64 x) fun i hi => by
      obtain ⟨_, _, t0, _⟩ := hx i hi
      obtain ⟨x, e, _⟩ := DataW.trod_int Try.underlying2 t0
      exact ⟨x, by simpa using e⟩
    obtain ⟨N1, hN1⟩ := pick_all (m := m) (p := fun i (x : Int) => V1 i = .int .i64 x ∧ (Lit.int .i64 x).wf = true) fun i hi => by
      obtain ⟨_, _, _, t1⟩ := hx i hi
      obtain ⟨x, e, _, hw⟩ := DataW.trod_int Try.underlying2 t1
      exact ⟨x, by simpa using e, hw⟩
    refine ⟨fun i => (N0 i, N1 i), by omega, fun i hi => ⟨⟨b, off, rfl, ?_, ?_⟩, le_of_wf (hN1 i (by omega)).2⟩⟩
    · have := (hx i (by omega)).1
      rw [hN0 i (by omega), add_plain] at this
      exact this
    · have := (hx i (by omega)).2.1
      rw [(hN1 i (by omega)).1, add_plain] at this
      exact this

theorem two_of (cs : Array Value) (h : cs.size = 2) : ∃ c0 c1, cs = #[c0, c1] := by
  obtain ⟨l⟩ := cs
  match l, h with
  | [c0, c1], _ => exact ⟨c0, c1, rfl⟩
theorem opened49 {H : Type} {enc : TypeId × Value → H} {W : World} {cs : Array Value} {d : DataW H} {p : List MemPlace} (hcs : cs.size = 2) (h : DataW.Trod enc Try.prog W 0 (fun _ => true) true 49 (.agg cs) d p) :
    ∃ x : Rg, x.2 ≤ 9223372036854775807 ∧ cs = #[.int .i64 x.1, .int .i64 x.2] := by
  obtain ⟨c0, c1, rfl⟩ := two_of cs hcs
  obtain ⟨fuel, hf⟩ := h
  have hf' : DataW.trod enc Try.prog W 0 (fun _ => true) true fuel 49 [c0, c1] = some (d, p) := hf
  obtain ⟨pp, qq, rfl, rfl, hq⟩ := range_read hf'
  exact ⟨(pp, qq), hq, rfl⟩

set_option maxHeartbeats 1000000 in
set_option maxRecDepth 100000 in
theorem lifted (os : Os) (started : os.Started) (H : Type) (enc : TypeId × Value → H) :
    ReturnsInHanded {} Try.checked os 7 .any (Rows.sizesSetSpec.pre6 enc Try.prog Try.f7 Rows.sizesSetRow.domain false) (Rows.sizesSetSpec.post enc Try.prog Try.f7 false true false false) := by
  refine returnsInHanded_of_change (C := Try.checked) own started (by kernel_rfl) Try.func7
    (ChangeSpec.witness6 (enc := enc) (C := Try.checked) false ⟨#[], #[.slice none 0 0, .slice none 0 0, .agg #[.int .i64 0, .int .i64 0]], []⟩ 8 (by kernel_rfl) (by kernel_rfl) (by kernel_rfl) (by kernel_rfl)) ?_
  intro W base args ds gs before hval0 hW hcnd _
  have hval : ∀ (j : Nat) t v, Try.f7.params[j]? = some t → args[j]? = some v → Value.okWide Try.prog W .any base t v := hval0
  have hW' := hW
  obtain ⟨p, q, hA0, hV, rfl, hfz, hnd⟩ := hW
  have hA : DataW.TrodAll enc Try.prog W 0 (fun _ => true) true Try.f7.params.toList args.toList ds p := hA0
  rw [Try.params7] at hA hval
  obtain ⟨v0, vs0, d0, ds0, p0, q0, hargs, rfl, rfl, h0, r0⟩ := trodAll_cons hA
  obtain ⟨v1, vs1, d1, ds1, p1, q1, rfl, rfl, rfl, h1, r1⟩ := trodAll_cons r0
  obtain ⟨v2, vs2, d2, ds2, p2, q2, rfl, rfl, rfl, h2, r2⟩ := trodAll_cons r1
  obtain ⟨rfl, rfl, rfl⟩ := trodAll_nil r2
  obtain rfl : args = #[v0, v1, v2] := by cases args; simp_all
  obtain ⟨rfl, rfl⟩ := trodVars_none hV
  obtain ⟨a0, len0, cap0, rfl⟩ := okWide_slice Try.underlying45 (hval 0 45 v0 rfl rfl)
  obtain ⟨a1, len1, cap1, rfl⟩ := okWide_slice Try.underlying45 (hval 1 45 v1 rfl rfl)
  obtain ⟨cs, rfl, hcs⟩ := okWide_struct Try.underlying49 (hval 2 49 v2 rfl rfl)
  have lt0 : ∀ x ∈ p0, x.block < W.heap.size := by obtain ⟨m, hm⟩ := h0; exact DataW.trod_lt m _ _ _ hm
  have lt1 : ∀ x ∈ p1, x.block < W.heap.size := by obtain ⟨m, hm⟩ := h1; exact DataW.trod_lt m _ _ _ hm
  have lt2 : ∀ x ∈ p2, x.block < W.heap.size := by obtain ⟨m, hm⟩ := h2; exact DataW.trod_lt m _ _ _ hm
  obtain ⟨Ls, hP0⟩ := opened h0
  obtain ⟨Os, hP1⟩ := opened h1
  rw [cells49] at hcs
  obtain ⟨x, hx, rfl⟩ := opened49 hcs h2
  clear hA0 hval0
  refine (set_all a0 a1 len0 cap0 len1 cap1 Ls Os x W hP0 hP1 hx).mono fun e W' ⟨he, bel⟩ => ?_
  subst he
  exact ⟨_, rfl, _, _, _, [], _, [], hW', trodAll_mk1 (shut_bool Try.underlying4 _), (trodAll_cons_mk (Below.trod laidOut (by kernel_rfl) (of_decide_eq_true (by kernel_rfl)) h0 bel lt0) (trodAll_cons_mk (Below.trod laidOut (by kernel_rfl) (of_decide_eq_true (by kernel_rfl)) h1 bel lt1) (trodAll_cons_mk (Below.trod laidOut (by kernel_rfl) (of_decide_eq_true (by kernel_rfl)) h2 bel lt2) trodAll_mk0))), rfl, bel.frame _, fun h => by cases h⟩

theorem over : Rows.sizesSetRow.holds Try.pinned (OpenSpec.ofChange Rows.sizesSetSpec) :=
  OpenClaim.holds_of_wide 7 Try.f7 rfl rfl rfl rfl rfl rfl rfl ⟨rfl, rfl, rfl, rfl, rfl⟩ rfl rfl rfl rfl rfl (by kernel_rfl) Try.func7 (by kernel_rfl)
    (of_decide_eq_true (by kernel_rfl)) (by unfold Func.isWrapper; first | (rw [if_pos (by decide +kernel)]; kernel_rfl) | (rw [if_neg (by decide +kernel)]; exact ⟨rfl, rfl⟩))
    (fun os started H enc _ => lifted os started H enc)
end sizesSet
/-- THE STATEMENT -/
theorem sizesSet_holds : Rows.SizesSetSaid :=
  sizesSet.over
#print axioms sizesSet_holds
end Go.Proofs.Ytegabbfdnpjkkaa

import Derived.Test.YtegabbfdnpjkkaaRows
import Derived.Test.YtegabbfdnpjkkaaRbR
import Derived.WalkKit
import Derived.ProofKit
import Derived.OpenShut
import Derived.ChangeOld
import Derived.Below
import Derived.Deep.SlicePairs
namespace Go.Proofs.Ytegabbfdnpjkkaa
namespace sizesRanges
open Go.ChangeShapes Go.WideShapes Go.ChangeAt Go.RowKit Go.Deep
set_option linter.unusedVariables false

theorem own : ownKnob Try.prog.godebug = none := by kernel_rfl
theorem laidOut : laidOutB Try.prog = true := by kernel_rfl
theorem cells51 : Try.prog.cellsOf 51 = 5 := by kernel_rfl
theorem cells49 : Try.prog.cellsOf 49 = 2 := by kernel_rfl
theorem cells4 : Try.prog.cellsOf 4 = 1 := by kernel_rfl
theorem cells2 : Try.prog.cellsOf 2 = 1 := by kernel_rfl

theorem pick_all {α : Type} [Inhabited α] {m : Nat} {p : Nat → α → Prop} (h : ∀ i, i < m → ∃ x, p i x) : ∃ f : Nat → α, ∀ i, i < m → p i (f i) := by
  classical
  exact ⟨fun i => if hi : i < m then Classical.choose (h i hi) else default, fun i hi => by simp only [dif_pos hi]; exact Classical.choose_spec (h i hi)⟩

theorem le_of_wf {x : Int} (h : (Lit.int .i64 x).wf = true) : x ≤ 9223372036854775807 := (bounds_i64 h).2

/-- A range of two cells, read. -/
theorem range_read {H : Type} {enc : TypeId × Value → H} {W : World} {n : Nat} {v0 v1 : Value} {y : DataW H × List MemPlace} (h : DataW.trod enc Try.prog W 0 (fun _ => true) true n 49 [v0, v1] = some y) :
    ∃ p q : Int, v0 = .int .i64 p ∧ v1 = .int .i64 q ∧ q ≤ 9223372036854775807 := by
  obtain ⟨y0, y1, k, _, _, g0, g1⟩ := trod_struct2 Try.underlying49 h
  simp [cells2] at g0 g1
  obtain ⟨p, e0, _⟩ := DataW.trod_int Try.underlying2 g0
  obtain ⟨q, e1, _, hw⟩ := DataW.trod_int Try.underlying2 g1
  exact ⟨p, q, by simpa using e0, by simpa using e1, le_of_wf hw⟩

theorem opened {H : Type} {enc : TypeId × Value → H} {W : World} {a : Option Addr} {len cap : Nat} {d : DataW H} {p : List MemPlace} (h : DataW.Trod enc Try.prog W 0 (fun _ => true) true 43 (.slice a len cap) d p) :
    ∃ (Ck : Nat → Bool) (Xs Ys : Nat → Rg), IsActs W a len Ck Xs Ys := by
  obtain ⟨fuel, hf⟩ := h
  rcases open_slice Try.underlying43 hf with ⟨hcs, _⟩ | ⟨x, l, c, m, n, D, Pl, hcs, _, hl, hm, hmm, _, hx⟩
  · simp [Value.cells] at hcs
    obtain ⟨rfl, rfl, rfl⟩ := hcs
    exact ⟨fun _ => false, fun _ => (0, 0), fun _ => (0, 0), .inl rfl⟩
  · simp [Value.cells] at hcs
    obtain ⟨rfl, rfl, rfl⟩ := hcs
    by_cases h0 : len = 0
    · exact ⟨fun _ => false, fun _ => (0, 0), fun _ => (0, 0), .inl h0⟩
    have hlm : len ≤ m := by rw [hmm]; simp; omega
    have each : ∀ i, i < m → ∃ z : Bool × Rg × Rg, W.cell? (x.add (i * 5)) = some (.bool z.1) ∧ W.cell? (x.add (i * 5 + 1)) = some (.int .i64 z.2.1.1) ∧ W.cell? (x.add (i * 5 + 2)) = some (.int .i64 z.2.1.2) ∧
        W.cell? (x.add (i * 5 + 3)) = some (.int .i64 z.2.2.1) ∧ W.cell? (x.add (i * 5 + 4)) = some (.int .i64 z.2.2.2) ∧ z.2.1.2 ≤ 9223372036854775807 ∧ z.2.2.2 ≤ 9223372036854775807 := by
      intro i hi
      obtain ⟨cs', h1, h2⟩ := hx i hi
      rw [cells51] at h1
      obtain ⟨_, hlen, hcell⟩ := World.cells?_some h1
      obtain ⟨xs, k, hk, hxy, _, hxl, hff⟩ := DataW.trod_struct Try.underlying51 h2
      match xs, hxl, cs', hlen with
      | [y0, y1, y2], _, [v0, v1, v2, v3, v4], _ =>
        have g0 := hff 0 _ rfl
        have g1 := hff 1 _ rfl
        have g2 := hff 2 _ rfl
        simp [cells4, cells49] at g0 g1 g2
        obtain ⟨b, eb, _⟩ := DataW.trod_bool Try.underlying4 g0
        obtain ⟨p1, q1, rfl, rfl, hq1⟩ := range_read g1
        obtain ⟨p2, q2, rfl, rfl, hq2⟩ := range_read g2
        obtain rfl : v0 = .bool b := by simpa using eb
        have e0 := hcell 0 (by omega)
        have e1 := hcell 1 (by omega)
        have e2 := hcell 2 (by omega)
        have e3 := hcell 3 (by omega)
        have e4 := hcell 4 (by omega)
        rw [add_add] at e0 e1 e2 e3 e4
        exact ⟨(b, (p1, q1), (p2, q2)), by simpa using e0, by simpa using e1, by simpa using e2, by simpa using e3, by simpa using e4, hq1, hq2⟩
    obtain ⟨Z, hZ⟩ := pick_all each
    obtain ⟨b, off, spot⟩ := x
    have hc := (hZ 0 (by omega)).1
    have hspot : spot = none := by simpa [Addr.add] using World.cell?_spot hc
    subst hspot
    have hb : b < W.heap.size := by have := World.block_lt_of_cell? _ _ hc; simpa [Addr.add] using this
    refine ⟨fun i => (Z i).1, fun i => (Z i).2.1, fun i => (Z i).2.2, .inr ⟨b, off, rfl, hb, by omega, fun i hi => ?_, fun i hi => ?_, fun i hi => ?_, fun i hi => ?_, fun i hi => ?_, fun i hi => (hZ i (by omega)).2.2.2.2.2.1, fun i hi => (hZ i (by omega)).2.2.2.2.2.2⟩⟩
    · have := (hZ i (by omega)).1; rw [add_plain] at this; exact this
    · have := (hZ i (by omega)).2.1; rw [add_plain] at this; exact this
    · have := (hZ i (by omega)).2.2.1; rw [add_plain] at this; exact this
    · have := (hZ i (by omega)).2.2.2.1; rw [add_plain] at this; exact this
    · have := (hZ i (by omega)).2.2.2.2.1; rw [add_plain] at this; exact this

set_option maxRecDepth 100000 in
theorem lifted (os : Os) (started : os.Started) (H : Type) (enc : TypeId × Value → H) :
    ReturnsInHanded {} Try.checked os 6 .any (Rows.sizesRangesSpec.pre6 enc Try.prog Try.f6 Rows.sizesRangesRow.domain false) (Rows.sizesRangesSpec.post enc Try.prog Try.f6 false true false false) := by
  refine returnsInHanded_of_change (C := Try.checked) own started (by kernel_rfl) Try.func6
    (ChangeSpec.witness6 (enc := enc) (C := Try.checked) false ⟨#[], #[.slice none 0 0], []⟩ 8 (by kernel_rfl) (by kernel_rfl) (by kernel_rfl) (by kernel_rfl)) ?_
  intro W base args ds gs before hval0 hW hcnd _
  have hval : ∀ (j : Nat) t v, Try.f6.params[j]? = some t → args[j]? = some v → Value.okWide Try.prog W .any base t v := hval0
  have hW' := hW
  obtain ⟨p, q, hA0, hV, rfl, hfz, hnd⟩ := hW
  have hA : DataW.TrodAll enc Try.prog W 0 (fun _ => true) true Try.f6.params.toList args.toList ds p := hA0
  rw [Try.params6] at hA hval
  obtain ⟨v1, vs1, d1, ds1, p1, q1, hargs, rfl, rfl, h1, r1⟩ := trodAll_cons hA
  obtain ⟨rfl, rfl, rfl⟩ := trodAll_nil r1
  obtain rfl : args = #[v1] := by cases args; simp_all
  obtain ⟨rfl, rfl⟩ := trodVars_none hV
  obtain ⟨a1, len1, cap1, rfl⟩ := okWide_slice Try.underlying43 (hval 0 43 v1 rfl rfl)
  have lt1 : ∀ x ∈ p1, x.block < W.heap.size := by obtain ⟨m, hm⟩ := h1; exact DataW.trod_lt m _ _ _ hm
  obtain ⟨Ck, Xs, Ys, hP⟩ := opened h1
  clear hA0 hval0
  refine (ran_all a1 len1 cap1 Ck Xs Ys W hP).mono fun e W' ⟨he, bel⟩ => ?_
  subst he
  exact ⟨_, rfl, _, _, _, [], _, [], hW', trodAll_mk1 (shut_bool Try.underlying4 _), (trodAll_cons_mk (Below.trod laidOut (by kernel_rfl) (of_decide_eq_true (by kernel_rfl)) h1 bel lt1) trodAll_mk0), rfl, bel.frame _, fun h => by cases h⟩

theorem over : Rows.sizesRangesRow.holds Try.pinned (OpenSpec.ofChange Rows.sizesRangesSpec) :=
  OpenClaim.holds_of_wide 6 Try.f6 rfl rfl rfl rfl rfl rfl rfl ⟨rfl, rfl, rfl, rfl, rfl⟩ rfl rfl rfl rfl rfl (by kernel_rfl) Try.func6 (by kernel_rfl)
    (of_decide_eq_true (by kernel_rfl)) (by unfold Func.isWrapper; first | (rw [if_pos (by decide +kernel)]; kernel_rfl) | (rw [if_neg (by decide +kernel)]; exact ⟨rfl, rfl⟩))
    (fun os started H enc _ => lifted os started H enc)
end sizesRanges
/-- THE STATEMENT -/
theorem sizesRanges_holds : Rows.SizesRangesSaid :=
  sizesRanges.over
#print axioms sizesRanges_holds
end Go.Proofs.Ytegabbfdnpjkkaa

import Derived.Test.YtegabbfdnpjkkaaRows
import Derived.Test.YtegabbfdnpjkkaaManB
import Derived.WalkKit
import Derived.ProofKit
import Derived.OpenShut
import Derived.ChangeOld
import Derived.Below
import Derived.Deep.SlicePairs
namespace Go.Proofs.Ytegabbfdnpjkkaa
namespace sizesMany
open Go.ChangeShapes Go.WideShapes Go.ChangeAt Go.RowKit Go.Deep
set_option linter.unusedVariables false

theorem own : ownKnob Try.prog.godebug = none := by kernel_rfl
theorem laidOut : laidOutB Try.prog = true := by kernel_rfl
theorem cells41 : Try.prog.cellsOf 41 = 2 := by kernel_rfl
theorem cells5 : Try.prog.cellsOf 5 = 1 := by kernel_rfl
theorem cells2 : Try.prog.cellsOf 2 = 1 := by kernel_rfl

theorem pick_all {α : Type} [Inhabited α] {m : Nat} {p : Nat → α → Prop} (h : ∀ i, i < m → ∃ x, p i x) : ∃ f : Nat → α, ∀ i, i < m → p i (f i) := by
  classical
  exact ⟨fun i => if hi : i < m then Classical.choose (h i hi) else default, fun i hi => by simp only [dif_pos hi]; exact Classical.choose_spec (h i hi)⟩

theorem opened {H : Type} {enc : TypeId × Value → H} {W : World} {a : Option Addr} {len cap : Nat} {d : DataW H} {p : List MemPlace} (h : DataW.Trod enc Try.prog W 0 (fun _ => true) true 38 (.slice a len cap) d p) :
    ∃ (Wh : Nat → Nat) (Nn : Nat → Int), IsPairs W a len (fun i => .int .u8 (Wh i)) Nn ∧ ∀ i, i < len → Wh i < 256 := by
  obtain ⟨fuel, hf⟩ := h
  rcases open_slice_pairs Try.underlying38 Try.underlying41 cells41 rfl rfl cells5 cells2 hf with ⟨hcs, _⟩ | ⟨x, l, c, m, n, V0, V1, D0, D1, P0, P1, hcs, _, hl, hm, hmm, _, hx⟩
  · simp [Value.cells] at hcs
    obtain ⟨rfl, rfl, rfl⟩ := hcs
    exact ⟨fun _ => 0, fun _ => 0, .inl rfl, fun i hi => by omega⟩
  · simp [Value.cells] at hcs
    obtain ⟨rfl, rfl, rfl⟩ := hcs
    by_cases h0 : len = 0
    · exact ⟨fun _ => 0, fun _ => 0, .inl h0, fun i hi => by omega⟩
    have hlm : len ≤ m := by rw [hmm]; simp; omega
    obtain ⟨b, off, spot⟩ := x
    have hc := (hx 0 (by omega)).1
    have hspot : spot = none := by simpa [Addr.add] using World.cell?_spot hc
    subst hspot
    have hb : b < W.heap.size := by have := World.block_lt_of_cell? _ _ hc; simpa [Addr.add] using this
    obtain ⟨Bk, hBk⟩ := pick_all (m := m) (p := fun i (x : Nat) => V0 i = .int .u8 (x : Int) ∧ x < 256) fun i hi => by
      obtain ⟨_, _, t0, _⟩ := hx i hi
      obtain ⟨x, e, _, hw⟩ := DataW.trod_int Try.underlying5 t0
      obtain ⟨y0, y1⟩ := bounds_u8 hw
      obtain ⟨t, rfl⟩ := Int.eq_ofNat_of_zero_le y0
      exact ⟨t, by simpa using e, by omega⟩
    obtain ⟨Nn, hNn⟩ := pick_all (m := m) (p := fun i (x : Int) => V1 i = .int .i64 x ∧ (Lit.int .i64 x).wf = true) fun i hi => by
      obtain ⟨_, _, _, t1⟩ := hx i hi
      obtain ⟨x, e, _, hw⟩ := DataW.trod_int Try.underlying2 t1
      exact ⟨x, by simpa using e, hw⟩
    refine ⟨Bk, Nn, .inr ⟨b, off, rfl, hb, by omega, fun i hi => ?_, fun i hi => ?_, fun i hi => (hNn i (by omega)).2⟩, fun i hi => (hBk i (by omega)).2⟩
    · have := (hx i (by omega)).1
      rw [(hBk i (by omega)).1] at this
      rw [add_plain] at this
      exact this
    · have := (hx i (by omega)).2.1
      rw [(hNn i (by omega)).1] at this
      rw [add_plain] at this
      exact this

set_option maxRecDepth 100000 in
theorem lifted (os : Os) (started : os.Started) (H : Type) (enc : TypeId × Value → H) :
    ReturnsInHanded {} Try.checked os 5 .any (Rows.sizesManySpec.pre6 enc Try.prog Try.f5 Rows.sizesManyRow.domain false) (Rows.sizesManySpec.post enc Try.prog Try.f5 false true false false) := by
  refine returnsInHanded_of_change (C := Try.checked) own started (by kernel_rfl) Try.func5
    (ChangeSpec.witness6 (enc := enc) (C := Try.checked) false ⟨#[], #[.int .i64 0, .slice none 0 0], []⟩ 8 (by kernel_rfl) (by kernel_rfl) (by kernel_rfl) (by kernel_rfl)) ?_
  intro W base args ds gs before hval0 hW hcnd _
  have hval : ∀ (j : Nat) t v, Try.f5.params[j]? = some t → args[j]? = some v → Value.okWide Try.prog W .any base t v := hval0
  have hW' := hW
  obtain ⟨p, q, hA0, hV, rfl, hfz, hnd⟩ := hW
  have hA : DataW.TrodAll enc Try.prog W 0 (fun _ => true) true Try.f5.params.toList args.toList ds p := hA0
  rw [Try.params5] at hA hval
  obtain ⟨v0, vs0, d0, ds0, p0, q0, hargs, rfl, rfl, h0, r0⟩ := trodAll_cons hA
  obtain ⟨v1, vs1, d1, ds1, p1, q1, rfl, rfl, rfl, h1, r1⟩ := trodAll_cons r0
  obtain ⟨rfl, rfl, rfl⟩ := trodAll_nil r1
  obtain rfl : args = #[v0, v1] := by cases args; simp_all
  obtain ⟨rfl, rfl⟩ := trodVars_none hV
  obtain ⟨a0, rfl, rfl, rfl, w0⟩ := open_int Try.underlying2 (hval 0 2 v0 rfl rfl) h0
  obtain ⟨a1, len1, cap1, rfl⟩ := okWide_slice Try.underlying38 (hval 1 38 v1 rfl rfl)
  have lt1 : ∀ x ∈ p1, x.block < W.heap.size := by obtain ⟨m, hm⟩ := h1; exact DataW.trod_lt m _ _ _ hm
  obtain ⟨Bk, Nn, hP, hBk⟩ := opened h1
  clear hA0 hval0
  refine (man_all a0 a1 len1 cap1 Bk Nn W (bounds_i64 w0).2 hP hBk).mono fun e W' ⟨he, bel⟩ => ?_
  subst he
  exact ⟨_, rfl, _, _, _, [], _, [], hW', trodAll_mk1 (shut_bool Try.underlying4 _), (trodAll_cons_mk (shut_int Try.underlying2 w0) (trodAll_cons_mk (Below.trod laidOut (by kernel_rfl) (of_decide_eq_true (by kernel_rfl)) h1 bel lt1) trodAll_mk0)), rfl, bel.frame _, fun h => by cases h⟩

theorem over : Rows.sizesManyRow.holds Try.pinned (OpenSpec.ofChange Rows.sizesManySpec) :=
  OpenClaim.holds_of_wide 5 Try.f5 rfl rfl rfl rfl rfl rfl rfl ⟨rfl, rfl, rfl, rfl, rfl⟩ rfl rfl rfl rfl rfl (by kernel_rfl) Try.func5 (by kernel_rfl)
    (of_decide_eq_true (by kernel_rfl)) (by unfold Func.isWrapper; first | (rw [if_pos (by decide +kernel)]; kernel_rfl) | (rw [if_neg (by decide +kernel)]; exact ⟨rfl, rfl⟩))
    (fun os started H enc _ => lifted os started H enc)
end sizesMany
/-- THE STATEMENT -/
theorem sizesMany_holds : Rows.SizesManySaid :=
  sizesMany.over
#print axioms sizesMany_holds
end Go.Proofs.Ytegabbfdnpjkkaa

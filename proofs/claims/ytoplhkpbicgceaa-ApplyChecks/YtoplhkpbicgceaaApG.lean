import Derived.Test.YtoplhkpbicgceaaApF
import Derived.Test.YtoplhkpbicgceaaLzOp
import Derived.Test.YtoplhkpbicgceaaRows
namespace Go.Proofs.Ytoplhkpbicgceaa
open Go.ChangeShapes Go.WideShapes Go.ChangeAt Go.RowKit Go.Deep
set_option linter.unusedVariables false
set_option maxRecDepth 100000
theorem cells2t : Try.prog.cellsOf 2 = 1 := by kernel_rfl
theorem cells3t : Try.prog.cellsOf 3 = 1 := by kernel_rfl
theorem cells4t : Try.prog.cellsOf 4 = 1 := by kernel_rfl
theorem cells5t : Try.prog.cellsOf 5 = 1 := by kernel_rfl
theorem cells9t : Try.prog.cellsOf 9 = 1 := by kernel_rfl
theorem cells21t : Try.prog.cellsOf 21 = 1 := by kernel_rfl
theorem cells32t : Try.prog.cellsOf 22 = 1 := by kernel_rfl
theorem cellsByt : Try.prog.cellsOf 27 = 1 := by kernel_rfl
theorem cellsMtt : Try.prog.cellsOf 24 = 5 := by kernel_rfl
theorem cellsEnt : Try.prog.cellsOf 26 = 12 := by kernel_rfl
theorem cellsPot : Try.prog.cellsOf 29 = 4 := by kernel_rfl
theorem cellsStt : Try.prog.cellsOf 31 = 17 := by kernel_rfl
section
variable {H : Type} {enc : TypeId × Value → H} {W : World} {α : Type}
theorem eightT {β : Type} (xs : List β) (h : xs.length = 8) : ∃ a b c d e f g i, xs = [a, b, c, d, e, f, g, i] := by
  match xs, h with
  | [a, b, c, d, e, f, g, i], _ => exact ⟨a, b, c, d, e, f, g, i, rfl⟩
theorem fiveT {β : Type} (xs : List β) (h : xs.length = 5) : ∃ a b c d e, xs = [a, b, c, d, e] := by
  match xs, h with
  | [a, b, c, d, e], _ => exact ⟨a, b, c, d, e, rfl⟩
theorem fourT {β : Type} (xs : List β) (h : xs.length = 4) : ∃ a b c d, xs = [a, b, c, d] := by
  match xs, h with
  | [a, b, c, d], _ => exact ⟨a, b, c, d, rfl⟩
theorem threeT {β : Type} (xs : List β) (h : xs.length = 3) : ∃ a b c, xs = [a, b, c] := by
  match xs, h with
  | [a, b, c], _ => exact ⟨a, b, c, rfl⟩
theorem twelveT {β : Type} (xs : List β) (h : xs.length = 12) : ∃ a b c d e f g i j k l m, xs = [a, b, c, d, e, f, g, i, j, k, l, m] := by
  match xs, h with
  | [a, b, c, d, e, f, g, i, j, k, l, m], _ => exact ⟨a, b, c, d, e, f, g, i, j, k, l, m, rfl⟩
theorem seventeenT {β : Type} (xs : List β) (h : xs.length = 17) : ∃ (ys zs : List β) (z : β), xs = ys ++ z :: zs ∧ ys.length = 12 ∧ zs.length = 4 := by
  refine ⟨xs.take 12, xs.drop 13, xs[12]'(by omega), ?_, by simp; omega, by simp; omega⟩
  apply List.ext_getElem?
  intro i
  by_cases h1 : i < 12
  · rw [List.getElem?_append_left (by simp; omega)]; simp [h1]
  · rw [List.getElem?_append_right (by simp; omega)]
    have e : (xs.take 12).length = 12 := by simp; omega
    rw [e]
    by_cases h2 : i = 12
    · subst h2; simp
    · obtain ⟨j, rfl⟩ : ∃ j, i = 13 + j := ⟨i - 13, by omega⟩
      have : 13 + j - 12 = j + 1 := by omega
      rw [this]
      simp only [List.getElem?_cons_succ, List.getElem?_drop]
/-- An entry that came in. -/
theorem entryT {n : Nat} {cs : List Value} {D : DataW H} {Pl : List MemPlace} (hl : cs.length = 12) (h : DataW.trod enc Try.prog W 0 (fun _ => true) true n 26 cs = some (D, Pl)) (hsz : ∀ z ∈ D.weights Try.prog 26, z ≤ 140737488351232) : ∃ x : Ae, cs = x.C.toList ∧ x.nm.length ≤ 140737488351232 ∧ x.lk.length ≤ 140737488351232 := by
  obtain ⟨xs, k, hk, hxy, _, hxl, hf⟩ := DataW.trod_struct Try.underlying26 h
  obtain ⟨u0, u1, u2, u3, u4, u5, u6, u7, u8, u9, u10, u11, rfl⟩ := twelveT cs hl
  obtain ⟨y0, y1, y2, y3, y4, y5, y6, y7, rfl⟩ := eightT xs hxl
  have g0 := hf 0 _ rfl
  have g1 := hf 1 _ rfl
  have g2 := hf 2 _ rfl
  have g3 := hf 3 _ rfl
  have g4 := hf 4 _ rfl
  have g5 := hf 5 _ rfl
  have g6 := hf 6 _ rfl
  have g7 := hf 7 _ rfl
  simp [cells9t, cells2t, cells3t, cells5t, cellsMtt] at g0 g1 g2 g3 g4 g5 g6 g7
  obtain ⟨xs2, k2, hk2, hxy2, _, hxl2, hf2⟩ := DataW.trod_struct Try.underlying24 g2
  obtain ⟨m0, m1, m2, m3, m4, rfl⟩ := fiveT xs2 hxl2
  have w0 := hf2 0 _ rfl
  have w1 := hf2 1 _ rfl
  have w2 := hf2 2 _ rfl
  have w3 := hf2 3 _ rfl
  have w4 := hf2 4 _ rfl
  simp [cells32t, cells2t, cells21t] at w0 w1 w2 w3 w4
  obtain ⟨s0, e0, x0, _⟩ := DataW.trod_string Try.underlying9 g0
  obtain ⟨z1, e1, _, b1⟩ := DataW.trod_int Try.underlying3 g1
  obtain ⟨z2, e2, _, _⟩ := DataW.trod_int Try.underlying22 w0
  obtain ⟨z3, e3, _, _⟩ := DataW.trod_int Try.underlying22 w1
  obtain ⟨z4, e4, _, _⟩ := DataW.trod_int Try.underlying22 w2
  obtain ⟨z5, e5, _, _⟩ := DataW.trod_int Try.underlying2 w3
  obtain ⟨z6, e6, _, _⟩ := DataW.trod_int Try.underlying21 w4
  obtain ⟨s7, e7, x7, _⟩ := DataW.trod_string Try.underlying9 g3
  obtain ⟨s8, e8, x8, _⟩ := DataW.trod_string Try.underlying9 g4
  obtain ⟨s9, e9, x9, _⟩ := DataW.trod_string Try.underlying9 g5
  obtain ⟨z10, e10, _, b10⟩ := DataW.trod_int Try.underlying2 g6
  obtain ⟨z11, e11, _, _⟩ := DataW.trod_int Try.underlying5 g7
  obtain rfl : u0 = .string s0 := by simpa using e0
  obtain rfl : u1 = .int .i64 z1 := by simpa using e1
  obtain rfl : u2 = .int .u32 z2 := by simpa using e2
  obtain rfl : u3 = .int .u32 z3 := by simpa using e3
  obtain rfl : u4 = .int .u32 z4 := by simpa using e4
  obtain rfl : u5 = .int .i64 z5 := by simpa using e5
  obtain rfl : u6 = .int .i32 z6 := by simpa using e6
  obtain rfl : u7 = .string s7 := by simpa using e7
  obtain rfl : u8 = .string s8 := by simpa using e8
  obtain rfl : u9 = .string s9 := by simpa using e9
  obtain rfl : u10 = .int .i64 z10 := by simpa using e10
  obtain rfl : u11 = .int .u8 z11 := by simpa using e11
  have hd : D = .agg [y0.1, y1.1, y2.1, y3.1, y4.1, y5.1, y6.1, y7.1] := (Prod.ext_iff.1 hxy).1
  have hs : s0.data.toList.length ≤ 140737488351232 := by
    rw [hd, x0] at hsz
    simp only [DataW.weights, Try.underlying26] at hsz
    exact hsz _ (DataW.weights_mem_each (j := 0) (t := 9) rfl rfl _ (by simp [DataW.weights]))
  have hs9 : s9.data.toList.length ≤ 140737488351232 := by
    rw [hd, x9] at hsz
    simp only [DataW.weights, Try.underlying26] at hsz
    exact hsz _ (DataW.weights_mem_each (j := 5) (t := 9) rfl rfl _ (by simp [DataW.weights]))
  have es : mk s0.data.toList = s0 := by cases s0; rfl
  have es9 : mk s9.data.toList = s9 := by cases s9; rfl
  exact ⟨⟨s0.data.toList, z1, z2, z3, z4, z5, z6, s7, s8, s9.data.toList, z10, z11⟩, by simp [Ae.C, es, es9], hs, hs9⟩
theorem policyT {n : Nat} {cs : List Value} {D : DataW H} {Pl : List MemPlace} (hl : cs.length = 4) (h : DataW.trod enc Try.prog W 0 (fun _ => true) true n 29 cs = some (D, Pl)) : ∃ x : Ap, cs = x.C.toList := by
  obtain ⟨xs, k, hk, hxy, _, hxl, hf⟩ := DataW.trod_struct Try.underlying29 h
  obtain ⟨u0, u1, u2, u3, rfl⟩ := fourT cs hl
  obtain ⟨y0, y1, y2, y3, rfl⟩ := fourT xs hxl
  have g0 := hf 0 _ rfl
  have g1 := hf 1 _ rfl
  have g2 := hf 2 _ rfl
  have g3 := hf 3 _ rfl
  simp [cells3t, cells4t, cells32t] at g0 g1 g2 g3
  obtain ⟨z0, e0, _, _⟩ := DataW.trod_int Try.underlying3 g0
  obtain ⟨z1, e1, _⟩ := DataW.trod_bool Try.underlying4 g1
  obtain ⟨z2, e2, _, _⟩ := DataW.trod_int Try.underlying22 g2
  obtain ⟨z3, e3, _⟩ := DataW.trod_bool Try.underlying4 g3
  obtain rfl : u0 = .int .i64 z0 := by simpa using e0
  obtain rfl : u1 = .bool z1 := by simpa using e1
  obtain rfl : u2 = .int .u32 z2 := by simpa using e2
  obtain rfl : u3 = .bool z3 := by simpa using e3
  exact ⟨⟨z0, z1, z2, z3⟩, rfl⟩
theorem openedSt {cs : Array Value} {d : DataW H} {p : List MemPlace} (hcs : cs.size = Try.prog.cellsOf 31) (h : DataW.Trod enc Try.prog W 0 (fun _ => true) true 31 (.agg cs) d p) (hsz : ∀ z ∈ d.weights Try.prog 31, z ≤ 140737488351232) :
    ∃ (e : Ae) (q : Ap) (a : Option Addr) (c : Nat) (b : List By), cs = stC e q (.slice a b.length c) ∧ e.nm.length ≤ 140737488351232 ∧ e.lk.length ≤ 140737488351232 ∧ Old W (.slice a b.length c) b ∧ b.length ≤ 140737488351232 := by
  rw [cellsStt] at hcs
  obtain ⟨fuel, hf0⟩ := h
  obtain ⟨xs, k, hk', hxy, _, hxl, hf⟩ := DataW.trod_struct Try.underlying31 hf0
  obtain ⟨ys, zs, u, hcu, hys, hzs⟩ := seventeenT cs.toList (by rw [Array.length_toList]; exact hcs)
  obtain ⟨y0, y1, y2, rfl⟩ := threeT xs hxl
  have g0 := hf 0 _ rfl
  have g1 := hf 1 _ rfl
  have g2 := hf 2 _ rfl
  simp [Value.cells, cellsEnt, cellsByt, cellsPot, hcu, hys] at g0 g1 g2
  have hd : d = .agg [y0.1, y1.1, y2.1] := (Prod.ext_iff.1 hxy).1
  have d1 : ([y0.1, y1.1, y2.1] : List (DataW H))[0]? = some y0.1 := rfl
  have d2 : ([y0.1, y1.1, y2.1] : List (DataW H))[1]? = some y1.1 := rfl
  rw [hd] at hsz
  simp only [DataW.weights, Try.underlying31] at hsz
  have e2 : List.take 4 (List.drop 13 (ys ++ u :: zs)) = zs := by
    have : (13 : Nat) = ys.length + 1 := by omega
    rw [this, List.drop_append]
    rw [List.drop_eq_nil_of_le (by omega)]
    have : ys.length + 1 - ys.length = 1 := by omega
    rw [this]
    simp only [List.nil_append, List.drop_succ_cons, List.drop_zero]
    exact List.take_of_length_le (by omega)
  rw [e2] at g2
  obtain ⟨x, hx, hxn, hxl'⟩ := entryT hys (by rw [g0]) (fun z hz => hsz z (DataW.weights_mem_each (j := 0) (t := 26) rfl rfl z hz))
  obtain ⟨q, hq⟩ := policyT hzs (by rw [g2])
  obtain ⟨a, n, c, rfl⟩ : ∃ xa xl xc, u = .slice xa xl xc := by
    rcases open_ints (k := .u8) Try.underlying27 Try.underlying5 cells5 g1 with ⟨hcs, _⟩ | ⟨x, l, c, zs, hcs, _⟩
    · exact ⟨none, 0, 0, by simpa using hcs⟩
    · exact ⟨some x, l, c, by simpa using hcs⟩
  obtain ⟨y11, y12⟩ := y1
  obtain ⟨b, hB, hBl, hBd⟩ := openedB (enc := enc) (W := W) (a := a) (len := n) (cap := c) (d := y11) (p := y12) ⟨k, by simpa [Value.cells] using g1⟩
  have hbl : b.length ≤ 140737488351232 := by
    rcases hBd with h0 | ⟨el, sp, rfl, hel⟩
    · omega
    · have := hsz _ (DataW.weights_mem_each (j := 1) (t := 27) rfl rfl ((el.length + sp.length) * Try.prog.bytesOf 5) (by simp [DataW.weights, Try.underlying27]))
      rw [bytes5] at this
      omega
  subst hBl
  refine ⟨x, q, a, c, b, ?_, hxn, hxl', hB, hbl⟩
  apply Array.ext'
  rw [hcu, hx, hq]
  rfl
end
end Go.Proofs.Ytoplhkpbicgceaa

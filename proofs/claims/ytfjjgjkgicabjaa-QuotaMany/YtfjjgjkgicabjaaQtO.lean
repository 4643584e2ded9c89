import Derived.Test.YtfjjgjkgicabjaaQtN
import Derived.Test.YtfjjgjkgicabjaaRows
import Derived.WalkKit
import Derived.ProofKit
import Derived.OpenShut
import Derived.ChangeOld
import Derived.Below
import Derived.ChangeSlices
import Derived.Deep.SlicePairs
import Derived.Deep.Grids
import Derived.SizedLaws
import Derived.Handy
namespace Go.Proofs.Ytfjjgjkgicabjaa
open Go.ChangeShapes Go.WideShapes Go.ChangeAt Go.RowKit Go.Deep
set_option linter.unusedVariables false
set_option maxRecDepth 100000
theorem own : ownKnob Try.prog.godebug = none := by kernel_rfl
theorem laidOut : laidOutB Try.prog = true := by kernel_rfl
theorem cells2q : Try.prog.cellsOf 2 = 1 := by kernel_rfl
theorem cells3q : Try.prog.cellsOf 3 = 1 := by kernel_rfl
theorem cells4q : Try.prog.cellsOf 4 = 1 := by kernel_rfl
theorem cells5q : Try.prog.cellsOf 5 = 1 := by kernel_rfl
theorem cells9q : Try.prog.cellsOf 9 = 1 := by kernel_rfl
theorem cells21q : Try.prog.cellsOf 21 = 1 := by kernel_rfl
theorem cells32q : Try.prog.cellsOf 34 = 1 := by kernel_rfl
theorem cellsMt : Try.prog.cellsOf 36 = 5 := by kernel_rfl
theorem cellsEn : Try.prog.cellsOf 38 = 12 := by kernel_rfl
theorem cellsOp : Try.prog.cellsOf 40 = 13 := by kernel_rfl
theorem cellsQt : Try.prog.cellsOf 23 = 3 := by kernel_rfl
theorem bytesEn : Try.prog.bytesOf 38 = 120 := by kernel_rfl
theorem bytesOp : Try.prog.bytesOf 40 = 128 := by kernel_rfl
instance : Inhabited En := ⟨⟨[], 0, 0, 0, 0, 0, 0, ⟨#[]⟩, ⟨#[]⟩, ⟨#[]⟩, 0, 0⟩⟩
def RE : RT En := { enc := fun e => e.C.toList, k := 12, T := 38, TS := 43, z := default, by_ := 120 }
def RO : RT (Int × En) := { enc := fun x => (opC x.1 x.2).toList, k := 13, T := 40, TS := 24, z := default, by_ := 128 }
def I64q (x : Int) : Prop := -9223372036854775808 ≤ x ∧ x ≤ 9223372036854775807
theorem i64q {x : Int} (h : (Lit.int .i64 x).wf = true) : I64q x := by
  simp [Lit.wf, IntKind.bits, IntKind.signed, IntKind.min, IntKind.max] at h
  exact ⟨by omega, by omega⟩
section
variable {H : Type} {enc : TypeId × Value → H} {W : World} {α : Type}
theorem weightsAll_mem {P : Program} {e : TypeId} {l : List (DataW H)} {d : DataW H} (hd : d ∈ l) {z : Nat} (hz : z ∈ d.weights P e) : z ∈ DataW.weightsAll P e l := by
  induction l with
  | nil => cases hd
  | cons x r ih =>
    simp only [DataW.weightsAll, List.mem_append]
    rcases List.mem_cons.1 hd with rfl | h
    · exact .inl hz
    · exact .inr (ih h)
/-- A list that came in, where an element that came in is known. -/
theorem openedRW [Inhabited α] (R : RT α) (B : Nat) (hB : Try.prog.bytesOf R.T = B) (hund : Try.prog.underlying R.TS = some (.slice R.T)) (hcell : Try.prog.cellsOf R.T = R.k) (hk : 0 < R.k) (hlen : ∀ x, (R.enc x).length = R.k) (Q : α → Prop)
    (elem : ∀ (n : Nat) (a' : Addr) (cs' : List Value) (D : DataW H) (Pl : List MemPlace), W.cells? 0 a' R.k = some cs' → DataW.trod enc Try.prog W 0 (fun _ => true) true n R.T cs' = some (D, Pl) → (∀ z ∈ D.weights Try.prog R.T, z ≤ 140737488351232) → ∃ x, (∀ j u, (R.enc x)[j]? = some u → W.cell? (a'.add j) = some u) ∧ Q x)
    {a : Option Addr} {len cap : Nat} {d : DataW H} {p : List MemPlace} (h : DataW.Trod enc Try.prog W 0 (fun _ => true) true R.TS (.slice a len cap) d p) (hsz : ∀ z ∈ d.weights Try.prog R.TS, z ≤ 140737488351232) :
    ∃ l : List α, l.length = len ∧ SlR R (fun k => W.heap.size ≤ k) (.slice a len cap) l W ∧ (∀ x ∈ l, Q x) ∧ len * B ≤ 140737488351232 := by
  obtain ⟨fuel, hf⟩ := h
  rcases open_slice hund hf with ⟨hcs, _⟩ | ⟨x, l, c, m, n, D, Pl, hcs, _, hl, hm, hmm, hd, hx⟩
  · simp [Value.cells] at hcs
    obtain ⟨rfl, rfl, rfl⟩ := hcs
    exact ⟨[], rfl, .inl ⟨none, rfl, rfl⟩, (fun x hx => by cases hx), by simp⟩
  · simp [Value.cells] at hcs
    obtain ⟨rfl, rfl, rfl⟩ := hcs
    simp only [if_true] at hmm
    rw [hcell] at hx
    have hdd := (Prod.ext_iff.1 hd).1
    simp only at hdd
    rw [hdd] at hsz
    simp only [DataW.weights, hund, hB] at hsz
    have hbig := hsz _ (List.mem_cons_self ..)
    have hwD : ∀ i, i < m → ∀ z ∈ (D i).weights Try.prog R.T, z ≤ 140737488351232 := fun i hi z hz => by
      refine hsz z (List.mem_cons_of_mem _ ?_)
      rw [List.mem_append]
      by_cases hil : i < len
      · exact .inl (weightsAll_mem (List.mem_map.2 ⟨i, List.mem_range.2 hil, rfl⟩) hz)
      · exact .inr (weightsAll_mem (List.mem_map.2 ⟨i - len, List.mem_range.2 (by omega), by show D (len + (i - len)) = D i; congr 1; omega⟩) hz)
    obtain ⟨q, hq⟩ := choose_lt (α := α) (p := fun i q => (∀ j u, (R.enc q)[j]? = some u → W.cell? ((x.add (i * R.k)).add j) = some u) ∧ Q q) (n := m) (fun i hi => by
      obtain ⟨cs', h1, h2⟩ := hx i hi
      exact elem n _ cs' _ _ h1 h2 (hwD i hi))
    obtain ⟨b, off, spot⟩ := x
    have hsp : 0 < cap → spot = none ∧ b < W.heap.size := by
      intro h0
      obtain ⟨u, hu⟩ : ∃ u, (R.enc (q 0))[0]? = some u := ⟨_, List.getElem?_eq_getElem (by rw [hlen]; exact hk)⟩
      have := (hq 0 (by omega)).1 0 u hu
      have hs : spot = none := by simpa [Addr.add] using World.cell?_spot this
      subst hs
      refine ⟨rfl, ?_⟩
      have h2 := World.block_lt_of_cell? _ _ this
      rw [add_plain, add_plain] at h2
      exact h2
    refine ⟨(List.range len).map q, by simp, ?_, fun x hx => ?_, ?_⟩
    · by_cases hc0 : cap = 0
      · subst hc0
        obtain rfl : len = 0 := by omega
        exact .inl ⟨_, rfl, rfl⟩
      · obtain ⟨rfl, hbl⟩ := hsp (by omega)
        refine .inr ⟨b, off, cap, by omega, by simp, by simpa using hl, by unfold maxLen at hm; omega, fun i x j u hi hu => ?_⟩
        obtain ⟨hil, rfl⟩ := List.getElem?_eq_some_iff.1 hi
        have hi' : i < len := by simpa using hil
        simp only [List.getElem_map, List.getElem_range] at hu
        have := (hq i (by omega)).1 j u hu
        rw [add_plain, add_plain] at this
        exact this
    · obtain ⟨i, hi, rfl⟩ := List.mem_map.1 hx
      exact (hq i (by have := List.mem_range.1 hi; omega)).2
    · have e1 : ((List.range len).map D).length = len := by simp
      rw [e1] at hbig
      refine Nat.le_trans (Nat.mul_le_mul_right B ?_) hbig
      omega
theorem eightQ {β : Type} (xs : List β) (h : xs.length = 8) : ∃ a b c d e f g i, xs = [a, b, c, d, e, f, g, i] := by
  match xs, h with
  | [a, b, c, d, e, f, g, i], _ => exact ⟨a, b, c, d, e, f, g, i, rfl⟩
theorem fiveQ {β : Type} (xs : List β) (h : xs.length = 5) : ∃ a b c d e, xs = [a, b, c, d, e] := by
  match xs, h with
  | [a, b, c, d, e], _ => exact ⟨a, b, c, d, e, rfl⟩
theorem threeQ {β : Type} (xs : List β) (h : xs.length = 3) : ∃ a b c, xs = [a, b, c] := by
  match xs, h with
  | [a, b, c], _ => exact ⟨a, b, c, rfl⟩
theorem twoQ {β : Type} (xs : List β) (h : xs.length = 2) : ∃ a b, xs = [a, b] := by
  match xs, h with
  | [a, b], _ => exact ⟨a, b, rfl⟩
theorem twelveQ {β : Type} (xs : List β) (h : xs.length = 12) : ∃ a b c d e f g i j k l m, xs = [a, b, c, d, e, f, g, i, j, k, l, m] := by
  match xs, h with
  | [a, b, c, d, e, f, g, i, j, k, l, m], _ => exact ⟨a, b, c, d, e, f, g, i, j, k, l, m, rfl⟩
theorem thirteenQ {β : Type} (xs : List β) (h : xs.length = 13) : ∃ z ys, xs = z :: ys ∧ ys.length = 12 := by
  match xs, h with
  | z :: ys, h => exact ⟨z, ys, rfl, by simpa using h⟩
/-- An entry that came in. -/
theorem entryQ {n : Nat} {cs : List Value} {D : DataW H} {Pl : List MemPlace} (hl : cs.length = 12) (h : DataW.trod enc Try.prog W 0 (fun _ => true) true n 38 cs = some (D, Pl)) (hsz : ∀ z ∈ D.weights Try.prog 38, z ≤ 140737488351232) : ∃ x : En, cs = x.C.toList ∧ x.Ok := by
  obtain ⟨xs, k, hk, hxy, _, hxl, hf⟩ := DataW.trod_struct Try.underlying38 h
  obtain ⟨u0, u1, u2, u3, u4, u5, u6, u7, u8, u9, u10, u11, rfl⟩ := twelveQ cs hl
  obtain ⟨y0, y1, y2, y3, y4, y5, y6, y7, rfl⟩ := eightQ xs hxl
  have g0 := hf 0 _ rfl
  have g1 := hf 1 _ rfl
  have g2 := hf 2 _ rfl
  have g3 := hf 3 _ rfl
  have g4 := hf 4 _ rfl
  have g5 := hf 5 _ rfl
  have g6 := hf 6 _ rfl
  have g7 := hf 7 _ rfl
  simp [cells9q, cells2q, cells3q, cells5q, cellsMt] at g0 g1 g2 g3 g4 g5 g6 g7
  obtain ⟨xs2, k2, hk2, hxy2, _, hxl2, hf2⟩ := DataW.trod_struct Try.underlying36 g2
  obtain ⟨m0, m1, m2, m3, m4, rfl⟩ := fiveQ xs2 hxl2
  have w0 := hf2 0 _ rfl
  have w1 := hf2 1 _ rfl
  have w2 := hf2 2 _ rfl
  have w3 := hf2 3 _ rfl
  have w4 := hf2 4 _ rfl
  simp [cells32q, cells2q, cells21q] at w0 w1 w2 w3 w4
  obtain ⟨s0, e0, x0, _⟩ := DataW.trod_string Try.underlying9 g0
  obtain ⟨z1, e1, _, b1⟩ := DataW.trod_int Try.underlying3 g1
  obtain ⟨z2, e2, _, _⟩ := DataW.trod_int Try.underlying34 w0
  obtain ⟨z3, e3, _, _⟩ := DataW.trod_int Try.underlying34 w1
  obtain ⟨z4, e4, _, _⟩ := DataW.trod_int Try.underlying34 w2
  obtain ⟨z5, e5, _, _⟩ := DataW.trod_int Try.underlying2 w3
  obtain ⟨z6, e6, _, _⟩ := DataW.trod_int Try.underlying21 w4
  obtain ⟨s7, e7, x7, _⟩ := DataW.trod_string Try.underlying9 g3
  obtain ⟨s8, e8, x8, _⟩ := DataW.trod_string Try.underlying9 g4
  obtain ⟨s9, e9, x9, _⟩ := DataW.trod_string Try.underlying9 g5
  obtain ⟨z10, e10, _, b10⟩ := DataW.trod_int Try.underlying2 g6
  obtain ⟨z11, e11, _, _⟩ := DataW.trod_int Try.underlying5 g7
  obtain rfl : u0 = .string s0 := by simpa using e0
  obtain rfl : u1 = .int .i64 z1 := by simpa using e1
  obtain rfl : u2 = .int .u32 z2 := by simpa using e2
  obtain rfl : u3 = .int .u32 z3 := by simpa using e3
  obtain rfl : u4 = .int .u32 z4 := by simpa using e4
  obtain rfl : u5 = .int .i64 z5 := by simpa using e5
  obtain rfl : u6 = .int .i32 z6 := by simpa using e6
  obtain rfl : u7 = .string s7 := by simpa using e7
  obtain rfl : u8 = .string s8 := by simpa using e8
  obtain rfl : u9 = .string s9 := by simpa using e9
  obtain rfl : u10 = .int .i64 z10 := by simpa using e10
  obtain rfl : u11 = .int .u8 z11 := by simpa using e11
  have hd : D = .agg [y0.1, y1.1, y2.1, y3.1, y4.1, y5.1, y6.1, y7.1] := (Prod.ext_iff.1 hxy).1
  have hs : s0.data.toList.length ≤ 140737488351232 := by
    rw [hd, x0] at hsz
    simp only [DataW.weights, Try.underlying38] at hsz
    exact hsz _ (DataW.weights_mem_each (j := 0) (t := 9) rfl rfl _ (by simp [DataW.weights]))
  have es : mk s0.data.toList = s0 := by cases s0; rfl
  exact ⟨⟨s0.data.toList, z1, z2, z3, z4, z5, z6, s7, s8, s9, z10, z11⟩, by simp [En.C, es], ⟨hs, (i64q b10).1, (i64q b10).2⟩⟩
theorem openedE {a : Option Addr} {len cap : Nat} {d : DataW H} {p : List MemPlace} (h : DataW.Trod enc Try.prog W 0 (fun _ => true) true 43 (.slice a len cap) d p) (hsz : ∀ z ∈ d.weights Try.prog 43, z ≤ 140737488351232) :
    ∃ l : List En, l.length = len ∧ SlR RE (fun k => W.heap.size ≤ k) (.slice a len cap) l W ∧ (∀ x ∈ l, x.Ok) ∧ len * 120 ≤ 140737488351232 :=
  openedRW RE 120 bytesEn Try.underlying43 cellsEn (by decide) (fun _ => rfl) En.Ok (fun n a' cs' D Pl h1 h2 h3 => by
    obtain ⟨_, hlen, hcell⟩ := World.cells?_some h1
    obtain ⟨x, rfl, hx⟩ := entryQ hlen h2 h3
    refine ⟨x, fun j u hu => ?_, hx⟩
    have hj := (List.getElem?_eq_some_iff.1 hu).1
    rw [hcell j (by simpa [RE, En.C] using hj)]
    exact hu) h hsz
theorem openedOs {a : Option Addr} {len cap : Nat} {d : DataW H} {p : List MemPlace} (h : DataW.Trod enc Try.prog W 0 (fun _ => true) true 24 (.slice a len cap) d p) (hsz : ∀ z ∈ d.weights Try.prog 24, z ≤ 140737488351232) :
    ∃ l : List (Int × En), l.length = len ∧ SlR RO (fun k => W.heap.size ≤ k) (.slice a len cap) l W ∧ (∀ x ∈ l, x.2.Ok) ∧ len * 128 ≤ 140737488351232 :=
  openedRW RO 128 bytesOp Try.underlying24 cellsOp (by decide) (fun _ => rfl) (fun x => x.2.Ok) (fun n a' cs' D Pl h1 h2 h3 => by
    obtain ⟨_, hlen, hcell⟩ := World.cells?_some h1
    obtain ⟨xs, k, hk, hxy, _, hxl, hf⟩ := DataW.trod_struct Try.underlying40 h2
    obtain ⟨z, ys, rfl, hys⟩ := thirteenQ cs' hlen
    obtain ⟨y0, y1, rfl⟩ := twoQ xs hxl
    have g0 := hf 0 _ rfl
    have g1 := hf 1 _ rfl
    simp [cells3q, cellsEn] at g0 g1
    rw [List.take_of_length_le (by omega)] at g1
    obtain ⟨z0, e0, _, _⟩ := DataW.trod_int Try.underlying3 g0
    obtain rfl : z = .int .i64 z0 := by simpa using e0
    have hd : D = .agg [y0.1, y1.1] := (Prod.ext_iff.1 hxy).1
    obtain ⟨x, hxC, hx⟩ := entryQ hys g1 (fun v hv => h3 v (by
      rw [hd]
      simp only [DataW.weights]
      exact DataW.weights_mem_each (j := 1) (t := 38) rfl rfl v hv))
    refine ⟨(z0, x), fun j u hu => ?_, hx⟩
    have hj := (List.getElem?_eq_some_iff.1 hu).1
    rw [hcell j (by simpa [RO, opC] using hj), hxC]
    exact hu) h hsz
/-- A quota that came in. -/
theorem openedQt {cs : Array Value} {d : DataW H} {p : List MemPlace} (hcs : cs.size = Try.prog.cellsOf 23) (h : DataW.Trod enc Try.prog W 0 (fun _ => true) true 23 (.agg cs) d p) : ∃ q : Qt, cs = q.C ∧ q.Ok := by
  obtain ⟨fuel, hf0⟩ := h
  obtain ⟨xs, k, hk', hxy, _, hxl, hf⟩ := DataW.trod_struct Try.underlying23 hf0
  rw [cellsQt] at hcs
  obtain ⟨u0, u1, u2, hcu⟩ := threeQ cs.toList (by rw [Array.length_toList]; exact hcs)
  obtain rfl : cs = #[u0, u1, u2] := by cases cs; simp_all
  obtain ⟨y0, y1, y2, rfl⟩ := threeQ xs hxl
  have g0 := hf 0 _ rfl
  have g1 := hf 1 _ rfl
  have g2 := hf 2 _ rfl
  simp [Value.cells, cells2q, cells3q] at g0 g1 g2
  obtain ⟨z0, e0, _, w0⟩ := DataW.trod_int Try.underlying2 g0
  obtain ⟨z1, e1, _, w1⟩ := DataW.trod_int Try.underlying3 g1
  obtain ⟨z2, e2, _, w2⟩ := DataW.trod_int Try.underlying3 g2
  obtain rfl : u0 = .int .i64 z0 := by simpa using e0
  obtain rfl : u1 = .int .i64 z1 := by simpa using e1
  obtain rfl : u2 = .int .i64 z2 := by simpa using e2
  exact ⟨⟨z0, z1, z2⟩, rfl, ⟨(i64q w0).1, (i64q w0).2, (i64q w1).1, (i64q w1).2, (i64q w2).1, (i64q w2).2⟩⟩
/-- An entry that came in by itself. -/
theorem openedEn {cs : Array Value} {d : DataW H} {p : List MemPlace} (hcs : cs.size = Try.prog.cellsOf 38) (h : DataW.Trod enc Try.prog W 0 (fun _ => true) true 38 (.agg cs) d p) (hsz : ∀ z ∈ d.weights Try.prog 38, z ≤ 140737488351232) : ∃ x : En, cs = x.C ∧ x.Ok := by
  obtain ⟨fuel, hf0⟩ := h
  rw [cellsEn] at hcs
  obtain ⟨x, hx, hok⟩ := entryQ (n := fuel) (cs := cs.toList) (by rw [Array.length_toList]; exact hcs) (by simpa [Value.cells] using hf0) hsz
  refine ⟨x, ?_, hok⟩
  apply Array.ext'
  exact hx
/-- Bools that came in. -/
theorem openedBl {a : Option Addr} {len cap : Nat} {d : DataW H} {p : List MemPlace} (h : DataW.Trod enc Try.prog W 0 (fun _ => true) true 25 (.slice a len cap) d p) :
    len ≤ cap ∧ cap < 9223372036854775808 ∧ ∃ B : Nat → Bool, (len = 0 ∨ ∃ g o, a = some ⟨g, o, none⟩ ∧ g < W.heap.size ∧ ∀ i, i < len → W.cell? ⟨g, o + i, none⟩ = some (.bool (B i))) := by
  obtain ⟨fuel, hf⟩ := h
  rcases open_bools Try.underlying25 Try.underlying4 cells4q hf with ⟨hcs, _⟩ | ⟨x, l, c, B, hcs, _, hl, hm, _, hc⟩
  · simp [Value.cells] at hcs
    obtain ⟨rfl, rfl, rfl⟩ := hcs
    exact ⟨Nat.le_refl _, by decide, fun _ => false, .inl rfl⟩
  · simp [Value.cells] at hcs
    obtain ⟨rfl, rfl, rfl⟩ := hcs
    refine ⟨hl, by unfold maxLen at hm; omega, B, ?_⟩
    by_cases h0 : len = 0
    · exact .inl h0
    · obtain ⟨b, off, spot⟩ := x
      have hc0 := hc 0 (by omega)
      have hspot : spot = none := by simpa [Addr.add] using World.cell?_spot hc0
      subst hspot
      have hb : b < W.heap.size := by have := World.block_lt_of_cell? _ _ hc0; simpa [Addr.add] using this
      refine .inr ⟨b, off, rfl, hb, fun i hi => ?_⟩
      have := hc i (by omega)
      rw [add_plain] at this
      exact this
end
end Go.Proofs.Ytfjjgjkgicabjaa

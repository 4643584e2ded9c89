import Derived.Test.YtdeefemeiggolaaRows
import Derived.Test.YtdeefemeiggolaaFkDq
import Derived.Test.YtdeefemeiggolaaQa
namespace Go.Proofs.Ytdeefemeiggolaa
open Go.ChangeShapes Go.WideShapes Go.ChangeAt Go.RowKit Go.Deep
set_option linter.unusedVariables false
namespace frameBack
theorem cells3 : Try.prog.cellsOf 3 = 1 := by kernel_rfl
theorem cells4 : Try.prog.cellsOf 4 = 1 := by kernel_rfl
theorem cellsB : Try.prog.cellsOf 22 = 1 := by kernel_rfl
theorem cellsSh : Try.prog.cellsOf 24 = 5 := by kernel_rfl
theorem cellsPt : Try.prog.cellsOf 45 = 8 := by kernel_rfl
theorem bulk_pos {H : Type} (d : DataW H) : 1 ≤ Rows.uptoBulk d := by
  cases d with
  | lit v => cases v <;> simp [Rows.uptoBulk]
  | _ => simp [Rows.uptoBulk]
theorem bulk_length {H : Type} (l : List (DataW H)) : l.length ≤ Rows.uptoBulkAll l := by
  induction l with
  | nil => simp [Rows.uptoBulkAll]
  | cons x r ih => have := bulk_pos x; simp only [Rows.uptoBulkAll, List.length_cons]; omega
theorem wgt_bulk {H : Type} (xs : List Nat) (f : Nat → Prt) (D : Nat → DataW H) (h : ∀ x ∈ xs, (f x).b.length + 1 ≤ Rows.uptoBulk (D x)) : wgt (xs.map f) ≤ Rows.uptoBulkAll (xs.map D) := by
  induction xs with
  | nil => simp [wgt, Rows.uptoBulkAll]
  | cons x r ih =>
    have h1 := h x (by simp)
    have h2 := ih (fun y hy => h y (by simp [hy]))
    simp only [List.map_cons, wgt, Rows.uptoBulkAll]
    omega
section
variable {H : Type} {enc : TypeId × Value → H} {W : World}
theorem eightV (cs : List Value) (h : cs.length = 8) : ∃ v0 v1 v2 v3 v4 v5 v6 v7, cs = [v0, v1, v2, v3, v4, v5, v6, v7] := by
  match cs, h with
  | [v0, v1, v2, v3, v4, v5, v6, v7], _ => exact ⟨v0, v1, v2, v3, v4, v5, v6, v7, rfl⟩
theorem fourL {α : Type} (xs : List α) (h : xs.length = 4) : ∃ u0 u1 u2 u3, xs = [u0, u1, u2, u3] := by
  match xs, h with
  | [u0, u1, u2, u3], _ => exact ⟨u0, u1, u2, u3, rfl⟩
theorem fiveL {α : Type} (xs : List α) (h : xs.length = 5) : ∃ u0 u1 u2 u3 u4, xs = [u0, u1, u2, u3, u4] := by
  match xs, h with
  | [u0, u1, u2, u3, u4], _ => exact ⟨u0, u1, u2, u3, u4, rfl⟩
/-- One part that came in. -/
structure ElP (W : World) (a : Addr) (i : Nat) (D : DataW H) (q : Option Addr × Nat × Prt) : Prop where
  c0 : W.cell? (a.add (i * 8)) = some (.bool q.2.2.skip)
  c1 : W.cell? (a.add (i * 8 + 1)) = some (.int .i64 q.2.2.user)
  c2 : W.cell? (a.add (i * 8 + 2)) = some (.slice q.1 q.2.2.b.length q.2.1)
  c3 : W.cell? (a.add (i * 8 + 3)) = some (.int .i64 q.2.2.k)
  c4 : W.cell? (a.add (i * 8 + 4)) = some (.bool q.2.2.b1)
  c5 : W.cell? (a.add (i * 8 + 5)) = some (.bool q.2.2.b2)
  c6 : W.cell? (a.add (i * 8 + 6)) = some (.bool q.2.2.b3)
  c7 : W.cell? (a.add (i * 8 + 7)) = some (.bool q.2.2.b4)
  old : Old W (.slice q.1 q.2.2.b.length q.2.1) q.2.2.b
  wt : q.2.2.b.length + 1 ≤ Rows.uptoBulk D
theorem elemP {n i : Nat} {a : Addr} {cs' : List Value} {D : DataW H} {Pl : List MemPlace} (h1 : W.cells? 0 (a.add (i * 8)) 8 = some cs') (h2 : DataW.trod enc Try.prog W 0 (fun _ => true) true n 45 cs' = some (D, Pl)) : ∃ q, ElP W a i D q := by
  obtain ⟨_, hlen, hcell⟩ := World.cells?_some h1
  obtain ⟨xs, k, hk, hxy, _, hxl, hf⟩ := DataW.trod_struct Try.underlying45 h2
  obtain ⟨v0, v1, v2, v3, v4, v5, v6, v7, rfl⟩ := eightV cs' hlen
  obtain ⟨y0, y1, y2, y3, rfl⟩ := fourL xs hxl
  have g0 := hf 0 _ rfl
  have g1 := hf 1 _ rfl
  have g2 := hf 2 _ rfl
  have g3 := hf 3 _ rfl
  simp [cells3, cells4, cellsB, cellsSh] at g0 g1 g2 g3
  have e0 := hcell 0 (by omega)
  have e1 := hcell 1 (by omega)
  have e2 := hcell 2 (by omega)
  have e3 := hcell 3 (by omega)
  have e4 := hcell 4 (by omega)
  have e5 := hcell 5 (by omega)
  have e6 := hcell 6 (by omega)
  have e7 := hcell 7 (by omega)
  rw [add_add] at e0 e1 e2 e3 e4 e5 e6 e7
  obtain ⟨xs3, k3, hk3, hxy3, _, hxl3, hf3⟩ := DataW.trod_struct Try.underlying24 g3
  obtain ⟨z0, z1, z2, z3, z4, rfl⟩ := fiveL xs3 hxl3
  have w0 := hf3 0 _ rfl
  have w1 := hf3 1 _ rfl
  have w2 := hf3 2 _ rfl
  have w3 := hf3 3 _ rfl
  have w4 := hf3 4 _ rfl
  simp [cells3, cells4] at w0 w1 w2 w3 w4
  obtain ⟨x0, hx0, _⟩ := DataW.trod_bool Try.underlying4 g0
  obtain ⟨n1, hn1, _, _⟩ := DataW.trod_int Try.underlying3 g1
  obtain ⟨n3, hn3, _, _⟩ := DataW.trod_int Try.underlying3 w0
  obtain ⟨x4, hx4, _⟩ := DataW.trod_bool Try.underlying4 w1
  obtain ⟨x5, hx5, _⟩ := DataW.trod_bool Try.underlying4 w2
  obtain ⟨x6, hx6, _⟩ := DataW.trod_bool Try.underlying4 w3
  obtain ⟨x7, hx7, _⟩ := DataW.trod_bool Try.underlying4 w4
  obtain rfl : v0 = .bool x0 := by simpa using hx0
  obtain rfl : v1 = .int .i64 n1 := by simpa using hn1
  obtain rfl : v3 = .int .i64 n3 := by simpa using hn3
  obtain rfl : v4 = .bool x4 := by simpa using hx4
  obtain rfl : v5 = .bool x5 := by simpa using hx5
  obtain rfl : v6 = .bool x6 := by simpa using hx6
  obtain rfl : v7 = .bool x7 := by simpa using hx7
  obtain ⟨xa, xl, xc, rfl⟩ : ∃ xa xl xc, v2 = .slice xa xl xc := by
    rcases open_ints (k := .u8) Try.underlying22 Try.underlying5 cells5 g2 with ⟨hcs, _⟩ | ⟨x, l, c, zs, hcs, _⟩
    · exact ⟨none, 0, 0, by simpa using hcs⟩
    · exact ⟨some x, l, c, by simpa using hcs⟩
  obtain ⟨y21, y22⟩ := y2
  obtain ⟨l, hO, hll, hd⟩ := openedB (enc := enc) (W := W) (a := xa) (len := xl) (cap := xc) (d := y21) (p := y22) ⟨k, by simpa [Value.cells] using g2⟩
  subst hll
  simp only [Prod.mk.injEq] at hxy
  refine ⟨(xa, xc, ⟨x0, n1, l, n3, x4, x5, x6, x7⟩), by simpa using e0, by simpa using e1, by simpa using e2, by simpa using e3, by simpa using e4, by simpa using e5, by simpa using e6, by simpa using e7, hO, ?_⟩
  rw [hxy.1]
  simp only [List.map_cons, List.map_nil, Rows.uptoBulk, Rows.uptoBulkAll]
  have b0 := bulk_pos y0.1
  have b2 := bulk_pos y21
  rcases hd with hd | ⟨es, sp, rfl, he⟩
  · omega
  · have := bulk_length es
    simp only [Rows.uptoBulk]
    omega
/-- A list of parts that came in. -/
theorem openedP {a : Option Addr} {len cap : Nat} {d : DataW H} {p : List MemPlace} (h : DataW.Trod enc Try.prog W 0 (fun _ => true) true 42 (.slice a len cap) d p) :
    ∃ l : List Prt, l.length = len ∧ OldP W (.slice a len cap) l ∧ wgt l ≤ Rows.uptoBulk d := by
  obtain ⟨fuel, hf⟩ := h
  rcases open_slice Try.underlying42 hf with ⟨hcs, _⟩ | ⟨x, l, c, m, n, D, Pl, hcs, _, hl, hm, hmm, hd, hx⟩
  · simp [Value.cells] at hcs
    obtain ⟨rfl, rfl, rfl⟩ := hcs
    exact ⟨[], rfl, ⟨none, 0, rfl, by simp, by decide, fun h => absurd rfl h⟩, by simp [wgt]⟩
  · simp [Value.cells] at hcs
    obtain ⟨rfl, rfl, rfl⟩ := hcs
    simp only [if_true] at hmm
    rw [cellsPt] at hx
    have hdd := (Prod.ext_iff.1 hd).1
    simp only at hdd
    obtain ⟨q, hq⟩ := choose_lt (α := Option Addr × Nat × Prt) (p := fun i q => ElP W x i (D i) q) (n := m) (fun i hi => by
      obtain ⟨cs', h1, h2⟩ := hx i hi
      exact elemP h1 h2)
    obtain ⟨b, off, spot⟩ := x
    have hsp : 0 < len → spot = none := by
      intro h0
      simpa [Addr.add] using World.cell?_spot (hq 0 (by omega)).c0
    refine ⟨(List.range len).map (fun i => (q i).2.2), by simp, ⟨some ⟨b, off, spot⟩, cap, by simp, by simpa using hl, by unfold maxLen at hm; omega, fun h0 => ?_⟩, ?_⟩
    · have hpos : 0 < len := by
        rcases Nat.eq_zero_or_pos len with h | h
        · subst h; exact absurd rfl h0
        · exact h
      obtain rfl := hsp hpos
      have hb : b < W.heap.size := by have := World.block_lt_of_cell? _ _ (hq 0 (by omega)).c0; simpa [Addr.add] using this
      refine ⟨b, off, rfl, hb, fun i t hi => ?_⟩
      obtain ⟨hil, rfl⟩ := List.getElem?_eq_some_iff.1 hi
      have hi' : i < len := by simpa using hil
      have k := hq i (by omega)
      have k0 := k.c0
      have k1 := k.c1
      have k2 := k.c2
      have k3 := k.c3
      have k4 := k.c4
      have k5 := k.c5
      have k6 := k.c6
      have k7 := k.c7
      rw [add_plain] at k0 k1 k2 k3 k4 k5 k6 k7
      rw [← Nat.add_assoc] at k1 k2 k3 k4 k5 k6 k7
      simp only [List.getElem_map, List.getElem_range]
      exact ⟨_, _, k0, k1, k2, k3, k4, k5, k6, k7, k.old⟩
    · have := wgt_bulk (List.range len) (fun i => (q i).2.2) D (fun i hi => (hq i (by have := List.mem_range.1 hi; omega)).wt)
      rw [hdd]
      simp only [Rows.uptoBulk]
      omega
end
end frameBack
end Go.Proofs.Ytdeefemeiggolaa

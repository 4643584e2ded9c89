import Derived.Test.YtpnacppmdlnjlaaMaG
import Derived.Test.YtpnacppmdlnjlaaLzOp
namespace Go.Proofs.Ytpnacppmdlnjlaa
open Go.ChangeShapes Go.WideShapes Go.ChangeAt Go.RowKit Go.Deep
set_option linter.unusedVariables false
theorem cellsI : Try.prog.cellsOf 3 = 1 := by kernel_rfl
theorem cellsB : Try.prog.cellsOf 22 = 1 := by kernel_rfl
theorem cellsQ : Try.prog.cellsOf 36 = 3 := by kernel_rfl
theorem bytesQ : Try.prog.bytesOf 36 = 40 := by kernel_rfl
section
variable {H : Type} {enc : TypeId × Value → H} {W : World}
instance : Inhabited Si := ⟨⟨[], 0, 0⟩⟩
/-- One sequence that came in. -/
structure ElS (W : World) (a : Addr) (i : Nat) (D : DataW H) (q : Option Addr × Nat × Si) : Prop where
  c0 : W.cell? (a.add (i * 3)) = some (.slice q.1 q.2.2.p.length q.2.1)
  c1 : W.cell? (a.add (i * 3 + 1)) = some (.int .i64 q.2.2.b)
  c2 : W.cell? (a.add (i * 3 + 2)) = some (.int .i64 q.2.2.n)
  old : Old W (.slice q.1 q.2.2.p.length q.2.1) q.2.2.p
  wt : (∀ n ∈ DataW.weights Try.prog 36 D, n ≤ reachBytes) → q.2.2.p.length ≤ 140737488351232
theorem elemS {n i : Nat} {a : Addr} {cs' : List Value} {D : DataW H} {Pl : List MemPlace} (h1 : W.cells? 0 (a.add (i * 3)) 3 = some cs') (h2 : DataW.trod enc Try.prog W 0 (fun _ => true) true n 36 cs' = some (D, Pl)) : ∃ q, ElS W a i D q := by
  obtain ⟨_, hlen, hcell⟩ := World.cells?_some h1
  obtain ⟨xs, k, hk, hxy, _, hxl, hf⟩ := DataW.trod_struct Try.underlying36 h2
  match xs, hxl, cs', hlen with
  | [y0, y1, y2], _, [v0, v1, v2], _ =>
    have g0 := hf 0 _ rfl
    have g1 := hf 1 _ rfl
    have g2 := hf 2 _ rfl
    simp [cellsI, cellsB] at g0 g1 g2
    have e0 := hcell 0 (by omega)
    have e1 := hcell 1 (by omega)
    have e2 := hcell 2 (by omega)
    rw [add_add] at e0 e1 e2
    simp only [Prod.mk.injEq] at hxy
    obtain ⟨n1, hn1, _, _⟩ := DataW.trod_int Try.underlying3 g1
    obtain ⟨n2, hn2, _, _⟩ := DataW.trod_int Try.underlying3 g2
    obtain rfl : v1 = .int .i64 n1 := by simpa using hn1
    obtain rfl : v2 = .int .i64 n2 := by simpa using hn2
    obtain ⟨xa, xl, xc, rfl⟩ : ∃ xa xl xc, v0 = .slice xa xl xc := by
      rcases open_ints (k := .u8) Try.underlying22 Try.underlying5 cells5 g0 with ⟨hcs, _⟩ | ⟨x, l, c, zs, hcs, _⟩
      · exact ⟨none, 0, 0, by simpa using hcs⟩
      · exact ⟨some x, l, c, by simpa using hcs⟩
    obtain ⟨y01, y02⟩ := y0
    obtain ⟨l, hO, hll, hd⟩ := openedB (enc := enc) (W := W) (a := xa) (len := xl) (cap := xc) (d := y01) (p := y02) ⟨k, by simpa [Value.cells] using g0⟩
    subst hll
    refine ⟨(xa, xc, ⟨l, n1, n2⟩), by simpa using e0, by simpa using e1, by simpa using e2, hO, ?_⟩
    intro hw
    show l.length ≤ _
    have hrb : reachBytes = 140737488351232 := by decide
    rcases hd with hd | ⟨es, sp, rfl, he⟩
    · omega
    · have := hw ((es.length + sp.length) * Try.prog.bytesOf 5) (by
        rw [hxy.1]
        simp [DataW.weights, DataW.weightsEach, Try.underlying36, Try.underlying22])
      rw [bytes5, hrb] at this
      omega
theorem weights_all {e : TypeId} {D : DataW H} {ds : List (DataW H)} (h : D ∈ ds) : ∀ n ∈ D.weights Try.prog e, n ∈ DataW.weightsAll Try.prog e ds := by
  induction ds with
  | nil => simp at h
  | cons d r ih =>
    intro n hn
    simp only [DataW.weightsAll, List.mem_append]
    rcases List.mem_cons.1 h with rfl | h
    · exact .inl hn
    · exact .inr (ih h n hn)
/-- A list of sequences that came in. -/
theorem openedS {a : Option Addr} {len cap : Nat} {d : DataW H} {p : List MemPlace} (h : DataW.Trod enc Try.prog W 0 (fun _ => true) true 31 (.slice a len cap) d p) (hw : ∀ n ∈ DataW.weights Try.prog 31 d, n ≤ reachBytes) :
    ∃ l : List Si, l.length = len ∧ OldS W (.slice a len cap) l ∧ ∀ s ∈ l, s.p.length ≤ 140737488351232 := by
  obtain ⟨fuel, hf⟩ := h
  have hrb : reachBytes = 140737488351232 := by decide
  rcases open_slice Try.underlying31 hf with ⟨hcs, _⟩ | ⟨x, l, c, m, n, D, Pl, hcs, _, hl, hm, hmm, hd, hx⟩
  · simp [Value.cells] at hcs
    obtain ⟨rfl, rfl, rfl⟩ := hcs
    exact ⟨[], rfl, ⟨none, 0, rfl, by simp, by decide, by simp, fun h => absurd rfl h⟩, by simp⟩
  · simp [Value.cells] at hcs
    obtain ⟨rfl, rfl, rfl⟩ := hcs
    simp only [if_true] at hmm
    rw [cellsQ] at hx
    have hdd := (Prod.ext_iff.1 hd).1
    simp only at hdd
    obtain ⟨q, hq⟩ := choose_lt (α := Option Addr × Nat × Si) (p := fun i q => ElS W x i (D i) q) (n := m) (fun i hi => by
      obtain ⟨cs', h1, h2⟩ := hx i hi
      exact elemS h1 h2)
    have hlen40 : len * 40 ≤ 140737488351232 := by
      have := hw (((List.range len).map D).length * 40 + ((List.range (m - len)).map fun j => D (len + j)).length * 40) (by
        rw [hdd]
        simp only [DataW.weights, Try.underlying31, bytesQ]
        rw [← Nat.add_mul]
        exact List.mem_cons_self)
      rw [hrb] at this
      simp at this
      omega
    have hwi : ∀ i, i < len → (q i).2.2.p.length ≤ 140737488351232 := fun i hi => by
      refine (hq i (by omega)).wt (fun n hn => hw n ?_)
      rw [hdd]
      simp only [DataW.weights, Try.underlying31]
      refine List.mem_cons_of_mem _ (List.mem_append_left _ (weights_all (D := D i) ?_ n hn))
      exact List.mem_map.2 ⟨i, List.mem_range.2 hi, rfl⟩
    obtain ⟨b, off, spot⟩ := x
    have hsp : 0 < len → spot = none := by
      intro h0
      simpa [Addr.add] using World.cell?_spot (hq 0 (by omega)).c0
    refine ⟨(List.range len).map (fun i => (q i).2.2), by simp, ⟨some ⟨b, off, spot⟩, cap, by simp, by simpa using hl, by unfold maxLen at hm; omega, by simp; omega, fun h0 => ?_⟩, ?_⟩
    · have hpos : 0 < len := by
        rcases Nat.eq_zero_or_pos len with h | h
        · subst h; exact absurd rfl h0
        · exact h
      obtain rfl := hsp hpos
      have hb : b < W.heap.size := by have := World.block_lt_of_cell? _ _ (hq 0 (by omega)).c0; simpa [Addr.add] using this
      refine ⟨b, off, by omega, rfl, fun i hi => ?_⟩
      have hi' : i < len := by simpa using hi
      have k := hq i (by omega)
      have k0 := k.c0
      have k1 := k.c1
      have k2 := k.c2
      rw [add_plain] at k0 k1 k2
      rw [← Nat.add_assoc] at k1 k2
      simp only [List.getElem_map, List.getElem_range]
      exact ⟨_, _, k0, k1, k2, k.old, hwi i hi'⟩
    · intro s hs
      obtain ⟨i, hi, rfl⟩ := List.mem_map.1 hs
      exact hwi i (List.mem_range.1 hi)
end
end Go.Proofs.Ytpnacppmdlnjlaa

import Derived.Test.YtkpkiajehclbhaaRows
import Derived.Test.YtkpkiajehclbhaaLzOp
import Derived.Test.YtkpkiajehclbhaaBiA
namespace Go.Proofs.Ytkpkiajehclbhaa
open Go.ChangeShapes Go.WideShapes Go.ChangeAt Go.RowKit Go.Deep
set_option linter.unusedVariables false
/-- A call that came in. -/
structure Opn where
  kind : Int
  n : Int
  v : Nat
  b : List By
instance : Inhabited Opn := ⟨⟨0, 0, 0, []⟩⟩
/-- One call in memory. -/
structure OpC (w : World) (g o : Nat) (i : Nat) (t : Opn) : Prop where
  nlo : -9223372036854775808 ≤ t.n
  nhi : t.n < 9223372036854775808
  vhi : t.v < 4294967296
  c0 : w.cell? ⟨g, o + i * 4, none⟩ = some (.int .i64 t.kind)
  c1 : w.cell? ⟨g, o + i * 4 + 1, none⟩ = some (.int .i64 t.n)
  c2 : w.cell? ⟨g, o + i * 4 + 2, none⟩ = some (.int .u32 t.v)
  c3 : ∃ ba bc, w.cell? ⟨g, o + i * 4 + 3, none⟩ = some (.slice ba t.b.length bc) ∧ Old w (.slice ba t.b.length bc) t.b
theorem OpC.nw {w w' : World} {g o i : Nat} {t : Opn} (h : OpC w g o i t) (f : Nw w w') : OpC w' g o i t := by
  obtain ⟨ba, bc, h1, h2⟩ := h.c3
  exact ⟨h.nlo, h.nhi, h.vhi, f.cell h.c0, f.cell h.c1, f.cell h.c2, ba, bc, f.cell h1, h2.later f⟩
/-- The calls that came in, in memory. -/
def OldO (w : World) (v : Value) (l : List Opn) : Prop := ∃ a c, v = .slice a l.length c ∧ l.length ≤ c ∧ c < 9223372036854775808 ∧ (l ≠ [] → ∃ g o, a = some ⟨g, o, none⟩ ∧ g < w.heap.size ∧ ∀ (i : Nat) (t : Opn), l[i]? = some t → OpC w g o i t)
theorem OldO.nw {w w' : World} {v : Value} {l : List Opn} (h : OldO w v l) (f : Nw w w') : OldO w' v l := by
  obtain ⟨a, c, h1, h2, h3, h4⟩ := h
  refine ⟨a, c, h1, h2, h3, fun hl => ?_⟩
  obtain ⟨g, o, e, hg, hc⟩ := h4 hl
  exact ⟨g, o, e, Nat.lt_of_lt_of_le hg f.size, fun i t hi => (hc i t hi).nw f⟩
theorem OldO.at {w : World} {a : Option Addr} {M c : Nat} {l : List Opn} (h : OldO w (.slice a M c) l) (I : Nat) (hI : I < M) : ∃ g o t, a = some ⟨g, o, none⟩ ∧ l[I]? = some t ∧ t ∈ l ∧ OpC w g o I t := by
  obtain ⟨a2, c2, e2, _, _, hcs⟩ := h
  injection e2 with e2 e3 _
  have hl0 : l ≠ [] := fun e => by rw [e] at e3; simp at e3; omega
  obtain ⟨go, oo, e, hgo, hop⟩ := hcs hl0
  have hi : l[I]? = some (l[I]'(by omega)) := List.getElem?_eq_getElem _
  exact ⟨go, oo, _, e2.trans e, hi, List.getElem_mem _, hop I _ hi⟩
/-- What the calls bring. -/
def wgt : List Opn → Nat
  | [] => 0
  | t :: r => (t.b.length + 1) + wgt r
theorem wgt_take (l : List Opn) (i : Nat) (t : Opn) (h : l[i]? = some t) : wgt (l.take (i + 1)) = wgt (l.take i) + (t.b.length + 1) := by
  induction l generalizing i with
  | nil => simp at h
  | cons x r ih =>
    cases i with
    | zero => simp at h; subst h; simp [wgt]
    | succ i =>
      simp at h
      simp only [List.take_succ_cons, wgt, ih i h]
      omega
theorem wgt_le (l : List Opn) (i : Nat) : wgt (l.take i) ≤ wgt l := by
  induction l generalizing i with
  | nil => simp [wgt]
  | cons x r ih =>
    cases i with
    | zero => simp [wgt]
    | succ i => simp only [List.take_succ_cons, wgt]; have := ih i; omega
theorem wgt_len (l : List Opn) : l.length ≤ wgt l := by
  induction l with
  | nil => simp [wgt]
  | cons x r ih => simp only [List.length_cons, wgt]; omega
namespace bitsOp
theorem cells3 : Try.prog.cellsOf 3 = 1 := by kernel_rfl
theorem cells32 : Try.prog.cellsOf 32 = 1 := by kernel_rfl
theorem cellsB : Try.prog.cellsOf 22 = 1 := by kernel_rfl
theorem cellsOp : Try.prog.cellsOf 34 = 4 := by kernel_rfl
theorem bulk_pos {H : Type} (d : DataW H) : 1 ≤ Rows.uptoBulk d := by
  cases d with
  | lit v => cases v <;> simp [Rows.uptoBulk]
  | _ => simp [Rows.uptoBulk]
theorem bulk_length {H : Type} (l : List (DataW H)) : l.length ≤ Rows.uptoBulkAll l := by
  induction l with
  | nil => simp [Rows.uptoBulkAll]
  | cons x r ih => have := bulk_pos x; simp only [Rows.uptoBulkAll, List.length_cons]; omega
theorem wgt_bulk {H : Type} (xs : List Nat) (f : Nat → Opn) (D : Nat → DataW H) (h : ∀ x ∈ xs, (f x).b.length + 1 ≤ Rows.uptoBulk (D x)) : wgt (xs.map f) ≤ Rows.uptoBulkAll (xs.map D) := by
  induction xs with
  | nil => simp [wgt, Rows.uptoBulkAll]
  | cons x r ih =>
    have h1 := h x (by simp)
    have h2 := ih (fun y hy => h y (by simp [hy]))
    simp only [List.map_cons, wgt, Rows.uptoBulkAll]
    omega
theorem int_of {n : Int} (h : (Lit.int .i64 n).wf = true) : -9223372036854775808 ≤ n ∧ n < 9223372036854775808 := by
  simp [Lit.wf, IntKind.bits, IntKind.signed, IntKind.min, IntKind.max] at h
  omega
theorem u32_of {n : Int} (h : (Lit.int .u32 n).wf = true) : 0 ≤ n ∧ n < 4294967296 := by
  simp [Lit.wf, IntKind.bits, IntKind.signed, IntKind.min, IntKind.max] at h
  omega
section
variable {H : Type} {enc : TypeId × Value → H} {W : World}
theorem fourL {α : Type} (xs : List α) (h : xs.length = 4) : ∃ u0 u1 u2 u3, xs = [u0, u1, u2, u3] := by
  match xs, h with
  | [u0, u1, u2, u3], _ => exact ⟨u0, u1, u2, u3, rfl⟩
/-- One call that came in. -/
structure ElO (W : World) (a : Addr) (i : Nat) (D : DataW H) (q : Option Addr × Nat × Opn) : Prop where
  nlo : -9223372036854775808 ≤ q.2.2.n
  nhi : q.2.2.n < 9223372036854775808
  vhi : q.2.2.v < 4294967296
  c0 : W.cell? (a.add (i * 4)) = some (.int .i64 q.2.2.kind)
  c1 : W.cell? (a.add (i * 4 + 1)) = some (.int .i64 q.2.2.n)
  c2 : W.cell? (a.add (i * 4 + 2)) = some (.int .u32 q.2.2.v)
  c3 : W.cell? (a.add (i * 4 + 3)) = some (.slice q.1 q.2.2.b.length q.2.1)
  old : Old W (.slice q.1 q.2.2.b.length q.2.1) q.2.2.b
  wt : q.2.2.b.length + 1 ≤ Rows.uptoBulk D
theorem elemO {n i : Nat} {a : Addr} {cs' : List Value} {D : DataW H} {Pl : List MemPlace} (h1 : W.cells? 0 (a.add (i * 4)) 4 = some cs') (h2 : DataW.trod enc Try.prog W 0 (fun _ => true) true n 34 cs' = some (D, Pl)) : ∃ q, ElO W a i D q := by
  obtain ⟨_, hlen, hcell⟩ := World.cells?_some h1
  obtain ⟨xs, k, hk, hxy, _, hxl, hf⟩ := DataW.trod_struct Try.underlying34 h2
  obtain ⟨v0, v1, v2, v3, rfl⟩ := fourL cs' hlen
  obtain ⟨y0, y1, y2, y3, rfl⟩ := fourL xs hxl
  have g0 := hf 0 _ rfl
  have g1 := hf 1 _ rfl
  have g2 := hf 2 _ rfl
  have g3 := hf 3 _ rfl
  simp [cells3, cells32, cellsB] at g0 g1 g2 g3
  have e0 := hcell 0 (by omega)
  have e1 := hcell 1 (by omega)
  have e2 := hcell 2 (by omega)
  have e3 := hcell 3 (by omega)
  rw [add_add] at e0 e1 e2 e3
  obtain ⟨n0, hn0, _, _⟩ := DataW.trod_int Try.underlying3 g0
  obtain ⟨n1, hn1, _, hw1⟩ := DataW.trod_int Try.underlying3 g1
  obtain ⟨n2, hn2, _, hw2⟩ := DataW.trod_int Try.underlying32 g2
  obtain rfl : v0 = .int .i64 n0 := by simpa using hn0
  obtain rfl : v1 = .int .i64 n1 := by simpa using hn1
  obtain rfl : v2 = .int .u32 n2 := by simpa using hn2
  have hi1 := int_of hw1
  have hi2 := u32_of hw2
  obtain ⟨m2, rfl⟩ : ∃ m : Nat, n2 = m := ⟨n2.toNat, by omega⟩
  obtain ⟨xa, xl, xc, rfl⟩ : ∃ xa xl xc, v3 = .slice xa xl xc := by
    rcases open_ints (k := .u8) Try.underlying22 Try.underlying5 cells5 g3 with ⟨hcs, _⟩ | ⟨x, l, c, zs, hcs, _⟩
    · exact ⟨none, 0, 0, by simpa using hcs⟩
    · exact ⟨some x, l, c, by simpa using hcs⟩
  obtain ⟨y31, y32⟩ := y3
  obtain ⟨l, hO, hll, hd⟩ := openedB (enc := enc) (W := W) (a := xa) (len := xl) (cap := xc) (d := y31) (p := y32) ⟨k, by simpa [Value.cells] using g3⟩
  subst hll
  simp only [Prod.mk.injEq] at hxy
  refine ⟨(xa, xc, ⟨n0, n1, m2, l⟩), hi1.1, hi1.2, by have := hi2.2; show m2 < 4294967296; omega, by simpa using e0, by simpa using e1, by simpa using e2, by simpa using e3, hO, ?_⟩
  rw [hxy.1]
  simp only [List.map_cons, List.map_nil, Rows.uptoBulk, Rows.uptoBulkAll]
  have b0 := bulk_pos y0.1
  have b3 := bulk_pos y31
  rcases hd with hd | ⟨es, sp, rfl, he⟩
  · omega
  · have := bulk_length es
    simp only [Rows.uptoBulk]
    omega
/-- A list of calls that came in. -/
theorem openedO {a : Option Addr} {len cap : Nat} {d : DataW H} {p : List MemPlace} (h : DataW.Trod enc Try.prog W 0 (fun _ => true) true 23 (.slice a len cap) d p) :
    ∃ l : List Opn, l.length = len ∧ OldO W (.slice a len cap) l ∧ wgt l ≤ Rows.uptoBulk d := by
  obtain ⟨fuel, hf⟩ := h
  rcases open_slice Try.underlying23 hf with ⟨hcs, _⟩ | ⟨x, l, c, m, n, D, Pl, hcs, _, hl, hm, hmm, hd, hx⟩
  · simp [Value.cells] at hcs
    obtain ⟨rfl, rfl, rfl⟩ := hcs
    exact ⟨[], rfl, ⟨none, 0, rfl, by simp, by decide, fun h => absurd rfl h⟩, by simp [wgt]⟩
  · simp [Value.cells] at hcs
    obtain ⟨rfl, rfl, rfl⟩ := hcs
    simp only [if_true] at hmm
    rw [cellsOp] at hx
    have hdd := (Prod.ext_iff.1 hd).1
    simp only at hdd
    obtain ⟨q, hq⟩ := choose_lt (α := Option Addr × Nat × Opn) (p := fun i q => ElO W x i (D i) q) (n := m) (fun i hi => by
      obtain ⟨cs', h1, h2⟩ := hx i hi
      exact elemO h1 h2)
    obtain ⟨b, off, spot⟩ := x
    have hsp : 0 < len → spot = none := by
      intro h0
      simpa [Addr.add] using World.cell?_spot (hq 0 (by omega)).c0
    refine ⟨(List.range len).map (fun i => (q i).2.2), by simp, ⟨some ⟨b, off, spot⟩, cap, by simp, by simpa using hl, by unfold maxLen at hm; omega, fun h0 => ?_⟩, ?_⟩
    · have hpos : 0 < len := by
        rcases Nat.eq_zero_or_pos len with h | h
        · subst h; exact absurd rfl h0
        · exact h
      obtain rfl := hsp hpos
      have hb : b < W.heap.size := by have := World.block_lt_of_cell? _ _ (hq 0 (by omega)).c0; simpa [Addr.add] using this
      refine ⟨b, off, rfl, hb, fun i t hi => ?_⟩
      obtain ⟨hil, rfl⟩ := List.getElem?_eq_some_iff.1 hi
      have hi' : i < len := by simpa using hil
      have k := hq i (by omega)
      have k0 := k.c0
      have k1 := k.c1
      have k2 := k.c2
      have k3 := k.c3
      rw [add_plain] at k0 k1 k2 k3
      rw [← Nat.add_assoc] at k1 k2 k3
      simp only [List.getElem_map, List.getElem_range]
      exact ⟨k.nlo, k.nhi, k.vhi, k0, k1, k2, _, _, k3, k.old⟩
    · have := wgt_bulk (List.range len) (fun i => (q i).2.2) D (fun i hi => (hq i (by have := List.mem_range.1 hi; omega)).wt)
      rw [hdd]
      simp only [Rows.uptoBulk]
      omega
end
end bitsOp
end Go.Proofs.Ytkpkiajehclbhaa

import Derived.Test.YtlfcgldbgejfbaaRows
import Derived.Test.YtlfcgldbgejfbaaPiP
namespace Go.Proofs.Ytlfcgldbgejfbaa
namespace xxhDigests
open Go.ChangeShapes Go.WideShapes Go.ChangeAt Go.RowKit Go.Deep
open xxhPieces (bulk_pos bulk_length bulk_app bulk_cat bys rowB cells24)
set_option linter.unusedVariables false
theorem cells3 : Try.prog.cellsOf 3 = 1 := by kernel_rfl
theorem cells38 : Try.prog.cellsOf 38 = 3 := by kernel_rfl
section
variable {H : Type} {enc : TypeId × Value → H} {W : World}
/-- Bytes in a cell. -/
theorem elemB {fuel : Nat} {v : Value} {y : DataW H × List MemPlace} (hf : DataW.trod enc Try.prog W 0 (fun _ => true) true fuel 24 [v] = some y) :
    ∃ (xa : Option Addr) (xc : Nat) (l : List By), v = .slice xa l.length xc ∧ Old W v l ∧ l.length ≤ Rows.uptoBulk y.1 := by
  rcases open_ints (k := .u8) Try.underlying24 Try.underlying5 cells5 hf with ⟨hcs, _⟩ | ⟨x, l, c, zs, hcs, _, hl, hm, hz, hd, hc, hw⟩
  · obtain rfl : v = .slice none 0 0 := by simpa using hcs
    exact ⟨none, 0, [], rfl, .inl ⟨none, rfl, rfl⟩, Nat.zero_le _⟩
  · obtain rfl : v = .slice (some x) l c := by simpa using hcs
    simp only [if_true] at hz
    obtain ⟨h1, h2⟩ := rowB (W := W) (A := some x) (L := l) (C := c) (Z := zs) hl hm hz hw (fun h => by cases h) (fun a' ha => by
      cases ha
      exact ⟨Nat.zero_le _, fun j hj => hc j (by omega)⟩)
    refine ⟨some x, c, bys zs l, by rw [h2], h1, ?_⟩
    rw [h2, hd]
    have := bulk_length (H := H) (lits .u8 (zs.take l))
    simp only [lits, List.length_map, List.length_take] at this
    simp only [Rows.uptoBulk, lits]
    omega
structure El (W : World) (a : Addr) (i : Nat) (D : DataW H) (q : Int × Int × Option Addr × Nat × List By) : Prop where
  c0 : W.cell? (a.add (i * 3)) = some (.int .i64 q.1)
  c1 : W.cell? (a.add (i * 3 + 1)) = some (.int .i64 q.2.1)
  c2 : W.cell? (a.add (i * 3 + 2)) = some (.slice q.2.2.1 q.2.2.2.2.length q.2.2.2.1)
  wf : -9223372036854775808 ≤ q.2.1 ∧ q.2.1 ≤ 9223372036854775807
  old : Old W (.slice q.2.2.1 q.2.2.2.2.length q.2.2.2.1) q.2.2.2.2
  bulk : q.2.2.2.2.length ≤ Rows.uptoBulk D
theorem elem {n i : Nat} {a : Addr} {cs' : List Value} {D : DataW H} {Pl : List MemPlace} (h1 : W.cells? 0 (a.add (i * 3)) 3 = some cs') (h2 : DataW.trod enc Try.prog W 0 (fun _ => true) true n 38 cs' = some (D, Pl)) : ∃ q, El W a i D q := by
  obtain ⟨_, hlen, hcell⟩ := World.cells?_some h1
  obtain ⟨xs, k, hk, hxy, _, hxl, hf⟩ := DataW.trod_struct Try.underlying38 h2
  match xs, hxl, cs', hlen with
  | [y0, y1, y2], _, [v0, v1, v2], _ =>
    have g0 := hf 0 _ rfl
    have g1 := hf 1 _ rfl
    have g2 := hf 2 _ rfl
    simp [cells3, cells24] at g0 g1 g2
    have e0 := hcell 0 (by omega)
    have e1 := hcell 1 (by omega)
    have e2 := hcell 2 (by omega)
    rw [add_add] at e0 e1 e2
    simp only [Prod.mk.injEq] at hxy
    obtain ⟨n0, hn0, _, _⟩ := DataW.trod_int Try.underlying3 g0
    obtain ⟨n1, hn1, _, w1⟩ := DataW.trod_int Try.underlying3 g1
    obtain rfl : v0 = .int .i64 n0 := by simpa using hn0
    obtain rfl : v1 = .int .i64 n1 := by simpa using hn1
    obtain ⟨xa, xc, l, rfl, hO, hB⟩ := elemB g2
    refine ⟨(n0, n1, xa, xc, l), by simpa using e0, by simpa using e1, by simpa using e2, ?_, hO, ?_⟩
    · simp [Lit.wf, IntKind.bits, IntKind.signed, IntKind.min, IntKind.max] at w1
      show _ ≤ n1 ∧ n1 ≤ _
      omega
    · rw [hxy.1]
      simp only [List.map_cons, List.map_nil, Rows.uptoBulk, Rows.uptoBulkAll]
      show l.length ≤ _
      omega
/-- The script that came in. -/
theorem openedO {a : Option Addr} {len cap : Nat} {d : DataW H} {p : List MemPlace} (h : DataW.Trod enc Try.prog W 0 (fun _ => true) true 28 (.slice a len cap) d p) :
    ∃ (g o : Nat) (K N : Nat → Int) (aP : Nat → Option Addr) (cP : Nat → Nat) (P : Nat → List By), (0 < len → a = some ⟨g, o, none⟩) ∧
      (∀ i, i < len → ∀ V, Nw W V → V.cell? ⟨g, o + i * 3, none⟩ = some (.int .i64 (K i)) ∧ V.cell? ⟨g, o + i * 3 + 1, none⟩ = some (.int .i64 (N i)) ∧ V.cell? ⟨g, o + i * 3 + 2, none⟩ = some (.slice (aP i) (P i).length (cP i))) ∧
      (∀ i, i < len → Old W (.slice (aP i) (P i).length (cP i)) (P i)) ∧ (∀ i, i < len → -9223372036854775808 ≤ N i ∧ N i ≤ 9223372036854775807) ∧ len ≤ Rows.uptoBulk d ∧ (cat P len).length ≤ Rows.uptoBulk d := by
  obtain ⟨fuel, hf⟩ := h
  rcases open_slice Try.underlying28 hf with ⟨hcs, _⟩ | ⟨x, l, c, m, n, D, Pl, hcs, _, hl, hm, hmm, hd, hx⟩
  · simp [Value.cells] at hcs
    obtain ⟨rfl, rfl, rfl⟩ := hcs
    exact ⟨0, 0, fun _ => 0, fun _ => 0, fun _ => none, fun _ => 0, fun _ => [], fun h => by omega, fun i hi => by omega, fun i hi => by omega, fun i hi => by omega, by omega, by simp [cat]⟩
  · simp [Value.cells] at hcs
    obtain ⟨rfl, rfl, rfl⟩ := hcs
    simp only [if_true] at hmm
    rw [cells38] at hx
    obtain ⟨q, hq⟩ := choose_lt (α := Int × Int × Option Addr × Nat × List By) (p := fun i q => El W x i (D i) q) (n := m) (fun i hi => by
      obtain ⟨cs', h1, h2⟩ := hx i hi
      exact elem h1 h2)
    obtain ⟨b, off, spot⟩ := x
    have hsp : 0 < len → spot = none := by
      intro h0
      simpa [Addr.add] using World.cell?_spot (hq 0 (by omega)).c0
    have hdd := (Prod.ext_iff.1 hd).1
    simp only at hdd
    refine ⟨b, off, fun i => (q i).1, fun i => (q i).2.1, fun i => (q i).2.2.1, fun i => (q i).2.2.2.1, fun i => (q i).2.2.2.2, fun h => by rw [hsp h], ?_, fun i hi => (hq i (by omega)).old, fun i hi => (hq i (by omega)).wf, ?_, ?_⟩
    · intro i hi V hV
      have h0 := (hq i (by omega)).c0
      have h1 := (hq i (by omega)).c1
      have h2 := (hq i (by omega)).c2
      rw [hsp (by omega), add_plain] at h0 h1 h2
      rw [← Nat.add_assoc] at h1 h2
      exact ⟨hV.cell h0, hV.cell h1, hV.cell h2⟩
    · rw [hdd]
      have := bulk_length (H := H) ((List.range len).map D)
      simp only [List.length_map, List.length_range] at this
      simp only [Rows.uptoBulk]
      omega
    · rw [hdd]
      have := bulk_cat (H := H) (fun i => (q i).2.2.2.2) D len (fun r hr => (hq r (by omega)).bulk)
      simp only [Rows.uptoBulk]
      omega
end
end xxhDigests
end Go.Proofs.Ytlfcgldbgejfbaa

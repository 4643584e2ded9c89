import Derived.Test.YtcogkhcfpgelhabGreatLzB
import Derived.WalkKit
import Derived.ProofKit
import Derived.OpenShut
import Derived.ChangeOld
import Derived.Below
import Derived.ChangeSlices
import Derived.Deep.SlicePairs
import Derived.SizedLaws
import Derived.Test.YtcogkhcfpgelhabGreatRows
import Derived.Test.YtcogkhcfpgelhabGreatWxat
import Derived.Test.YtcogkhcfpgelhabGreatVlMq
namespace Go.Proofs.YtcogkhcfpgelhabGreat
open Go.ChangeShapes Go.WideShapes Go.ChangeAt Go.RowKit Go.Deep
set_option linter.unusedVariables false
theorem cells5 : Tryz.prog.cellsOf 5 = 1 := by kernel_rfl
theorem bytes5 : Tryz.prog.bytesOf 5 = 1 := by kernel_rfl
theorem own : ownKnob Tryz.prog.godebug = none := by kernel_rfl
theorem laidOut : laidOutB Tryz.prog = true := by kernel_rfl
theorem byte_of {n : Int} (h : (Lit.int .u8 n).wf = true) : (.int .u8 n : Value) = .int .u8 (BitVec.ofNat 8 n.toNat).toNat := by
  have hb : 0 ≤ n ∧ n < 256 := by
    simp [Lit.wf, IntKind.bits, IntKind.signed, IntKind.min, IntKind.max] at h
    omega
  congr 1
  rw [BitVec.toNat_ofNat]; omega
/-- A slice of bytes that came in. -/
theorem openedB {H : Type} {enc : TypeId × Value → H} {W : World} {a : Option Addr} {len cap : Nat} {d : DataW H} {p : List MemPlace} (h : DataW.Trod enc Tryz.prog W 0 (fun _ => true) true 38 (.slice a len cap) d p) :
    ∃ l : List By, Sl (fun k => W.heap.size ≤ k) (.slice a len cap) l W ∧ l.length = len ∧ (len = 0 ∨ ∃ e s, d = .slice e s ∧ e.length = len) := by
  obtain ⟨fuel, hf⟩ := h
  rcases open_ints (k := .u8) Tryz.underlying38 Tryz.underlying5 cells5 hf with ⟨hcs, _⟩ | ⟨x, l, c, zs, hcs, _, hl, hm, hz, hd, hc, hw⟩
  · simp [Value.cells] at hcs
    obtain ⟨rfl, rfl, rfl⟩ := hcs
    exact ⟨[], .inl ⟨none, rfl, rfl⟩, rfl, .inl rfl⟩
  · simp [Value.cells] at hcs
    obtain ⟨rfl, rfl, rfl⟩ := hcs
    simp only [if_true] at hz
    have hlen : ((zs.take len).map (fun n => BitVec.ofNat 8 n.toNat)).length = len := by simp; omega
    refine ⟨(zs.take len).map (fun n => BitVec.ofNat 8 n.toNat), ?_, hlen, .inr ⟨_, _, (Prod.ext_iff.1 hd).1, by simp [lits]; omega⟩⟩
    by_cases h0 : cap = 0
    · subst h0
      obtain rfl : len = 0 := by omega
      exact .inl ⟨_, rfl, by simp⟩
    · obtain ⟨b, off, spot⟩ := x
      have hc0 := hc 0 (by omega)
      have hspot : spot = none := by simpa [Addr.add] using World.cell?_spot hc0
      subst hspot
      have hb : b < W.heap.size := by have := World.block_lt_of_cell? _ _ hc0; simpa [Addr.add] using this
      refine .inr ⟨b, by omega, off, cap, by rw [hlen], by rw [hlen]; exact hl, by unfold maxLen at hm; omega, ?_⟩
      intro j hj
      rw [hlen] at hj
      have hcj := hc j (by omega)
      rw [add_plain] at hcj
      rw [hcj]
      simp only [List.getElem_map, List.getElem_take]
      have hmem : zs.getD j 0 ∈ zs := by
        rw [List.getD_eq_getElem?_getD, List.getElem?_eq_getElem (show j < zs.length by omega)]; simp
      rw [byte_of (hw _ hmem)]
      simp [List.getD_eq_getElem?_getD, List.getElem?_eq_getElem (show j < zs.length by omega)]
end Go.Proofs.YtcogkhcfpgelhabGreat

namespace Go.Proofs.YtcogkhcfpgelhabGreat
set_option linter.unusedVariables false
theorem bulk_pos {H : Type} (d : DataW H) : 1 ≤ Rows.uptoBulk d := by
  cases d with
  | lit v => cases v <;> simp [Rows.uptoBulk]
  | _ => simp [Rows.uptoBulk]
theorem bulk_length {H : Type} (l : List (DataW H)) : l.length ≤ Rows.uptoBulkAll l := by
  induction l with
  | nil => simp [Rows.uptoBulkAll]
  | cons x r ih => have := bulk_pos x; simp only [Rows.uptoBulkAll, List.length_cons]; omega
end Go.Proofs.YtcogkhcfpgelhabGreat

namespace Go.Proofs.YtcogkhcfpgelhabGreat
open Go.ChangeShapes Go.WideShapes Go.ChangeAt Go.RowKit Go.Deep
set_option linter.unusedVariables false
set_option maxRecDepth 100000
namespace vfsOp
theorem cells3 : Tryz.prog.cellsOf 3 = 1 := by kernel_rfl
theorem cells2 : Tryz.prog.cellsOf 2 = 1 := by kernel_rfl
theorem cells4 : Tryz.prog.cellsOf 4 = 1 := by kernel_rfl
theorem cells9 : Tryz.prog.cellsOf 9 = 1 := by kernel_rfl
theorem cellsU : Tryz.prog.cellsOf 35 = 1 := by kernel_rfl
theorem cellsI : Tryz.prog.cellsOf 21 = 1 := by kernel_rfl
theorem cellsB : Tryz.prog.cellsOf 38 = 1 := by kernel_rfl
theorem cellsNm : Tryz.prog.cellsOf 57 = 2 := by kernel_rfl
theorem cellsNms : Tryz.prog.cellsOf 42 = 1 := by kernel_rfl
theorem cellsNs : Tryz.prog.cellsOf 22 = 1 := by kernel_rfl
theorem cellsN : Tryz.prog.cellsOf 44 = 10 := by kernel_rfl
theorem cellsM : Tryz.prog.cellsOf 37 = 5 := by kernel_rfl
theorem cellsIm : Tryz.prog.cellsOf 24 = 4 := by kernel_rfl
theorem cellsOp : Tryz.prog.cellsOf 40 = 20 := by kernel_rfl
section
variable {H : Type} {enc : TypeId × Value → H} {W : World} {α : Type}
theorem bulk_sum (f : α → Nat) (xs : List Nat) (F : Nat → α) (D : Nat → DataW H) (h : ∀ x ∈ xs, f (F x) ≤ Rows.uptoBulk (D x)) : ((xs.map F).map f).sum ≤ Rows.uptoBulkAll (xs.map D) := by
  induction xs with
  | nil => simp [Rows.uptoBulkAll]
  | cons x r ih =>
    have h1 := h x (by simp)
    have h2 := ih (fun y hy => h y (by simp [hy]))
    simp only [List.map_cons, List.sum_cons, Rows.uptoBulkAll]
    omega
/-- A list that came in, where an element that came in is known. -/
theorem openedR [Inhabited α] (R : RT α) (hund : Tryz.prog.underlying R.TS = some (.slice R.T)) (hcell : Tryz.prog.cellsOf R.T = R.k) (hk : 0 < R.k) (hlen : ∀ x, (R.enc x).length = R.k) (Q : α → Prop) (f : α → Nat)
    (elem : ∀ (n : Nat) (a' : Addr) (cs' : List Value) (D : DataW H) (Pl : List MemPlace), W.cells? 0 a' R.k = some cs' → DataW.trod enc Tryz.prog W 0 (fun _ => true) true n R.T cs' = some (D, Pl) → ∃ x, (∀ j u, (R.enc x)[j]? = some u → W.cell? (a'.add j) = some u) ∧ Q x ∧ f x ≤ Rows.uptoBulk D)
    {a : Option Addr} {len cap : Nat} {d : DataW H} {p : List MemPlace} (h : DataW.Trod enc Tryz.prog W 0 (fun _ => true) true R.TS (.slice a len cap) d p) :
    ∃ l : List α, l.length = len ∧ SlR R (fun _ => False) (.slice a len cap) l W ∧ (∀ x ∈ l, Q x) ∧ (l.map f).sum + 1 ≤ Rows.uptoBulk d := by
  obtain ⟨fuel, hf⟩ := h
  rcases open_slice hund hf with ⟨hcs, _⟩ | ⟨x, l, c, m, n, D, Pl, hcs, _, hl, hm, hmm, hd, hx⟩
  · simp [Value.cells] at hcs
    obtain ⟨rfl, rfl, rfl⟩ := hcs
    exact ⟨[], rfl, .inl ⟨none, rfl, rfl⟩, (fun x hx => by cases hx), by have := bulk_pos d; simpa using this⟩
  · simp [Value.cells] at hcs
    obtain ⟨rfl, rfl, rfl⟩ := hcs
    simp only [if_true] at hmm
    rw [hcell] at hx
    have hdd := (Prod.ext_iff.1 hd).1
    simp only at hdd
    obtain ⟨q, hq⟩ := choose_lt (α := α) (p := fun i q => (∀ j u, (R.enc q)[j]? = some u → W.cell? ((x.add (i * R.k)).add j) = some u) ∧ Q q ∧ f q ≤ Rows.uptoBulk (D i)) (n := m) (fun i hi => by
      obtain ⟨cs', h1, h2⟩ := hx i hi
      exact elem n _ cs' _ _ h1 h2)
    obtain ⟨b, off, spot⟩ := x
    have hsp : 0 < len → spot = none := by
      intro h0
      obtain ⟨u, hu⟩ : ∃ u, (R.enc (q 0))[0]? = some u := ⟨_, List.getElem?_eq_getElem (by rw [hlen]; exact hk)⟩
      have := (hq 0 (by omega)).1 0 u hu
      simpa [Addr.add] using World.cell?_spot this
    refine ⟨(List.range len).map q, by simp, ?_, fun x hx => ?_, ?_⟩
    · rcases Nat.eq_zero_or_pos len with h0 | h0
      · subst h0
        by_cases hc0 : cap = 0
        · subst hc0; exact .inl ⟨_, rfl, rfl⟩
        · have hs : spot = none := by
            obtain ⟨u, hu⟩ : ∃ u, (R.enc (q 0))[0]? = some u := ⟨_, List.getElem?_eq_getElem (by rw [hlen]; exact hk)⟩
            have := (hq 0 (by omega)).1 0 u hu
            simpa [Addr.add] using World.cell?_spot this
          subst hs
          exact .inr ⟨b, off, cap, fun h => h, by simp, by simp, by unfold maxLen at hm; omega, fun i x j u hx => by simp at hx⟩
      · obtain rfl := hsp h0
        refine .inr ⟨b, off, cap, fun h => h, by simp, by simpa using hl, by unfold maxLen at hm; omega, fun i x j u hi hu => ?_⟩
        obtain ⟨hil, rfl⟩ := List.getElem?_eq_some_iff.1 hi
        have hi' : i < len := by simpa using hil
        simp only [List.getElem_map, List.getElem_range] at hu
        have := (hq i (by omega)).1 j u hu
        rw [add_plain, add_plain] at this
        exact this
    · obtain ⟨i, hi, rfl⟩ := List.mem_map.1 hx
      exact (hq i (by have := List.mem_range.1 hi; omega)).2.1
    · have := bulk_sum f (List.range len) q D (fun i hi => (hq i (by have := List.mem_range.1 hi; omega)).2.2)
      rw [hdd]
      simp only [Rows.uptoBulk]
      omega
theorem i64_wf {n : Int} (h : (Lit.int .i64 n).wf = true) : I64 n := by
  simp [Lit.wf, IntKind.bits, IntKind.signed, IntKind.min, IntKind.max] at h
  unfold I64; omega
theorem u32_wf {n : Int} (h : (Lit.int .u32 n).wf = true) : ∃ k : Nat, n = (k : Int) := by
  simp [Lit.wf, IntKind.bits, IntKind.signed, IntKind.min, IntKind.max] at h
  exact ⟨n.toNat, by omega⟩
theorem twoL {β : Type} (xs : List β) (h : xs.length = 2) : ∃ a b, xs = [a, b] := by
  match xs, h with
  | [a, b], _ => exact ⟨a, b, rfl⟩
/-! ### Entries -/
def nmW (x : Tx × Int) : Nat := x.1.length + 3
theorem elemNm (n : Nat) (a' : Addr) (cs' : List Value) (D : DataW H) (Pl : List MemPlace) (h1 : W.cells? 0 a' 2 = some cs') (h2 : DataW.trod enc Tryz.prog W 0 (fun _ => true) true n 57 cs' = some (D, Pl)) : ∃ x : Tx × Int, (∀ j u, (RNm.enc x)[j]? = some u → W.cell? (a'.add j) = some u) ∧ I64 x.2 ∧ nmW x ≤ Rows.uptoBulk D := by
  obtain ⟨_, hlen, hcell⟩ := World.cells?_some h1
  obtain ⟨xs, k, hk, hxy, _, hxl, hf⟩ := DataW.trod_struct Tryz.underlying57 h2
  obtain ⟨v0, v1, rfl⟩ := twoL cs' hlen
  obtain ⟨y0, y1, rfl⟩ := twoL xs hxl
  have g0 := hf 0 _ rfl
  have g1 := hf 1 _ rfl
  simp [cells3, cells9] at g0 g1
  have e0 := hcell 0 (by omega)
  have e1 := hcell 1 (by omega)
  obtain ⟨s, hs, x0, _⟩ := DataW.trod_string Tryz.underlying9 g0
  obtain ⟨m, hm, x1, w1⟩ := DataW.trod_int Tryz.underlying3 g1
  obtain rfl : v0 = .string s := by simpa using hs
  obtain rfl : v1 = .int .i64 m := by simpa using hm
  refine ⟨(s.data.toList, m), fun j u hu => ?_, i64_wf w1, ?_⟩
  · match j with
    | 0 =>
      simp only [RNm, List.getElem?_cons_zero, Option.some.injEq] at hu
      rw [← hu]
      show W.cell? _ = some (.string s)
      simpa using e0
    | 1 =>
      simp only [RNm, List.getElem?_cons_succ, List.getElem?_cons_zero, Option.some.injEq] at hu
      rw [← hu]; simpa using e1
    | j + 2 => simp [RNm] at hu
  · simp only [Prod.mk.injEq] at hxy
    rw [hxy.1]
    simp only [List.map_cons, List.map_nil, Rows.uptoBulk, Rows.uptoBulkAll]
    rw [x0]
    have := bulk_pos y1.1
    simp only [Rows.uptoBulk, nmW]
    omega
instance : Inhabited (Tx × Int) := ⟨([], 0)⟩
theorem openedNm {a : Option Addr} {len cap : Nat} {d : DataW H} {p : List MemPlace} (h : DataW.Trod enc Tryz.prog W 0 (fun _ => true) true 42 (.slice a len cap) d p) :
    ∃ l : List (Tx × Int), l.length = len ∧ SlR RNm (fun _ => False) (.slice a len cap) l W ∧ (∀ x ∈ l, I64 x.2) ∧ (l.map nmW).sum + 1 ≤ Rows.uptoBulk d :=
  openedR RNm rnmOk.und cellsNm rnmOk.kp rnmOk.len (fun x => I64 x.2) nmW (fun n a' cs' D Pl h1 h2 => elemNm n a' cs' D Pl h1 h2) h
/-! ### Metas -/
theorem fiveL {β : Type} (xs : List β) (h : xs.length = 5) : ∃ a b c d e, xs = [a, b, c, d, e] := by
  match xs, h with
  | [a, b, c, d, e], _ => exact ⟨a, b, c, d, e, rfl⟩
theorem openedMt {n : Nat} {v0 v1 v2 v3 v4 : Value} {y : DataW H × List MemPlace} (h : DataW.trod enc Tryz.prog W 0 (fun _ => true) true n 37 [v0, v1, v2, v3, v4] = some y) : ∃ m : Mt, v0 = .int .u32 m.mode ∧ v1 = .int .u32 m.uid ∧ v2 = .int .u32 m.gid ∧ v3 = .int .i64 m.time ∧ v4 = .int .i32 m.nano := by
  obtain ⟨xs, k, hk, hxy, _, hxl, hf⟩ := DataW.trod_struct Tryz.underlying37 h
  obtain ⟨y0, y1, y2, y3, y4, rfl⟩ := fiveL xs hxl
  have g0 := hf 0 _ rfl
  have g1 := hf 1 _ rfl
  have g2 := hf 2 _ rfl
  have g3 := hf 3 _ rfl
  have g4 := hf 4 _ rfl
  simp [cells2, cellsU, cellsI] at g0 g1 g2 g3 g4
  obtain ⟨m0, e0, _, w0⟩ := DataW.trod_int Tryz.underlying35 g0
  obtain ⟨m1, e1, _, w1⟩ := DataW.trod_int Tryz.underlying35 g1
  obtain ⟨m2, e2, _, w2⟩ := DataW.trod_int Tryz.underlying35 g2
  obtain ⟨m3, e3, _, w3⟩ := DataW.trod_int Tryz.underlying2 g3
  obtain ⟨m4, e4, _, w4⟩ := DataW.trod_int Tryz.underlying21 g4
  obtain ⟨k0, rfl⟩ := u32_wf w0
  obtain ⟨k1, rfl⟩ := u32_wf w1
  obtain ⟨k2, rfl⟩ := u32_wf w2
  exact ⟨⟨k0, k1, k2, m3, m4⟩, by simpa using e0, by simpa using e1, by simpa using e2, by simpa using e3, by simpa using e4⟩
/-! ### Inodes -/
theorem sliceOf {t e : TypeId} {n : Nat} {v : Value} {y : DataW H × List MemPlace} (ht : Tryz.prog.underlying t = some (.slice e)) (h : DataW.trod enc Tryz.prog W 0 (fun _ => true) true n t [v] = some y) : ∃ s : S3, v = .slice s.a s.n s.c := by
  rcases DataW.trod_slice ht h with ⟨e, _⟩ | ⟨a, l, c, _, _, _, _, e, _⟩
  · exact ⟨⟨none, 0, 0⟩, by simpa using e⟩
  · exact ⟨⟨some a, l, c⟩, by simpa using e⟩
theorem tenL {β : Type} (xs : List β) (h : xs.length = 10) : ∃ a b c d e f g i j k, xs = [a, b, c, d, e, f, g, i, j, k] := by
  match xs, h with
  | [a, b, c, d, e, f, g, i, j, k], _ => exact ⟨a, b, c, d, e, f, g, i, j, k, rfl⟩
theorem sixL {β : Type} (xs : List β) (h : xs.length = 6) : ∃ a b c d e f, xs = [a, b, c, d, e, f] := by
  match xs, h with
  | [a, b, c, d, e, f], _ => exact ⟨a, b, c, d, e, f, rfl⟩
def nqW (y : Nq) : Nat := y.x.data.length + y.x.tgt.length + (y.x.ents.map nmW).sum + 3
structure NqQ (W : World) (y : Nq) : Prop where
  r : NqR y W
  n64 : I64 y.x.num
  k64 : I64 y.x.kind
  e64 : ∀ e ∈ y.x.ents, I64 e.2
theorem enc_at {vs : List Value} {a' : Addr} (h : ∀ (j : Nat), j < vs.length → W.cell? (a'.add j) = vs[j]?) : ∀ j u, vs[j]? = some u → W.cell? (a'.add j) = some u := fun j u hu => by
  obtain ⟨hj, _⟩ := List.getElem?_eq_some_iff.1 hu
  rw [h j hj, hu]
theorem elemNq (n : Nat) (a' : Addr) (cs' : List Value) (D : DataW H) (Pl : List MemPlace) (h1 : W.cells? 0 a' 10 = some cs') (h2 : DataW.trod enc Tryz.prog W 0 (fun _ => true) true n 44 cs' = some (D, Pl)) : ∃ y : Nq, (∀ j u, (RNq.enc y)[j]? = some u → W.cell? (a'.add j) = some u) ∧ NqQ W y ∧ nqW y ≤ Rows.uptoBulk D := by
  obtain ⟨_, hlen, hcell⟩ := World.cells?_some h1
  obtain ⟨xs, k, hk, hxy, _, hxl, hf⟩ := DataW.trod_struct Tryz.underlying44 h2
  obtain ⟨v0, v1, v2, v3, v4, v5, v6, v7, v8, v9, rfl⟩ := tenL cs' hlen
  obtain ⟨y0, y1, y2, y3, y4, y5, rfl⟩ := sixL xs hxl
  have g0 := hf 0 _ rfl
  have g1 := hf 1 _ rfl
  have g2 := hf 2 _ rfl
  have g3 := hf 3 _ rfl
  have g4 := hf 4 _ rfl
  have g5 := hf 5 _ rfl
  simp [cells3, cells9, cellsM, cellsB, cellsNms] at g0 g1 g2 g3 g4 g5
  obtain ⟨m0, e0, _, w0⟩ := DataW.trod_int Tryz.underlying3 g0
  obtain ⟨m1, e1, _, w1⟩ := DataW.trod_int Tryz.underlying3 g1
  obtain ⟨mt, rfl, rfl, rfl, rfl, rfl⟩ := openedMt g2
  obtain ⟨s, e8, x4, _⟩ := DataW.trod_string Tryz.underlying9 g4
  obtain rfl : v0 = .int .i64 m0 := by simpa using e0
  obtain rfl : v1 = .int .i64 m1 := by simpa using e1
  obtain rfl : v8 = .string s := by simpa using e8
  obtain ⟨db, rfl⟩ := sliceOf Tryz.underlying38 g3
  obtain ⟨eb, rfl⟩ := sliceOf Tryz.underlying42 g5
  obtain ⟨dl, hD, hdl, hdd⟩ := openedB (enc := enc) (W := W) (d := y3.1) (p := y3.2) ⟨k, by simpa [Value.cells] using g3⟩
  obtain ⟨el, hel, hE, hE2, hE3⟩ := openedNm (enc := enc) (W := W) (d := y5.1) (p := y5.2) ⟨k, by simpa [Value.cells] using g5⟩
  refine ⟨⟨⟨m0, m1, mt, dl, s.data.toList, el⟩, db, eb⟩, enc_at (fun j hj => hcell j hj), ⟨⟨hD.mono (fun _ h => h.elim), hE⟩, i64_wf w0, i64_wf w1, hE2⟩, ?_⟩
  simp only [Prod.mk.injEq] at hxy
  rw [hxy.1]
  simp only [List.map_cons, List.map_nil, Rows.uptoBulk, Rows.uptoBulkAll]
  rw [x4]
  have b0 := bulk_pos y0.1
  have b1 := bulk_pos y1.1
  have b2 := bulk_pos y2.1
  have b3 := bulk_pos y3.1
  have hb3 : dl.length ≤ Rows.uptoBulk y3.1 := by
    rcases hdd with h | ⟨es, sp, e, he⟩
    · omega
    · rw [e]
      have := bulk_length es
      simp only [Rows.uptoBulk]
      omega
  simp only [Rows.uptoBulk, nqW]
  omega
instance : Inhabited Nq := ⟨⟨⟨0, 0, ⟨0, 0, 0, 0, 0⟩, [], [], []⟩, ⟨none, 0, 0⟩, ⟨none, 0, 0⟩⟩⟩
theorem openedNs {a : Option Addr} {len cap : Nat} {d : DataW H} {p : List MemPlace} (h : DataW.Trod enc Tryz.prog W 0 (fun _ => true) true 22 (.slice a len cap) d p) :
    ∃ l : List Nq, l.length = len ∧ ImR (.slice a len cap) l W ∧ (∀ x ∈ l, NqQ W x) ∧ (l.map nqW).sum + 1 ≤ Rows.uptoBulk d := by
  obtain ⟨l, h1, h2, h3, h4⟩ := openedR RNq rnqOk.und cellsN rnqOk.kp rnqOk.len (NqQ W) nqW (fun n a' cs' D Pl h1 h2 => elemNq n a' cs' D Pl h1 h2) h
  exact ⟨l, h1, ⟨h2, fun y hy => (h3 y hy).r⟩, h3, h4⟩
/-! ### An image -/
theorem fourL {β : Type} (xs : List β) (h : xs.length = 4) : ∃ a b c d, xs = [a, b, c, d] := by
  match xs, h with
  | [a, b, c, d], _ => exact ⟨a, b, c, d, rfl⟩
theorem openedIm {cs : Array Value} {d : DataW H} {p : List MemPlace} (hcs : cs.size = Tryz.prog.cellsOf 24) (h : DataW.Trod enc Tryz.prog W 0 (fun _ => true) true 24 (.agg cs) d p) :
    ∃ (X : Im) (l : List Nq) (a : Option Addr) (n c : Nat), (.agg cs : Value) = imV X (.slice a n c) ∧ l.map Nq.x = X.l ∧ n = l.length ∧ ImR (.slice a n c) l W ∧ (∀ y ∈ l, NqQ W y) ∧ (l.map nqW).sum + 1 ≤ Rows.uptoBulk d := by
  obtain ⟨fuel, hf0⟩ := h
  obtain ⟨xs, k, hk', hxy, hcl, hxl, hf⟩ := DataW.trod_struct Tryz.underlying24 hf0
  obtain ⟨cl⟩ := cs
  rw [cellsIm] at hcs
  obtain ⟨u0, u1, u2, u3, rfl⟩ := fourL cl hcs
  obtain ⟨y0, y1, y2, y3, rfl⟩ := fourL xs hxl
  have g0 := hf 0 _ rfl
  have g1 := hf 1 _ rfl
  have g2 := hf 2 _ rfl
  have g3 := hf 3 _ rfl
  simp [Value.cells, cells3, cellsNs] at g0 g1 g2 g3
  obtain ⟨m0, e0, _, w0⟩ := DataW.trod_int Tryz.underlying3 g0
  obtain ⟨m1, e1, _, w1⟩ := DataW.trod_int Tryz.underlying3 g1
  obtain ⟨m2, e2, _, w2⟩ := DataW.trod_int Tryz.underlying3 g2
  obtain rfl : u0 = .int .i64 m0 := by simpa using e0
  obtain rfl : u1 = .int .i64 m1 := by simpa using e1
  obtain rfl : u2 = .int .i64 m2 := by simpa using e2
  obtain ⟨⟨a, n, c⟩, rfl⟩ := sliceOf Tryz.underlying22 g3
  obtain ⟨l, h1, h2, h3, h4⟩ := openedNs (enc := enc) (W := W) (d := y3.1) (p := y3.2) ⟨k, by simpa [Value.cells] using g3⟩
  refine ⟨⟨m0, m1, m2, l.map Nq.x⟩, l, a, n, c, rfl, rfl, h1.symm, h2, h3, ?_⟩
  have hd : d = .agg [y0.1, y1.1, y2.1, y3.1] := (Prod.ext_iff.1 hxy).1
  rw [hd]
  simp only [Rows.uptoBulk, Rows.uptoBulkAll]
  omega
theorem tot_bulk (l : List Nq) : 3 * totE (l.map Nq.x) ≤ (l.map nqW).sum := by
  induction l with
  | nil => exact Nat.le_refl _
  | cons y r ih =>
    have e : totE ((y :: r).map Nq.x) = y.x.ents.length + totE (r.map Nq.x) := by unfold totE sumF; simp only [List.map_cons, List.sum_cons]
    have hl : ∀ es : List (Tx × Int), 3 * es.length ≤ (es.map nmW).sum := fun es => by
      induction es with
      | nil => exact Nat.le_refl _
      | cons x r ih => simp only [List.map_cons, List.sum_cons, List.length_cons, nmW]; omega
    have := hl y.x.ents
    rw [e]
    simp only [List.map_cons, List.sum_cons, nqW]
    omega
theorem sum_mem {β : Type} (f : β → Nat) {x : β} {l : List β} (h : x ∈ l) : f x ≤ (l.map f).sum := by
  induction l with
  | nil => cases h
  | cons y r ih =>
    simp only [List.map_cons, List.sum_cons]
    rcases List.mem_cons.1 h with rfl | h
    · omega
    · have := ih h; omega
theorem len_sum (l : List Nq) : 3 * l.length ≤ (l.map nqW).sum := by
  induction l with
  | nil => exact Nat.le_refl _
  | cons y r ih => simp only [List.map_cons, List.sum_cons, List.length_cons, nqW]; omega
theorem ndw_of {l : List Nq} (h : ∀ y ∈ l, NqQ W y) (hb : (l.map nqW).sum ≤ 1048576) : ∀ y ∈ l, NdW y.x := fun y hy => by
  have h1 := h y hy
  have h2 := sum_mem nqW hy
  have h2' : nqW y = y.x.data.length + y.x.tgt.length + (y.x.ents.map nmW).sum + 3 := rfl
  have h3 : 3 * y.x.ents.length ≤ (y.x.ents.map nmW).sum := by
    generalize y.x.ents = es
    induction es with
    | nil => exact Nat.le_refl _
    | cons x r ih => simp only [List.map_cons, List.sum_cons, List.length_cons, nmW]; omega
  refine ⟨by omega, fun e he => ?_, h1.e64, h1.n64, h1.k64, by omega, by omega⟩
  have := sum_mem nmW he
  have h5 : nmW e = e.1.length + 3 := rfl
  omega
end
end vfsOp
end Go.Proofs.YtcogkhcfpgelhabGreat

namespace Go.Proofs.YtcogkhcfpgelhabGreat
open Go.ChangeShapes Go.WideShapes Go.ChangeAt Go.RowKit Go.Deep
set_option linter.unusedVariables false
set_option maxRecDepth 100000
namespace vfsOp
variable {H : Type} {enc : TypeId × Value → H} {W : World}
theorem thirtL {β : Type} (xs : List β) (h : xs.length = 13) : ∃ a b c d e f g i j k l m n, xs = [a, b, c, d, e, f, g, i, j, k, l, m, n] := by
  match xs, h with
  | [a, b, c, d, e, f, g, i, j, k, l, m, n], _ => exact ⟨a, b, c, d, e, f, g, i, j, k, l, m, n, rfl⟩
theorem twenL {β : Type} (xs : List β) (h : xs.length = 20) : ∃ a0 a1 a2 a3 a4 a5 a6 a7 a8 a9 b0 b1 b2 b3 b4 b5 b6 b7 b8 b9, xs = [a0, a1, a2, a3, a4, a5, a6, a7, a8, a9, b0, b1, b2, b3, b4, b5, b6, b7, b8, b9] := by
  match xs, h with
  | [a0, a1, a2, a3, a4, a5, a6, a7, a8, a9, b0, b1, b2, b3, b4, b5, b6, b7, b8, b9], _ => exact ⟨a0, a1, a2, a3, a4, a5, a6, a7, a8, a9, b0, b1, b2, b3, b4, b5, b6, b7, b8, b9, rfl⟩
def oqW (o : Oq) : Nat := o.name.length + o.other.length + o.tgt.length + o.b.length + 3
structure OqQ (W : World) (o : Oq) : Prop where
  d64 : I64 o.dir
  n64 : I64 o.node
  t64 : I64 o.too
  p64 : I64 o.pl
  bn : o.bs.n = o.b.length
  bsl : Sl (fun _ => False) (.slice o.bs.a o.bs.n o.bs.c) o.b W
/-- The image of a call that came in: its cells. -/
theorem openedIq {n : Nat} {v0 v1 v2 v3 : Value} {y : DataW H × List MemPlace} (h : DataW.trod enc Tryz.prog W 0 (fun _ => true) true n 24 [v0, v1, v2, v3] = some y) : ∃ (a b c : Int) (s : S3), v0 = .int .i64 a ∧ v1 = .int .i64 b ∧ v2 = .int .i64 c ∧ v3 = .slice s.a s.n s.c := by
  obtain ⟨xs, k, hk', hxy, hcl, hxl, hf⟩ := DataW.trod_struct Tryz.underlying24 h
  obtain ⟨y0, y1, y2, y3, rfl⟩ := fourL xs hxl
  have g0 := hf 0 _ rfl
  have g1 := hf 1 _ rfl
  have g2 := hf 2 _ rfl
  have g3 := hf 3 _ rfl
  simp [cells3, cellsNs] at g0 g1 g2 g3
  obtain ⟨m0, e0, _, w0⟩ := DataW.trod_int Tryz.underlying3 g0
  obtain ⟨m1, e1, _, w1⟩ := DataW.trod_int Tryz.underlying3 g1
  obtain ⟨m2, e2, _, w2⟩ := DataW.trod_int Tryz.underlying3 g2
  obtain ⟨s, rfl⟩ := sliceOf Tryz.underlying22 g3
  exact ⟨m0, m1, m2, s, by simpa using e0, by simpa using e1, by simpa using e2, rfl⟩
theorem elemOq (n : Nat) (a' : Addr) (cs' : List Value) (D : DataW H) (Pl : List MemPlace) (h1 : W.cells? 0 a' 20 = some cs') (h2 : DataW.trod enc Tryz.prog W 0 (fun _ => true) true n 40 cs' = some (D, Pl)) : ∃ o : Oq, (∀ j u, (ROq.enc o)[j]? = some u → W.cell? (a'.add j) = some u) ∧ OqQ W o ∧ oqW o ≤ Rows.uptoBulk D := by
  obtain ⟨_, hlen, hcell⟩ := World.cells?_some h1
  obtain ⟨xs, k, hk, hxy, _, hxl, hf⟩ := DataW.trod_struct Tryz.underlying40 h2
  obtain ⟨v0, v1, v2, v3, v4, v5, v6, v7, v8, v9, u0, u1, u2, u3, u4, u5, u6, u7, u8, u9, rfl⟩ := twenL cs' hlen
  obtain ⟨y0, y1, y2, y3, y4, y5, y6, y7, y8, y9, y10, y11, y12, rfl⟩ := thirtL xs hxl
  have g0 := hf 0 _ rfl
  have g1 := hf 1 _ rfl
  have g2 := hf 2 _ rfl
  have g3 := hf 3 _ rfl
  have g4 := hf 4 _ rfl
  have g5 := hf 5 _ rfl
  have g6 := hf 6 _ rfl
  have g7 := hf 7 _ rfl
  have g8 := hf 8 _ rfl
  have g9 := hf 9 _ rfl
  have g10 := hf 10 _ rfl
  have g11 := hf 11 _ rfl
  have g12 := hf 12 _ rfl
  simp [cells3, cells4, cells9, cellsM, cellsB, cellsIm] at g0 g1 g2 g3 g4 g5 g6 g7 g8 g9 g10 g11 g12
  obtain ⟨m0, e0, _, w0⟩ := DataW.trod_int Tryz.underlying3 g0
  obtain ⟨m1, e1, _⟩ := DataW.trod_bool Tryz.underlying4 g1
  obtain ⟨m2, e2, _, w2⟩ := DataW.trod_int Tryz.underlying3 g2
  obtain ⟨s3, e3, x3, _⟩ := DataW.trod_string Tryz.underlying9 g3
  obtain ⟨m4, e4, _, w4⟩ := DataW.trod_int Tryz.underlying3 g4
  obtain ⟨m5, e5, _, w5⟩ := DataW.trod_int Tryz.underlying3 g5
  obtain ⟨s6, e6, x6, _⟩ := DataW.trod_string Tryz.underlying9 g6
  obtain ⟨s7, e7, x7, _⟩ := DataW.trod_string Tryz.underlying9 g7
  obtain ⟨mt, rfl, rfl, rfl, rfl, rfl⟩ := openedMt g8
  obtain ⟨m9, e9, _, w9⟩ := DataW.trod_int Tryz.underlying3 g9
  obtain ⟨m10, e10, _, w10⟩ := DataW.trod_int Tryz.underlying3 g10
  obtain ⟨db, rfl⟩ := sliceOf Tryz.underlying38 g11
  obtain ⟨ia, ib, ic, is, rfl, rfl, rfl, rfl⟩ := openedIq g12
  obtain rfl : v0 = .int .i64 m0 := by simpa using e0
  obtain rfl : v1 = .bool m1 := by simpa using e1
  obtain rfl : v2 = .int .i64 m2 := by simpa using e2
  obtain rfl : v3 = .string s3 := by simpa using e3
  obtain rfl : v4 = .int .i64 m4 := by simpa using e4
  obtain rfl : v5 = .int .i64 m5 := by simpa using e5
  obtain rfl : v6 = .string s6 := by simpa using e6
  obtain rfl : v7 = .string s7 := by simpa using e7
  obtain rfl : u3 = .int .i64 m9 := by simpa using e9
  obtain rfl : u4 = .int .i64 m10 := by simpa using e10
  obtain ⟨dl, hD, hdl, hdd⟩ := openedB (enc := enc) (W := W) (d := y11.1) (p := y11.2) ⟨k, by simpa [Value.cells] using g11⟩
  refine ⟨⟨m0, m1, m2, s3.data.toList, m4, m5, s6.data.toList, s7.data.toList, mt, m9, m10, dl, db, ia, ib, ic, is⟩, enc_at (fun j hj => hcell j hj), ⟨i64_wf w2, i64_wf w4, i64_wf w5, i64_wf w9, hdl.symm, hD.mono (fun _ h => h.elim)⟩, ?_⟩
  simp only [Prod.mk.injEq] at hxy
  rw [hxy.1]
  simp only [List.map_cons, List.map_nil, Rows.uptoBulk, Rows.uptoBulkAll]
  rw [x3, x6, x7]
  have b11 := bulk_pos y11.1
  have hb : dl.length ≤ Rows.uptoBulk y11.1 := by
    rcases hdd with h | ⟨es, sp, e, he⟩
    · omega
    · rw [e]
      have := bulk_length es
      simp only [Rows.uptoBulk]
      omega
  simp only [Rows.uptoBulk, oqW]
  omega
instance : Inhabited Oq := ⟨ROq.z⟩
theorem len_sumO (l : List Oq) : 3 * l.length ≤ (l.map oqW).sum := by
  induction l with
  | nil => exact Nat.le_refl _
  | cons y r ih => simp only [List.map_cons, List.sum_cons, List.length_cons, oqW]; omega
theorem openedOs {a : Option Addr} {len cap : Nat} {d : DataW H} {p : List MemPlace} (h : DataW.Trod enc Tryz.prog W 0 (fun _ => true) true 25 (.slice a len cap) d p) (hb : Rows.uptoBulk d ≤ 1048576) :
    ∃ l : List Oq, len = l.length ∧ InO (.slice a len cap) l W ∧ 3 * len + 1 ≤ Rows.uptoBulk d := by
  obtain ⟨l, h1, h2, h3, h4⟩ := openedR ROq Tryz.underlying25 cellsOp (by decide) (fun _ => rfl) (OqQ W) oqW (fun n a' cs' D Pl h1 h2 => elemOq n a' cs' D Pl h1 h2) h
  have hl := len_sumO l
  refine ⟨l, h1.symm, ⟨h2, fun o ho => ?_⟩, by omega⟩
  have q := h3 o ho
  have hs := sum_mem oqW ho
  have e : oqW o = o.name.length + o.other.length + o.tgt.length + o.b.length + 3 := rfl
  exact ⟨⟨q.d64, q.n64, q.t64, q.p64, by omega, by omega, by omega, by omega⟩, q.bn, q.bsl⟩
end vfsOp
end Go.Proofs.YtcogkhcfpgelhabGreat

namespace Go.Proofs.YtcogkhcfpgelhabGreat
namespace vfsTrace
open Go.ChangeShapes Go.WideShapes Go.ChangeAt Go.RowKit Go.Deep
set_option linter.unusedVariables false
set_option maxRecDepth 100000 in
theorem contract (H : Type) (enc : TypeId × Value → H) (W : World) (base : Nat) (args : Array Value) (ds gs : List (DataW H)) (before : List MemPlace)
    (hval : ∀ (j : Nat) t v, Tryz.f4.params[j]? = some t → args[j]? = some v → Value.okWide Tryz.prog W .any base t v)
    (hW : DataW.Whole enc Tryz.prog Tryz.f4.params.toList Rows.vfsTraceSpec.vars false W args.toList ds gs before)
    (hk : Rows.uptoSmall H (ds ++ gs) = true) :
    Calls Tryz.prog 4 args W fun e W' => ∃ v, e = .returned v ∧ Rows.vfsTraceSpec.post enc Tryz.prog Tryz.f4 false true false false W args v W' := by
  have hW' := hW
  obtain ⟨p, q, hA0, hV, rfl, hfz, hnd⟩ := hW
  have hA : DataW.TrodAll enc Tryz.prog W 0 (fun _ => true) true Tryz.f4.params.toList args.toList ds p := hA0
  rw [Tryz.params4] at hA hval
  obtain ⟨v0, vs0, d0, ds0, p0, q0, hargs, rfl, rfl, h0, r0⟩ := trodAll_cons hA
  obtain ⟨v1, vs1, d1, ds1, p1, q1, rfl, rfl, rfl, h1, r1⟩ := trodAll_cons r0
  obtain ⟨rfl, rfl, rfl⟩ := trodAll_nil r1
  obtain rfl : args = #[v0, v1] := by cases args; simp_all
  obtain ⟨rfl, rfl⟩ := trodVars_none hV
  have hbulk : Rows.uptoBulkAll ([d0, d1] ++ []) ≤ 1048576 := of_decide_eq_true hk
  simp only [List.append_nil, Rows.uptoBulkAll] at hbulk
  have bp0 := bulk_pos d0
  have bp1 := bulk_pos d1
  obtain ⟨cs0, rfl, hcs0⟩ := okWide_struct Tryz.underlying24 (hval 0 24 v0 rfl rfl)
  have lt0 : ∀ x ∈ p0, x.block < W.heap.size := by obtain ⟨m, hm⟩ := h0; exact DataW.trod_lt m _ _ _ hm
  obtain ⟨X0, l0, a0, n0, c0, hv0, hl0, hn0, hm0, hq0, hb0⟩ := vfsOp.openedIm hcs0 h0
  obtain rfl : cs0 = ciC X0 (.slice a0 n0 c0) := by injection hv0
  have tb0 := vfsOp.tot_bulk l0
  rw [hl0] at tb0
  have ls0 := vfsOp.len_sum l0
  obtain ⟨a1, len1, cap1, rfl⟩ := okWide_slice Tryz.underlying25 (hval 1 25 v1 rfl rfl)
  have lt1 : ∀ x ∈ p1, x.block < W.heap.size := by obtain ⟨m, hm⟩ := h1; exact DataW.trod_lt m _ _ _ hm
  obtain ⟨l1, hll1, hl1, hwl1⟩ := vfsOp.openedOs h1 (by omega)
  clear hA0
  refine (trace_walk W X0 l0 a0 n0 c0 hl0 hn0 hm0 (vfsOp.ndw_of hq0 (by omega)) (by omega) a1 len1 cap1 l1 hll1 hl1 (by omega)).mono fun e W' ⟨he, hN⟩ => ?_
  subst he
  have bel : Below W.heap.size W W' := Fr.below (Below.refl _ _) hN (Nat.le_refl _) (fun i h => h.elim)
  exact ⟨_, rfl, _, _, _, [], _, [], hW', trodAll_mk1 (shut_bool Tryz.underlying4 _), (trodAll_cons_mk (Below.trod laidOut (by kernel_rfl) (of_decide_eq_true (by kernel_rfl)) h0 bel lt0) (trodAll_cons_mk (Below.trod laidOut (by kernel_rfl) (of_decide_eq_true (by kernel_rfl)) h1 bel lt1) trodAll_mk0)), rfl, bel.frame _, fun h => by cases h⟩
set_option maxRecDepth 100000 in
theorem lifted (os : Os) (started : os.Started) (H : Type) (enc : TypeId × Value → H) (F : Stop.Interp) :
    ReturnsInHanded {} Tryz.checked os 4 .any ((Rows.OpenSpec.upto Rows.vfsTraceSpec).pre6 enc Tryz.prog Tryz.f4 Rows.vfsTraceUptoRow.domain false) (((Rows.OpenSpec.upto Rows.vfsTraceSpec).at F).post enc Tryz.prog Tryz.f4 false true false false) := by
  refine returnsInHanded_of_cond (C := Tryz.checked) (s := Rows.OpenSpec.upto Rows.vfsTraceSpec) (k := Rows.uptoSmall) rfl own started (by kernel_rfl) Tryz.func4
    (OpenSpec.witness (enc := enc) (C := Tryz.checked) (s := Rows.OpenSpec.upto Rows.vfsTraceSpec) (k := Rows.uptoSmall) rfl false ⟨#[], #[.agg #[.int .i64 0, .int .i64 0, .int .i64 0, .slice none 0 0], .slice none 0 0], []⟩ 8 (by kernel_rfl) (by kernel_rfl) (by kernel_rfl)
      (x := ([.agg [.lit (.int .i64 0), .lit (.int .i64 0), .lit (.int .i64 0), .nil], .nil], [], [])) (by kernel_rfl) rfl (by kernel_rfl)) ?_
  intro W base args ds gs before hval hW _ hk _
  exact contract H enc W base args ds gs before hval hW hk
theorem over : Rows.vfsTraceUptoRow.holds Tryz.pinned (Rows.OpenSpec.upto Rows.vfsTraceSpec) :=
  OpenClaim.holds_of_cond 4 Tryz.f4 rfl rfl rfl rfl rfl rfl rfl ⟨rfl, rfl, rfl, rfl, rfl⟩ rfl rfl rfl rfl rfl (by kernel_rfl) Tryz.func4 (by kernel_rfl)
    (of_decide_eq_true (by kernel_rfl)) (by unfold Func.isWrapper; first | (rw [if_pos (by decide +kernel)]; kernel_rfl) | (rw [if_neg (by decide +kernel)]; exact ⟨rfl, rfl⟩))
    (fun os started H enc _ F => lifted os started H enc F)
end vfsTrace
/-- THE STATEMENT -/
theorem vfsTrace_holds : Rows.VfsTraceUptoSaid :=
  vfsTrace.over
#print axioms vfsTrace_holds
end Go.Proofs.YtcogkhcfpgelhabGreat

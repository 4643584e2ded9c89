import Derived.Test.YtdeefemeiggolaaFdQq
namespace Go.Proofs.Ytdeefemeiggolaa
open Go.RowKit
set_option linter.unusedVariables false
/-! ### sameFrames -/
def s12 (l : List Value) (o : Nat) (v0 v1 v2 v3 v4 v5 v6 v7 v8 v9 v10 v11 : Value) : List Value := (((((((((((l.set (o) v0).set (o + 1) v1).set (o + 2) v2).set (o + 3) v3).set (o + 4) v4).set (o + 5) v5).set (o + 6) v6).set (o + 7) v7).set (o + 8) v8).set (o + 9) v9).set (o + 10) v10).set (o + 11) v11
theorem s12_shift (h r : List Value) (hl : h.length = 12) (o : Nat) (v0 v1 v2 v3 v4 v5 v6 v7 v8 v9 v10 v11 : Value) : s12 (h ++ r) (12 + o) v0 v1 v2 v3 v4 v5 v6 v7 v8 v9 v10 v11 = h ++ s12 r o v0 v1 v2 v3 v4 v5 v6 v7 v8 v9 v10 v11 := by
  have e : ∀ (r' : List Value) (k : Nat) (v : Value), (h ++ r').set (12 + k) v = h ++ r'.set k v := fun r' k v => by
    rw [List.set_append_right _ _ (by omega), hl]; congr 2; omega
  unfold s12
  simp only [Nat.add_assoc, e]
theorem s12_flat (xs : List Fm) (i : Nat) (hi : i < xs.length) (f : Fm) : s12 (flatF xs) (12 * i) (.int .i64 f.frm) (.int .i64 f.till) (.bool f.skipped) (.int .i64 f.user) (.int .i64 f.shape.block) (.bool f.shape.alone) (.bool f.shape.bsum) (.bool f.shape.csum) (.bool f.shape.csize) (.int .i64 f.blocks) (.int .i64 f.plain) (.int .i64 f.size) = flatF (xs.set i f) := by
  induction xs generalizing i with
  | nil => simp at hi
  | cons x r ih =>
    cases i with
    | zero => rfl
    | succ i =>
      rw [List.set_cons_succ, flatF, flatF, show 12 * (i + 1) = 12 + 12 * i by omega, s12_shift _ _ rfl, ih i (by simpa using hi)]
theorem s12_row {w : World} {g : Nat} {l : List Value} {T : Nat} (h : w.heap[g]? = some (.cells l.toArray T)) (o : Nat) (v0 v1 v2 v3 v4 v5 v6 v7 v8 v9 v10 v11 : Value) : ((((((((((((w.setCell ⟨g, o, none⟩ v0).setCell ⟨g, o + 1, none⟩ v1).setCell ⟨g, o + 2, none⟩ v2).setCell ⟨g, o + 3, none⟩ v3).setCell ⟨g, o + 4, none⟩ v4).setCell ⟨g, o + 5, none⟩ v5).setCell ⟨g, o + 6, none⟩ v6).setCell ⟨g, o + 7, none⟩ v7).setCell ⟨g, o + 8, none⟩ v8).setCell ⟨g, o + 9, none⟩ v9).setCell ⟨g, o + 10, none⟩ v10).setCell ⟨g, o + 11, none⟩ v11).heap[g]? = some (.cells (s12 l o v0 v1 v2 v3 v4 v5 v6 v7 v8 v9 v10 v11).toArray T) := by
  have e : ∀ (W : World) (l' : List Value) (k : Nat) (v : Value), W.heap[g]? = some (.cells l'.toArray T) → (W.setCell ⟨g, k, none⟩ v).heap[g]? = some (.cells (l'.set k v).toArray T) := fun W l' k v hW => by
    rw [row_set hW k v]; simp
  exact e _ _ _ _ (e _ _ _ _ (e _ _ _ _ (e _ _ _ _ (e _ _ _ _ (e _ _ _ _ (e _ _ _ _ (e _ _ _ _ (e _ _ _ _ (e _ _ _ _ (e _ _ _ _ (e _ _ _ _ (h))))))))))))
theorem s12_fr (w : World) (g o : Nat) (v0 v1 v2 v3 v4 v5 v6 v7 v8 v9 v10 v11 : Value) : Fr (fun k => k = g) w ((((((((((((w.setCell ⟨g, o, none⟩ v0).setCell ⟨g, o + 1, none⟩ v1).setCell ⟨g, o + 2, none⟩ v2).setCell ⟨g, o + 3, none⟩ v3).setCell ⟨g, o + 4, none⟩ v4).setCell ⟨g, o + 5, none⟩ v5).setCell ⟨g, o + 6, none⟩ v6).setCell ⟨g, o + 7, none⟩ v7).setCell ⟨g, o + 8, none⟩ v8).setCell ⟨g, o + 9, none⟩ v9).setCell ⟨g, o + 10, none⟩ v10).setCell ⟨g, o + 11, none⟩ v11) := by
  have h : ∀ (V : World) (j : Nat) (v : Value), Fr (fun k => k = g) w V → Fr (fun k => k = g) w (V.setCell ⟨g, j, none⟩ v) := fun V j v hV => hV.setCell ⟨g, j, none⟩ v (.inl rfl)
  exact h _ _ _ (h _ _ _ (h _ _ _ (h _ _ _ (h _ _ _ (h _ _ _ (h _ _ _ (h _ _ _ (h _ _ _ (h _ _ _ (h _ _ _ (h _ _ _ (Fr.refl _ w))))))))))))
theorem OwF.put {g : Nat} {v : Value} {l : List Fm} {w : World} (h : OwF g v l w) (i : Nat) (hi : i < l.length) (f : Fm) : OwF g v (l.set i f) ((((((((((((w.setCell ⟨g, i * 12, none⟩ (Value.int .i64 f.frm)).setCell ⟨g, i * 12 + 1, none⟩ (Value.int .i64 f.till)).setCell ⟨g, i * 12 + 2, none⟩ (Value.bool f.skipped)).setCell ⟨g, i * 12 + 3, none⟩ (Value.int .i64 f.user)).setCell ⟨g, i * 12 + 4, none⟩ (Value.int .i64 f.shape.block)).setCell ⟨g, i * 12 + 5, none⟩ (Value.bool f.shape.alone)).setCell ⟨g, i * 12 + 6, none⟩ (Value.bool f.shape.bsum)).setCell ⟨g, i * 12 + 7, none⟩ (Value.bool f.shape.csum)).setCell ⟨g, i * 12 + 8, none⟩ (Value.bool f.shape.csize)).setCell ⟨g, i * 12 + 9, none⟩ (Value.int .i64 f.blocks)).setCell ⟨g, i * 12 + 10, none⟩ (Value.int .i64 f.plain)).setCell ⟨g, i * 12 + 11, none⟩ (Value.int .i64 f.size)) := by
  obtain ⟨xs, h1, h2, h3, h4, h5⟩ := h
  refine ⟨xs.set i f, by rw [List.length_set, List.length_set]; exact h1, ?_, by rw [List.length_set, List.length_set]; exact h3, by rw [List.length_set]; exact h4, ?_⟩
  · rw [List.length_set, List.take_set, h2]
  · have := s12_row h5 (12 * i) (.int .i64 f.frm) (.int .i64 f.till) (.bool f.skipped) (.int .i64 f.user) (.int .i64 f.shape.block) (.bool f.shape.alone) (.bool f.shape.bsum) (.bool f.shape.csum) (.bool f.shape.csize) (.int .i64 f.blocks) (.int .i64 f.plain) (.int .i64 f.size)
    rw [s12_flat xs i (by omega) f, Nat.mul_comm 12 i] at this
    exact this
set_option maxHeartbeats 40000000 in
set_option maxRecDepth 100000 in
theorem sameFrames_any (w : World) (D : Nat) (fs : List Fm) (a1 a2 : Option Addr) (n c1 c2 : Nat) (hn : n = fs.length) (hnl : n ≤ 1000000000) (ha : (a1 = none ∧ n = 0) ∨ ∃ ga, a1 = some ⟨ga, 0, none⟩ ∧ D ≤ ga ∧ OwF ga (.slice a1 n c1) fs w ∧ ∀ gb, a2 = some ⟨gb, 0, none⟩ → gb ≠ ga) (hc : a1 = none → c1 = 0) (hb : (a2 = none ∧ n = 0) ∨ ∃ gb, a2 = some ⟨gb, 0, none⟩ ∧ OwF gb (.slice a2 n c2) fs w) :
    Calls Try.prog 19 #[.slice a1 n c1, .slice a2 n c2] w fun e w' => e = .returned (.bool true) ∧ Fr (fun k => D ≤ k) w w' := by
  obtain ⟨P, hP⟩ : ∃ P : Ending → World → Prop, P = fun e w' => e = .returned (.bool true) ∧ Fr (fun k => D ≤ k) w w' := ⟨_, rfl⟩
  rw [← hP]
  have HP : Hid (∀ V, Fr (fun k => D ≤ k) w V → P (.returned (.bool true)) V) := fun V hV => by rw [hP]; exact ⟨rfl, hV⟩
  have HA : Hid ((a1 = none ∧ n = 0) ∨ ∃ ga, a1 = some ⟨ga, 0, none⟩ ∧ D ≤ ga ∧ OwF ga (.slice a1 n c1) fs w ∧ ∀ gb, a2 = some ⟨gb, 0, none⟩ → gb ≠ ga) := ha
  have HB : Hid ((a2 = none ∧ n = 0) ∨ ∃ gb, a2 = some ⟨gb, 0, none⟩ ∧ OwF gb (.slice a2 n c2) fs w) := hb
  have HN : Hid (n = fs.length) := hn
  have HC : Hid (a1 = none → c1 = 0) := hc
  clear hP ha hb hn hc
  go_enter Try.func19, Try.ntmps19
  go_wp2_with fail
  go_loopg [5] n (fun kx vi wr => ∃ (i : Nat), i ≤ n ∧ n - i ≤ kx ∧ vi = .int .i64 i ∧ Hid ((n = 0 ∧ wr = w) ∨ ∃ ga xs, a1 = some ⟨ga, 0, none⟩ ∧ D ≤ ga ∧ xs.length = n ∧ OwF ga (.slice a1 n c1) xs wr ∧ (∀ j, i ≤ j → xs[j]? = fs[j]?) ∧ Fr (fun k => k = ga) w wr ∧ ∀ gb, a2 = some ⟨gb, 0, none⟩ → gb ≠ ga))
  case atStart =>
    refine ⟨0, by omega, by omega, rfl, ?_⟩
    rcases HA.out with ⟨_, h⟩ | ⟨ga, h1, h2, h3, h4⟩
    · exact .inl ⟨h, rfl⟩
    · exact .inr ⟨ga, fs, h1, h2, HN.out.symm, h3, fun _ _ => rfl, Fr.refl _ _, h4⟩
  case round =>
    obtain ⟨i, hi, hkx, rfl, HI⟩ := hrel
    by_cases hlt : i < n
    · obtain ⟨ga, xs, rfl, hD, hxl, hA, hxe, hF, hne⟩ : ∃ ga xs, a1 = some ⟨ga, 0, none⟩ ∧ D ≤ ga ∧ xs.length = n ∧ OwF ga (.slice a1 n c1) xs wr ∧ (∀ j, i ≤ j → xs[j]? = fs[j]?) ∧ Fr (fun k => k = ga) w wr ∧ ∀ gb, a2 = some ⟨gb, 0, none⟩ → gb ≠ ga := by
        rcases HI.out with ⟨h, _⟩ | h
        · omega
        · exact h
      obtain ⟨gb, rfl, hB0⟩ : ∃ gb, a2 = some ⟨gb, 0, none⟩ ∧ OwF gb (.slice a2 n c2) fs w := by
        rcases HB.out with ⟨_, h⟩ | h
        · omega
        · exact h
      have hB := hB0.kept hF (hne gb rfl)
      obtain ⟨f, hfi⟩ : ∃ f, fs[i]? = some f := ⟨_, List.getElem?_eq_getElem (by rw [← HN.out]; exact hlt)⟩
      have hxa : xs[i]? = some f := (hxe i (Nat.le_refl _)).trans hfi
      have hz : (i : Int) < (n : Int) := by omega
      have hput := fun nq => (hA.nw ((Fr.refl _ wr).drewN nq)).put i (by omega) (Fm.start 4711)
      have hfr := fun nq => s12_fr (wr.drewN nq) ga (i * 12) (.int .i64 4711) (.int .i64 0) (.bool false) (.int .i64 0) (.int .i64 0) (.bool false) (.bool false) (.bool false) (.bool false) (.int .i64 0) (.int .i64 0) (.int .i64 0)
      have HNX : Hid (∀ nq, ∃ ga' xs', (some ⟨ga, 0, none⟩ : Option Addr) = some ⟨ga', 0, none⟩ ∧ D ≤ ga' ∧ xs'.length = n ∧ OwF ga' (.slice (some ⟨ga, 0, none⟩) n c1) xs' (((((((((((((wr.drewN nq).setCell ⟨ga, i * 12, none⟩ (.int .i64 4711)).setCell ⟨ga, i * 12 + 1, none⟩ (.int .i64 0)).setCell ⟨ga, i * 12 + 2, none⟩ (.bool false)).setCell ⟨ga, i * 12 + 3, none⟩ (.int .i64 0)).setCell ⟨ga, i * 12 + 4, none⟩ (.int .i64 0)).setCell ⟨ga, i * 12 + 5, none⟩ (.bool false)).setCell ⟨ga, i * 12 + 6, none⟩ (.bool false)).setCell ⟨ga, i * 12 + 7, none⟩ (.bool false)).setCell ⟨ga, i * 12 + 8, none⟩ (.bool false)).setCell ⟨ga, i * 12 + 9, none⟩ (.int .i64 0)).setCell ⟨ga, i * 12 + 10, none⟩ (.int .i64 0)).setCell ⟨ga, i * 12 + 11, none⟩ (.int .i64 0)) ∧ (∀ j, i + 1 ≤ j → xs'[j]? = fs[j]?) ∧ Fr (fun k => k = ga') w (((((((((((((wr.drewN nq).setCell ⟨ga, i * 12, none⟩ (.int .i64 4711)).setCell ⟨ga, i * 12 + 1, none⟩ (.int .i64 0)).setCell ⟨ga, i * 12 + 2, none⟩ (.bool false)).setCell ⟨ga, i * 12 + 3, none⟩ (.int .i64 0)).setCell ⟨ga, i * 12 + 4, none⟩ (.int .i64 0)).setCell ⟨ga, i * 12 + 5, none⟩ (.bool false)).setCell ⟨ga, i * 12 + 6, none⟩ (.bool false)).setCell ⟨ga, i * 12 + 7, none⟩ (.bool false)).setCell ⟨ga, i * 12 + 8, none⟩ (.bool false)).setCell ⟨ga, i * 12 + 9, none⟩ (.int .i64 0)).setCell ⟨ga, i * 12 + 10, none⟩ (.int .i64 0)).setCell ⟨ga, i * 12 + 11, none⟩ (.int .i64 0)) ∧ ∀ gb', (some ⟨gb, 0, none⟩ : Option Addr) = some ⟨gb', 0, none⟩ → gb' ≠ ga') := by
        intro nq
        refine ⟨ga, xs.set i (Fm.start 4711), rfl, hD, by rw [List.length_set]; exact hxl, hput nq, fun j hj => ?_, (hF.drewN nq).trans (hfr nq), hne⟩
        rw [List.getElem?_set_ne (by omega)]
        exact hxe j (by omega)
      obtain ⟨frm, till, skp, usr, ⟨blk, al, bsm, csm, csz⟩, nb, npl, sz⟩ := f
      have x0 : wr.cell? ⟨ga, i * 12, none⟩ = some (.int .i64 frm) := by rw [Nat.mul_comm i 12]; exact (hA.cell i 0 _ _ hxa rfl).1
      have x1 : wr.cell? ⟨ga, i * 12 + 1, none⟩ = some (.int .i64 till) := by rw [Nat.mul_comm i 12]; exact (hA.cell i 1 _ _ hxa rfl).1
      have x2 : wr.cell? ⟨ga, i * 12 + 2, none⟩ = some (.bool skp) := by rw [Nat.mul_comm i 12]; exact (hA.cell i 2 _ _ hxa rfl).1
      have x3 : wr.cell? ⟨ga, i * 12 + 3, none⟩ = some (.int .i64 usr) := by rw [Nat.mul_comm i 12]; exact (hA.cell i 3 _ _ hxa rfl).1
      have x4 : wr.cell? ⟨ga, i * 12 + 4, none⟩ = some (.int .i64 blk) := by rw [Nat.mul_comm i 12]; exact (hA.cell i 4 _ _ hxa rfl).1
      have x5 : wr.cell? ⟨ga, i * 12 + 5, none⟩ = some (.bool al) := by rw [Nat.mul_comm i 12]; exact (hA.cell i 5 _ _ hxa rfl).1
      have x6 : wr.cell? ⟨ga, i * 12 + 6, none⟩ = some (.bool bsm) := by rw [Nat.mul_comm i 12]; exact (hA.cell i 6 _ _ hxa rfl).1
      have x7 : wr.cell? ⟨ga, i * 12 + 7, none⟩ = some (.bool csm) := by rw [Nat.mul_comm i 12]; exact (hA.cell i 7 _ _ hxa rfl).1
      have x8 : wr.cell? ⟨ga, i * 12 + 8, none⟩ = some (.bool csz) := by rw [Nat.mul_comm i 12]; exact (hA.cell i 8 _ _ hxa rfl).1
      have x9 : wr.cell? ⟨ga, i * 12 + 9, none⟩ = some (.int .i64 nb) := by rw [Nat.mul_comm i 12]; exact (hA.cell i 9 _ _ hxa rfl).1
      have x10 : wr.cell? ⟨ga, i * 12 + 10, none⟩ = some (.int .i64 npl) := by rw [Nat.mul_comm i 12]; exact (hA.cell i 10 _ _ hxa rfl).1
      have x11 : wr.cell? ⟨ga, i * 12 + 11, none⟩ = some (.int .i64 sz) := by rw [Nat.mul_comm i 12]; exact (hA.cell i 11 _ _ hxa rfl).1
      have y0 : wr.cell? ⟨gb, i * 12, none⟩ = some (.int .i64 frm) := by rw [Nat.mul_comm i 12]; exact (hB.cell i 0 _ _ hfi rfl).1
      have y1 : wr.cell? ⟨gb, i * 12 + 1, none⟩ = some (.int .i64 till) := by rw [Nat.mul_comm i 12]; exact (hB.cell i 1 _ _ hfi rfl).1
      have y2 : wr.cell? ⟨gb, i * 12 + 2, none⟩ = some (.bool skp) := by rw [Nat.mul_comm i 12]; exact (hB.cell i 2 _ _ hfi rfl).1
      have y3 : wr.cell? ⟨gb, i * 12 + 3, none⟩ = some (.int .i64 usr) := by rw [Nat.mul_comm i 12]; exact (hB.cell i 3 _ _ hfi rfl).1
      have y4 : wr.cell? ⟨gb, i * 12 + 4, none⟩ = some (.int .i64 blk) := by rw [Nat.mul_comm i 12]; exact (hB.cell i 4 _ _ hfi rfl).1
      have y5 : wr.cell? ⟨gb, i * 12 + 5, none⟩ = some (.bool al) := by rw [Nat.mul_comm i 12]; exact (hB.cell i 5 _ _ hfi rfl).1
      have y6 : wr.cell? ⟨gb, i * 12 + 6, none⟩ = some (.bool bsm) := by rw [Nat.mul_comm i 12]; exact (hB.cell i 6 _ _ hfi rfl).1
      have y7 : wr.cell? ⟨gb, i * 12 + 7, none⟩ = some (.bool csm) := by rw [Nat.mul_comm i 12]; exact (hB.cell i 7 _ _ hfi rfl).1
      have y8 : wr.cell? ⟨gb, i * 12 + 8, none⟩ = some (.bool csz) := by rw [Nat.mul_comm i 12]; exact (hB.cell i 8 _ _ hfi rfl).1
      have y9 : wr.cell? ⟨gb, i * 12 + 9, none⟩ = some (.int .i64 nb) := by rw [Nat.mul_comm i 12]; exact (hB.cell i 9 _ _ hfi rfl).1
      have y10 : wr.cell? ⟨gb, i * 12 + 10, none⟩ = some (.int .i64 npl) := by rw [Nat.mul_comm i 12]; exact (hB.cell i 10 _ _ hfi rfl).1
      have y11 : wr.cell? ⟨gb, i * 12 + 11, none⟩ = some (.int .i64 sz) := by rw [Nat.mul_comm i 12]; exact (hB.cell i 11 _ _ hfi rfl).1
      have z0 : wr.frozen? ⟨ga, i * 12, none⟩ = false := by rw [Nat.mul_comm i 12]; exact (hA.cell i 0 _ _ hxa rfl).2
      have z1 : wr.frozen? ⟨ga, i * 12 + 1, none⟩ = false := by rw [Nat.mul_comm i 12]; exact (hA.cell i 1 _ _ hxa rfl).2
      have z2 : wr.frozen? ⟨ga, i * 12 + 2, none⟩ = false := by rw [Nat.mul_comm i 12]; exact (hA.cell i 2 _ _ hxa rfl).2
      have z3 : wr.frozen? ⟨ga, i * 12 + 3, none⟩ = false := by rw [Nat.mul_comm i 12]; exact (hA.cell i 3 _ _ hxa rfl).2
      have z4 : wr.frozen? ⟨ga, i * 12 + 4, none⟩ = false := by rw [Nat.mul_comm i 12]; exact (hA.cell i 4 _ _ hxa rfl).2
      have z5 : wr.frozen? ⟨ga, i * 12 + 5, none⟩ = false := by rw [Nat.mul_comm i 12]; exact (hA.cell i 5 _ _ hxa rfl).2
      have z6 : wr.frozen? ⟨ga, i * 12 + 6, none⟩ = false := by rw [Nat.mul_comm i 12]; exact (hA.cell i 6 _ _ hxa rfl).2
      have z7 : wr.frozen? ⟨ga, i * 12 + 7, none⟩ = false := by rw [Nat.mul_comm i 12]; exact (hA.cell i 7 _ _ hxa rfl).2
      have z8 : wr.frozen? ⟨ga, i * 12 + 8, none⟩ = false := by rw [Nat.mul_comm i 12]; exact (hA.cell i 8 _ _ hxa rfl).2
      have z9 : wr.frozen? ⟨ga, i * 12 + 9, none⟩ = false := by rw [Nat.mul_comm i 12]; exact (hA.cell i 9 _ _ hxa rfl).2
      have z10 : wr.frozen? ⟨ga, i * 12 + 10, none⟩ = false := by rw [Nat.mul_comm i 12]; exact (hA.cell i 10 _ _ hxa rfl).2
      have z11 : wr.frozen? ⟨ga, i * 12 + 11, none⟩ = false := by rw [Nat.mul_comm i 12]; exact (hA.cell i 11 _ _ hxa rfl).2
      clear HI hA hB hB0 hxe hF hfi hxa hput hfr HA HB HP hxl
      go_upto_region 6 with fail
      go_quiet (fail)
      go_wp2_with fail
      go_roundg (n - (i + 1))
      all_goals (first | omega | exact ⟨i + 1, by omega, by omega, by first | rfl | (congr 1), .inr (HNX.out _)⟩)
    · obtain rfl : i = n := by omega
      have hz : ¬ (i : Int) < (i : Int) := by omega
      have n1 : Nw wr (wr.alloc (.cells (frow (Fm.start 0)) 49)) := (Fr.refl _ _).alloc _
      have hq : SwF wr.heap.size [Fm.start 0] (wr.alloc (.cells (frow (Fm.start 0)) 49)) := by
        show (wr.alloc (.cells (frow (Fm.start 0)) 49)).heap[wr.heap.size]? = _
        rw [new_row _ _ _ rfl]
        rfl
      obtain ⟨v', W, hap, hFW⟩ : ∃ v' W, (∀ ty, (Builtin.append_ #[34, 34] ty #[.slice a1 i c1, .slice (some ⟨wr.heap.size, 0, none⟩) 1 1]).run Try.prog (wr.alloc (.cells (frow (Fm.start 0)) 49)) = .ok v' W) ∧ Fr (fun k => D ≤ k) w W := by
        rcases HI.out with ⟨h, rfl⟩ | ⟨ga, xs, h1, hD, hxl, hA, _, hF, _⟩
        · rcases HA.out with ⟨h1, _⟩ | ⟨ga, h1, hD, hA, _⟩
          · have h2 := HC.out h1
            subst h h1 h2
            obtain ⟨v', W, hap, hO, hN⟩ := appF_nil _ wr.heap.size _ hq
            exact ⟨v', W, hap, (n1.trans hN).any⟩
          · obtain ⟨v', g', W, hap, hO, hF, hg'⟩ := appF_any _ ga _ _ (hA.nw n1) wr.heap.size _ hq (by rw [← HN.out]; exact hnl)
            exact ⟨v', W, hap, n1.any.trans (hF.mono (fun k hk => .inl (by omega)))⟩
        · obtain ⟨v', g', W, hap, hO, hF', hg'⟩ := appF_any _ ga _ _ (hA.nw n1) wr.heap.size _ hq (by omega)
          exact ⟨v', W, hap, ((hF.mono (fun k hk => .inl (by omega))).trans n1.any).trans (hF'.mono (fun k hk => .inl (by omega)))⟩
      have HAP : Hid (∀ ty, (Builtin.append_ #[34, 34] ty #[.slice a1 i c1, .slice (some ⟨wr.heap.size, 0, none⟩) 1 1]).run Try.prog (wr.alloc (.cells (frow (Fm.start 0)) 49)) = .ok v' W) := hap
      have HF : Hid (P (.returned (.bool true)) W) := HP.out _ hFW
      clear HI HA HB HP hap hFW n1 hq HC HN
      unfold frow at HAP
      simp only [Fm.start, Shp.zero] at HAP
      go_wp2_with (first | (at_builtin; refine Lib.wpList_append_run _ rfl _ _ 34 34 rfl (.slice a1 i c1) (.slice (some ⟨wr.heap.size, 0, none⟩) 1 1) (by simp [Act.eval]) (by simp [Act.eval]) _ _ (HAP.out _) ?_))
      exact HF.out
end Go.Proofs.Ytdeefemeiggolaa

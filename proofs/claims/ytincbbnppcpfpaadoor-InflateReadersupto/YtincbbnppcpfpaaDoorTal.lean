import Derived.Test.YtincbbnppcpfpaaDoorTak
namespace Go.Proofs.YtincbbnppcpfpaaDoor
open Go.RowKit
set_option linter.unusedVariables false
theorem box_cell (w : World) (f : Nat → Nat → Nat) (n j : Nat) (hn : n < 16) (hj : j < 3) : (w.alloc (.cells (rowC f) 125)).cell? ⟨w.heap.size, n * 3 + j, none⟩ = some (.int .i64 (f n j)) := (row_cell (new_heap w _) _ _ (rowC_at f n j hn hj)).1
set_option maxHeartbeats 8000000 in
theorem room_any (w : World) (f : Nat → Nat → Nat) (h : f 15 1 + f 15 0 ≤ 1000000000) : Calls Tryd.prog 96 #[.agg (rowC f)] w fun e w' => e = .returned (.int .i64 (f 15 1 + f 15 0 : Nat)) ∧ Nw w w' := by
  obtain ⟨P, hP⟩ : ∃ P : Ending → World → Prop, P = fun e w' => e = .returned (.int .i64 (f 15 1 + f 15 0 : Nat)) ∧ Nw w w' := ⟨_, rfl⟩
  rw [← hP]
  have HF : Hid (P (.returned (.int .i64 (f 15 1 + f 15 0 : Nat))) (w.alloc (.cells (rowC f) 125))) := by
    show P _ _
    rw [hP]; exact ⟨rfl, (Fr.refl _ _).alloc _⟩
  have c1 := box_cell w f 15 1 (by decide) (by decide)
  have c0 := box_cell w f 15 0 (by decide) (by decide)
  have hi : ((f 15 1 : Nat) : Int) + ((f 15 0 : Nat) : Int) = ((f 15 1 + f 15 0 : Nat) : Int) := by omega
  clear hP
  generalize f 15 1 + f 15 0 = s at *
  generalize f 15 1 = x at *
  generalize f 15 0 = y at *
  generalize rowC f = A at *
  go_enter Tryd.func96, Tryd.ntmps96
  go_wp2
  exact HF.out
set_option maxHeartbeats 8000000 in
theorem nwords_any (w : World) (f : Nat → Nat → Nat) (h : f 15 2 + f 15 0 ≤ 1000000000) : Calls Tryd.prog 97 #[.agg (rowC f)] w fun e w' => e = .returned (.int .i64 (f 15 2 + f 15 0 : Nat)) ∧ w' = w.alloc (.cells (rowC f) 125) := by
  obtain ⟨P, hP⟩ : ∃ P : Ending → World → Prop, P = fun e w' => e = .returned (.int .i64 (f 15 2 + f 15 0 : Nat)) ∧ w' = w.alloc (.cells (rowC f) 125) := ⟨_, rfl⟩
  rw [← hP]
  have HF : Hid (P (.returned (.int .i64 (f 15 2 + f 15 0 : Nat))) (w.alloc (.cells (rowC f) 125))) := by
    show P _ _
    rw [hP]; exact ⟨rfl, rfl⟩
  have c1 := box_cell w f 15 2 (by decide) (by decide)
  have c0 := box_cell w f 15 0 (by decide) (by decide)
  have hi : ((f 15 2 : Nat) : Int) + ((f 15 0 : Nat) : Int) = ((f 15 2 + f 15 0 : Nat) : Int) := by omega
  clear hP
  generalize f 15 2 + f 15 0 = s at *
  generalize f 15 2 = x at *
  generalize f 15 0 = y at *
  generalize rowC f = A at *
  go_enter Tryd.func97, Tryd.ntmps97
  go_wp2
  exact HF.out
end Go.Proofs.YtincbbnppcpfpaaDoor

namespace Go.Proofs.YtincbbnppcpfpaaDoor
open Go.RowKit
set_option linter.unusedVariables false
/-! ### A code in memory -/
def RW : RT (Nat × Nat) := { enc := fun x => [.int .u32 x.1, .int .i64 x.2], k := 2, T := 134, TS := 123, z := (0, 0), by_ := 16 }
theorem rwOk : RW.Ok := by
  refine ⟨fun _ => rfl, by decide, fun x v hv => ?_, Tryd.underlying123, ?_⟩
  · simp only [RW, List.mem_cons, List.mem_nil_iff, or_false] at hv
    rcases hv with rfl | rfl <;> rfl
  · have h : (Tryd.prog.info? 134).map (fun i => (i.zero, i.size, i.bytes)) = some (some (.agg #[.int .u32 0, .int .i64 0]), 2, 16) := by kernel_rfl
    cases hq : Tryd.prog.info? 134 with
    | none => simp [hq] at h
    | some i => simp [hq] at h; exact ⟨i, _, hq, h.1, h.2.1, h.2.2, rfl⟩
def codeC (vw vs : Value) (f : Nat → Nat → Nat) : Array Value := #[vw, vs] ++ rowC f
theorem codeC_row (vw vs : Value) (f : Nat → Nat → Nat) (n j : Nat) (hn : n < 16) (hj : j < 3) : (codeC vw vs f)[2 + (n * 3 + j)]? = some (.int .i64 ((f n j : Nat) : Int)) := by
  have h := rowC_at f n j hn hj
  rw [codeC, Array.getElem?_append_right (by simp)]
  simpa using h
structure CdM (cb gw gs L M : Nat) (f : Nat → Nat → Nat) (ws : List (Nat × Nat)) (ss : List Int) (w : World) : Prop where
  row : w.heap[cb]? = some (.cells (codeC (.slice (some ⟨gw, 0, none⟩) L L) (.slice (some ⟨gs, 0, none⟩) M M) f) 127)
  wd : SwR RW gw ws w
  st : SwR RI gs ss w
  wl : ws.length = L
  sl : ss.length = M
  n1 : cb ≠ gw
  n2 : cb ≠ gs
  n3 : gw ≠ gs
  ll : L ≤ 1000000
  ml : M ≤ 1000000
variable {cb gw gs L M : Nat} {f : Nat → Nat → Nat} {ws : List (Nat × Nat)} {ss : List Int} {w : World}
theorem CdM.kept {w' : World} {X : Nat → Prop} (h : CdM cb gw gs L M f ws ss w) (k : Fr X w w') (h1 : ¬ X cb) (h2 : ¬ X gw) (h3 : ¬ X gs) : CdM cb gw gs L M f ws ss w' :=
  ⟨row_kept h.row k h1, h.wd.kept k h2, h.st.kept k h3, h.wl, h.sl, h.n1, h.n2, h.n3, h.ll, h.ml⟩
theorem CdM.nw {w' : World} (h : CdM cb gw gs L M f ws ss w) (k : Nw w w') : CdM cb gw gs L M f ws ss w' := h.kept k (fun h => h) (fun h => h) (fun h => h)
theorem CdM.lt (h : CdM cb gw gs L M f ws ss w) : cb < w.heap.size ∧ gw < w.heap.size ∧ gs < w.heap.size := ⟨(Array.getElem?_eq_some_iff.1 h.row).1, h.wd.lt, h.st.lt⟩
theorem CdM.heads (h : CdM cb gw gs L M f ws ss w) : w.cell? ⟨cb, 0, none⟩ = some (.slice (some ⟨gw, 0, none⟩) L L) ∧ w.cell? ⟨cb, 1, none⟩ = some (.slice (some ⟨gs, 0, none⟩) M M) := by
  refine ⟨(row_cell h.row 0 _ ?_).1, (row_cell h.row 1 _ ?_).1⟩
  · rw [codeC, Array.getElem?_append_left (by simp)]; rfl
  · rw [codeC, Array.getElem?_append_left (by simp)]; rfl
theorem CdM.rows (h : CdM cb gw gs L M f ws ss w) (n j : Nat) (hn : n < 16) (hj : j < 3) : w.cell? ⟨cb, 2 + (n * 3 + j), none⟩ = some (.int .i64 ((f n j : Nat) : Int)) := (row_cell h.row _ _ (codeC_row _ _ f n j hn hj)).1
theorem CdM.word (h : CdM cb gw gs L M f ws ss w) (i : Nat) (x : Nat × Nat) (hx : ws[i]? = some x) : w.cell? ⟨gw, i * 2, none⟩ = some (.int .u32 x.1) ∧ w.cell? ⟨gw, i * 2 + 1, none⟩ = some (.int .i64 x.2) ∧ w.frozen? ⟨gw, i * 2, none⟩ = false ∧ w.frozen? ⟨gw, i * 2 + 1, none⟩ = false := by
  have a := h.wd.cell rwOk i 0 x _ hx rfl
  have b := h.wd.cell rwOk i 1 x _ hx rfl
  exact ⟨a.1, b.1, a.2, b.2⟩
theorem CdM.sym (h : CdM cb gw gs L M f ws ss w) (i : Nat) (x : Int) (hx : ss[i]? = some x) : w.cell? ⟨gs, i, none⟩ = some (.int .i64 x) ∧ w.frozen? ⟨gs, i, none⟩ = false := by
  have a := h.st.cell riOk i 0 x _ hx rfl
  rw [show RI.k = 1 from rfl, Nat.mul_one, Nat.add_zero] at a
  exact a
theorem SwR.set1 {g : Nat} {xs : List Int} {w : World} (h : SwR RI g xs w) (i : Nat) (z : Int) : SwR RI g (xs.set i z) (w.setCell ⟨g, i, none⟩ (.int .i64 z)) := by
  unfold SwR at h ⊢
  rw [row_set h i]
  congr 2
  have e : ∀ l : List Int, flatR RI l = l.map (fun x => Value.int .i64 x) := by
    intro l
    induction l with
    | nil => rfl
    | cons x r ih => rw [flatR, ih]; rfl
  rw [e, e, List.map_set]
  simp
theorem SwR.set2 {g : Nat} {xs : List (Nat × Nat)} {w : World} (h : SwR RW g xs w) (i : Nat) (hi : i < xs.length) (b n : Nat) : SwR RW g (xs.set i (b, n)) ((w.setCell ⟨g, i * 2, none⟩ (.int .u32 b)).setCell ⟨g, i * 2 + 1, none⟩ (.int .i64 n)) := by
  unfold SwR at h ⊢
  rw [row_set (row_set h (i * 2) (.int .u32 b)) (i * 2 + 1)]
  congr 2
  apply Array.ext'
  apply List.ext_getElem?
  intro m
  have hl := flatR_length rwOk xs
  have hl2 := flatR_length rwOk (xs.set i (b, n))
  rw [List.length_set] at hl2
  rw [show RW.k = 2 from rfl] at hl hl2
  simp only [Array.toList_setIfInBounds, List.getElem?_set, List.length_set]
  by_cases hm : m < xs.length * 2
  · have hmi : m / 2 < xs.length := by omega
    have hx : (xs.set i (b, n))[m / 2]? = some (if i = m / 2 then (b, n) else xs[m / 2]) := by
      rw [List.getElem?_set]
      by_cases e : i = m / 2
      · rw [if_pos e, if_pos e, if_pos (by omega)]
      · rw [if_neg e, if_neg e, List.getElem?_eq_getElem hmi]
    rcases (show m % 2 = 0 ∨ m % 2 = 1 by omega) with e | e
    · have h1 := flatR_at rwOk (xs.set i (b, n)) (m / 2) 0 _ _ hx rfl
      have h2 := flatR_at rwOk xs (m / 2) 0 _ _ (List.getElem?_eq_getElem hmi) rfl
      rw [show RW.k = 2 from rfl, show m / 2 * 2 + 0 = m by omega] at h1 h2
      rw [h1, h2, if_neg (by omega)]
      by_cases e2 : i = m / 2
      · rw [if_pos (by omega), if_pos (by omega), if_pos e2]
      · rw [if_neg (by omega), if_neg e2]
    · have h1 := flatR_at rwOk (xs.set i (b, n)) (m / 2) 1 _ _ hx rfl
      have h2 := flatR_at rwOk xs (m / 2) 1 _ _ (List.getElem?_eq_getElem hmi) rfl
      rw [show RW.k = 2 from rfl, show m / 2 * 2 + 1 = m by omega] at h1 h2
      rw [h1, h2]
      by_cases e2 : i = m / 2
      · rw [if_pos (by omega), if_pos (by omega), if_pos e2]
      · rw [if_neg (by omega), if_neg (by omega), if_neg e2]
  · rw [if_neg (by omega), if_neg (by omega), List.getElem?_eq_none (by omega), List.getElem?_eq_none (by omega)]
theorem CdM.put (h : CdM cb gw gs L M f ws ss w) (i : Nat) (hi : i < L) (b n : Nat) : CdM cb gw gs L M f (ws.set i (b, n)) ss ((w.setCell ⟨gw, i * 2, none⟩ (.int .u32 b)).setCell ⟨gw, i * 2 + 1, none⟩ (.int .i64 n)) ∧ Fr (fun k => k = gw) w ((w.setCell ⟨gw, i * 2, none⟩ (.int .u32 b)).setCell ⟨gw, i * 2 + 1, none⟩ (.int .i64 n)) := by
  have k : Fr (fun k => k = gw) w ((w.setCell ⟨gw, i * 2, none⟩ (.int .u32 b)).setCell ⟨gw, i * 2 + 1, none⟩ (.int .i64 n)) := Fr.setCell (Fr.setCell (Fr.refl (fun k => k = gw) w) ⟨gw, i * 2, none⟩ (.int .u32 b) (.inl rfl)) ⟨gw, i * 2 + 1, none⟩ (.int .i64 n) (.inl rfl)
  exact ⟨⟨row_kept h.row k h.n1, h.wd.set2 i (by rw [h.wl]; exact hi) b n, h.st.kept k (fun e => h.n3 e.symm), by rw [List.length_set]; exact h.wl, h.sl, h.n1, h.n2, h.n3, h.ll, h.ml⟩, k⟩
theorem CdM.sort (h : CdM cb gw gs L M f ws ss w) (i : Nat) (z : Int) : CdM cb gw gs L M f ws (ss.set i z) (w.setCell ⟨gs, i, none⟩ (.int .i64 z)) ∧ Fr (fun k => k = gs) w (w.setCell ⟨gs, i, none⟩ (.int .i64 z)) := by
  have k : Fr (fun k => k = gs) w (w.setCell ⟨gs, i, none⟩ (.int .i64 z)) := (Fr.refl _ _).setCell _ _ (.inl rfl)
  exact ⟨⟨row_kept h.row k h.n2, h.wd.kept k h.n3, h.st.set1 i z, h.wl, by rw [List.length_set]; exact h.sl, h.n1, h.n2, h.n3, h.ll, h.ml⟩, k⟩
set_option maxHeartbeats 8000000 in
set_option maxRecDepth 100000 in
/-- A word is told: it is laid where it belongs. -/
theorem tell_any (h : CdM cb gw gs L M f ws ss w) (pb : Nat) (hp : w.heap[pb]? = some (.cells #[.pointer (some ⟨cb, 0, none⟩)] 57)) (hpw : pb ≠ gw) (hps : pb ≠ gs) (i p b n : Nat) (hi : i < L) (hpm : p < M) :
    Calls Tryd.prog 99 #[.int .i64 i, .int .i64 p, .agg #[.int .u32 b, .int .i64 n], .pointer (some ⟨pb, 0, none⟩)] w fun e w' => (∃ r, e = .returned r) ∧ CdM cb gw gs L M f (ws.set i (b, n)) (ss.set p (i : Int)) w' ∧ Fr (fun k => k = gw ∨ k = gs) w w' := by
  obtain ⟨P, hP⟩ : ∃ P : Ending → World → Prop, P = fun e w' => (∃ r, e = .returned r) ∧ CdM cb gw gs L M f (ws.set i (b, n)) (ss.set p (i : Int)) w' ∧ Fr (fun k => k = gw ∨ k = gs) w w' := ⟨_, rfl⟩
  rw [← hP]
  have hN : Nw w (w.alloc (.cells #[.int .u32 b, .int .i64 n] 134)) := (Fr.refl _ _).alloc _
  have h1 := h.nw hN
  have hp1 := hN.heap hp
  have hpl : pb < w.heap.size := (Array.getElem?_eq_some_iff.1 hp).1
  obtain ⟨l1, l2, l3⟩ := h.lt
  have bx := new_heap w (.cells #[.int .u32 b, .int .i64 n] 134)
  have x0 := (row_cell bx 0 _ rfl).1
  have x1 := (row_cell bx 1 _ rfl).1
  obtain ⟨y0, y1⟩ := h1.heads
  have z0 := (row_cell hp1 0 _ rfl).1
  obtain ⟨xw, hxw⟩ : ∃ x, ws[i]? = some x := ⟨_, List.getElem?_eq_getElem (by rw [h.wl]; exact hi)⟩
  obtain ⟨q0, q1, q2, q3⟩ := h1.word i xw hxw
  obtain ⟨xs, hxs⟩ : ∃ x, ss[p]? = some x := ⟨_, List.getElem?_eq_getElem (by rw [h.sl]; exact hpm)⟩
  have hll := h.ll
  have hml := h.ml
  have hz1 : (i : Int) < (L : Int) := by omega
  have hz2 : (p : Int) < (M : Int) := by omega
  have HK := h1.put i hi b n
  have HN : Hid (Nw w (w.alloc (.cells #[.int .u32 b, .int .i64 n] 134))) := hN
  have HP1 : Hid ((w.alloc (.cells #[.int .u32 b, .int .i64 n] 134)).heap[pb]? = some (.cells #[.pointer (some ⟨cb, 0, none⟩)] 57)) := hp1
  have HPP : Hid (P = fun e w' => (∃ r, e = .returned r) ∧ CdM cb gw gs L M f (ws.set i (b, n)) (ss.set p (i : Int)) w' ∧ Fr (fun k => k = gw ∨ k = gs) w w') := hP
  have HK1 : Hid _ := HK
  clear HK hN h1 hp1 hP bx hp h
  go_enter Tryd.func99, Tryd.ntmps99
  go_upto_region 1 with fail
  generalize w.alloc (.cells #[.int .u32 b, .int .i64 n] 134) = W1 at *
  obtain ⟨sb, hsb⟩ : ∃ sb, sb = w.heap.size := ⟨_, rfl⟩
  rw [← hsb] at x0 x1
  rw [← hsb]
  clear hsb
  go_region
  obtain ⟨k1, f1⟩ := HK1.out
  have k1d := k1.nw ((Fr.refl _ _).drew)
  have f1d : Fr (fun k => k = gw) W1 ((W1.setCell ⟨gw, i * 2, none⟩ (.int .u32 b)).setCell ⟨gw, i * 2 + 1, none⟩ (.int .i64 n)).drew := f1.drew
  have z1 := (row_cell (row_kept HP1.out f1d hpw) 0 _ rfl).1
  obtain ⟨y2, y3⟩ := k1d.heads
  obtain ⟨t0, t1⟩ := k1d.sym p xs hxs
  obtain ⟨k2, f2⟩ := k1d.sort p (i : Int)
  have HF : Hid (∀ r, P (.returned r) (((W1.setCell ⟨gw, i * 2, none⟩ (.int .u32 b)).setCell ⟨gw, i * 2 + 1, none⟩ (.int .i64 n)).drew.setCell ⟨gs, p, none⟩ (.int .i64 i))) := fun r => by
    rw [HPP.out]
    exact ⟨⟨_, rfl⟩, k2, (HN.out.any.trans (f1d.mono (fun _ h => .inl (.inl h)))).trans (f2.mono (fun _ h => .inl (.inr h)))⟩
  clear k1 f1 k1d f1d k2 f2 HK1 HP1 HN HPP x0 x1 y0 y1 z0 q0 q1 q2 q3
  generalize ((W1.setCell ⟨gw, i * 2, none⟩ (.int .u32 b)).setCell ⟨gw, i * 2 + 1, none⟩ (.int .i64 n)).drew = W2 at *
  go_wp2_with fail
  go_end0
  exact HF.out _
end Go.Proofs.YtincbbnppcpfpaaDoor

namespace Go.Proofs.YtincbbnppcpfpaaDoor
open Go.RowKit
set_option linter.unusedVariables false
/-- The word of a symbol. -/
def wdP (ls : List Nat) (i : Nat) : Nat × Nat := if ls.getD i 0 = 0 then (0, 0) else (rev (ls.getD i 0) (cd ls i), ls.getD i 0)
/-- The rows while the words are told. -/
def fe (ls : List Nat) (I n j : Nat) : Nat := if j = 0 then ct ls n else (if j = 1 then nm ls n else pc ls n) + ct (ls.take I) n
theorem ct_take (ls : List Nat) (I n : Nat) (hI : I < ls.length) : ct (ls.take (I + 1)) n = ct (ls.take I) n + (if ls.getD I 0 = n ∧ n ≠ 0 then 1 else 0) := by
  unfold ct
  by_cases h : n = 0
  · simp [h]
  · rw [if_neg h, if_neg h, count_take_succ ls I n hI]
    congr 1
    by_cases e : ls.getD I 0 = n
    · rw [if_pos e, if_pos ⟨e, h⟩]
    · rw [if_neg e, if_neg (fun k => e k.1)]
theorem fe_rk (ls : List Nat) (I m : Nat) (hm : ls.getD I 0 = m) (h0 : m ≠ 0) : fe ls I m 2 = ps ls I ∧ fe ls I m 1 = cd ls I := by
  unfold fe ps cd rk
  rw [ct_pos (ls.take I) m h0, hm]
  exact ⟨rfl, rfl⟩
theorem fe_step (ls : List Nat) (I m : Nat) (hI : I < ls.length) (hm : ls.getD I 0 = m) (n j : Nat) (hj : j < 3) : (m = 0 → fe ls I n j = fe ls (I + 1) n j) ∧ (m ≠ 0 → upd (upd (fe ls I) m 2 (ps ls I + 1)) m 1 (cd ls I + 1) n j = fe ls (I + 1) n j) := by
  have hc := ct_take ls I n hI
  rw [hm] at hc
  constructor
  · intro h0
    rw [if_neg (fun k => k.2 (k.1.symm.trans h0))] at hc
    unfold fe
    rw [hc]
    rfl
  · intro h0
    obtain ⟨r1, r2⟩ := fe_rk ls I m hm h0
    by_cases hn : n = m
    · subst hn
      have hc' : ct (ls.take (I + 1)) n = ct (ls.take I) n + 1 := by rw [hc, if_pos ⟨rfl, h0⟩]
      rcases (show j = 0 ∨ j = 1 ∨ j = 2 by omega) with rfl | rfl | rfl
      · simp [upd, fe]
      · simp only [upd, true_and, if_true]
        rw [← r2]
        unfold fe
        simp only [hc']
        simp
        omega
      · simp only [upd, true_and, if_true]
        rw [if_neg (by decide), ← r1]
        unfold fe
        simp only [hc']
        simp
        omega
    · have hc' : ct (ls.take (I + 1)) n = ct (ls.take I) n := by rw [hc, if_neg (fun h => hn h.1.symm), Nat.add_zero]
      unfold upd
      rw [if_neg (fun h => hn h.1), if_neg (fun h => hn h.1)]
      unfold fe
      rw [hc']
structure EwI (w : World) (cb gw gs pb eb L M : Nat) (f0 : Nat → Nat → Nat) (ls : List Nat) (I J : Nat) (ws : List (Nat × Nat)) (ss : List Int) (wr : World) : Prop where
  c : CdM cb gw gs L M f0 ws ss wr
  W : ∀ i, i < L → ws[i]? = some (if i < I then wdP ls i else (0, 0))
  S : ∀ i, i < I → i < L → ls.getD i 0 ≠ 0 → ss[ps ls i]? = some (i : Int)
  p : wr.heap[pb]? = some (.cells #[.pointer (some ⟨cb, 0, none⟩)] 57)
  e : wr.heap[eb]? = some (.cells (rowC (fe ls J)) 125)
  n1 : pb ≠ gw
  n2 : pb ≠ gs
  n3 : eb ≠ gw
  n4 : eb ≠ gs
  n5 : eb ≠ cb
  n6 : eb ≠ pb
  lw : w.heap.size ≤ eb
  fr : Fr (fun k => k = gw ∨ k = gs) w wr
variable {w : World} {cb gw gs pb eb L M : Nat} {f0 : Nat → Nat → Nat} {ls : List Nat} {I J : Nat} {ws : List (Nat × Nat)} {ss : List Int} {wr : World}
theorem EwI.keep {V : World} (h : EwI w cb gw gs pb eb L M f0 ls I J ws ss wr) (k : Nw wr V) : EwI w cb gw gs pb eb L M f0 ls I J ws ss V :=
  ⟨h.c.nw k, h.W, h.S, k.heap h.p, k.heap h.e, h.n1, h.n2, h.n3, h.n4, h.n5, h.n6, h.lw, h.fr.trans k.any⟩
theorem EwI.cell (h : EwI w cb gw gs pb eb L M f0 ls I J ws ss wr) (n j : Nat) (hn : n < 16) (hj : j < 3) : wr.cell? ⟨eb, n * 3 + j, none⟩ = some (.int .i64 ((fe ls J n j : Nat) : Int)) ∧ wr.frozen? ⟨eb, n * 3 + j, none⟩ = false := row_cell h.e _ _ (rowC_at _ n j hn hj)
/-- A symbol without a word. -/
theorem EwI.skip (h : EwI w cb gw gs pb eb L M f0 ls I I ws ss wr) (hI : I < ls.length) (hL : ls.length = L) (h0 : ls.getD I 0 = 0) : EwI w cb gw gs pb eb L M f0 ls (I + 1) (I + 1) ws ss wr := by
  refine ⟨h.c, fun i hi => ?_, fun i hi hl hn => ?_, h.p, ?_, h.n1, h.n2, h.n3, h.n4, h.n5, h.n6, h.lw, h.fr⟩
  · rw [h.W i hi]
    by_cases e : i = I
    · subst e
      rw [if_neg (by omega), if_pos (by omega), wdP, if_pos h0]
    · by_cases e2 : i < I
      · rw [if_pos e2, if_pos (by omega)]
      · rw [if_neg e2, if_neg (by omega)]
  · have : i ≠ I := fun e => hn (by rw [e]; exact h0)
    exact h.S i (by omega) hl hn
  · rw [h.e]
    congr 2
    exact rowC_congr _ _ (fun n j _ hj => (fe_step ls I 0 hI h0 n j hj).1 rfl)
/-- A word is told. -/
theorem EwI.tell (h : EwI w cb gw gs pb eb L M f0 ls I I ws ss wr) (hk : Cod ls) (hI : I < ls.length) (hL : ls.length = L) (hM : nwd ls = M) (m : Nat) (hm : ls.getD I 0 = m) (h0 : m ≠ 0) (x : Nat) (hx : x = rev m (cd ls I)) :
    Hid (Calls Tryd.prog 99 #[.int .i64 I, .int .i64 (ps ls I), .agg #[.int .u32 x, .int .i64 m], .pointer (some ⟨pb, 0, none⟩)] wr.drew fun e w1 => (∃ r, e = .returned r) ∧ w1.cell? ⟨eb, m * 3 + 2, none⟩ = some (.int .i64 (ps ls I)) ∧ w1.cell? ⟨eb, m * 3 + 1, none⟩ = some (.int .i64 (cd ls I)) ∧ Hid (∃ ws' ss', EwI w cb gw gs pb eb L M f0 ls (I + 1) I ws' ss' w1)) := by
  have h' := h.keep ((Fr.refl _ wr).drew)
  have hp := hk.ps_lt I hI (by rw [hm]; exact h0)
  refine (tell_any h'.c pb h'.p h'.n1 h'.n2 I (ps ls I) x m (by omega) (by omega)).mono ?_
  rintro e w1 ⟨he, hc, hf⟩
  have h15 := hk.each I
  rw [hm] at h15
  have hE : EwI w cb gw gs pb eb L M f0 ls (I + 1) I (ws.set I (x, m)) (ss.set (ps ls I) (I : Int)) w1 := by
    refine ⟨hc, fun i hi => ?_, fun i hi hl hn => ?_, row_kept h'.p hf (fun e => ?_), row_kept h'.e hf (fun e => ?_), h.n1, h.n2, h.n3, h.n4, h.n5, h.n6, h.lw, h'.fr.trans hf⟩
    · rw [List.getElem?_set]
      by_cases e : I = i
      · subst e
        rw [if_pos rfl, if_pos (by rw [h.c.wl]; exact hi), if_pos (by omega), wdP, if_neg (by rw [hm]; exact h0), hm, hx]
      · rw [if_neg e, h.W i hi]
        by_cases e2 : i < I
        · rw [if_pos e2, if_pos (by omega)]
        · rw [if_neg e2, if_neg (by omega)]
    · rw [List.getElem?_set]
      by_cases e : i = I
      · subst e
        rw [if_pos rfl, if_pos (by rw [h.c.sl]; omega)]
      · rw [if_neg (fun e2 => e (hk.ps_inj i I (by omega) hI hn (by rw [hm]; exact h0) e2.symm))]
        exact h.S i (by omega) hl hn
    · rcases e with e | e
      · exact h.n1 e
      · exact h.n2 e
    · rcases e with e | e
      · exact h.n3 e
      · exact h.n4 e
  obtain ⟨r1, r2⟩ := fe_rk ls I m hm h0
  have c2 := (hE.cell m 2 (by omega) (by omega)).1
  have c1 := (hE.cell m 1 (by omega) (by omega)).1
  rw [r1] at c2
  rw [r2] at c1
  exact ⟨he, c2, c1, _, _, hE⟩
/-- Its row goes on. -/
theorem EwI.next (h : EwI w cb gw gs pb eb L M f0 ls (I + 1) I ws ss wr) (hk : Cod ls) (hI : I < ls.length) (m : Nat) (hm : ls.getD I 0 = m) (h0 : m ≠ 0) :
    wr.frozen? ⟨eb, m * 3 + 2, none⟩ = false ∧ (wr.setCell ⟨eb, m * 3 + 2, none⟩ (.int .i64 ((ps ls I : Int) + 1))).cell? ⟨eb, m * 3 + 1, none⟩ = some (.int .i64 (cd ls I)) ∧ (wr.setCell ⟨eb, m * 3 + 2, none⟩ (.int .i64 ((ps ls I : Int) + 1))).frozen? ⟨eb, m * 3 + 1, none⟩ = false ∧ EwI w cb gw gs pb eb L M f0 ls (I + 1) (I + 1) ws ss ((wr.setCell ⟨eb, m * 3 + 2, none⟩ (.int .i64 ((ps ls I : Int) + 1))).setCell ⟨eb, m * 3 + 1, none⟩ (.int .i64 ((cd ls I : Int) + 1))) := by
  have h15 := hk.each I
  rw [hm] at h15
  obtain ⟨r1, r2⟩ := fe_rk ls I m hm h0
  have e1 := row_set h.e (m * 3 + 2) (.int .i64 ((ps ls I : Int) + 1))
  rw [rowC_set _ m 2 (ps ls I + 1) (by omega) (by omega) _ (by omega)] at e1
  have c1 := row_cell e1 _ _ (rowC_at _ m 1 (by omega) (by omega))
  rw [show upd (fe ls I) m 2 (ps ls I + 1) m 1 = cd ls I by rw [upd, if_neg (by omega), r2]] at c1
  have e2 := row_set e1 (m * 3 + 1) (.int .i64 ((cd ls I : Int) + 1))
  rw [rowC_set _ m 1 (cd ls I + 1) (by omega) (by omega) _ (by omega), rowC_congr _ (fe ls (I + 1)) (fun n j _ hj => (fe_step ls I m hI hm n j hj).2 h0)] at e2
  have hf : Fr (fun k => k = eb) wr ((wr.setCell ⟨eb, m * 3 + 2, none⟩ (.int .i64 ((ps ls I : Int) + 1))).setCell ⟨eb, m * 3 + 1, none⟩ (.int .i64 ((cd ls I : Int) + 1))) := Fr.setCell (Fr.setCell (Fr.refl (fun k => k = eb) wr) ⟨eb, m * 3 + 2, none⟩ _ (.inl rfl)) ⟨eb, m * 3 + 1, none⟩ _ (.inl rfl)
  refine ⟨(h.cell m 2 (by omega) (by omega)).2, c1.1, c1.2, h.c.kept hf (fun e => h.n5 e.symm) (fun e => h.n3 e.symm) (fun e => h.n4 e.symm), h.W, h.S, row_kept h.p hf (fun e => h.n6 e.symm), e2, h.n1, h.n2, h.n3, h.n4, h.n5, h.n6, h.lw, Fr.then h.fr hf (fun i hi => .inr (by have := h.lw; omega))⟩
end Go.Proofs.YtincbbnppcpfpaaDoor

namespace Go.Proofs.YtincbbnppcpfpaaDoor
open Go.RowKit
set_option linter.unusedVariables false
/-- A code that is made. -/
structure CodeI (cb gw gs : Nat) (ls : List Nat) (ws : List (Nat × Nat)) (ss : List Int) (w : World) : Prop where
  c : CdM cb gw gs ls.length (nwd ls) (fr ls) ws ss w
  W : ∀ i, i < ls.length → ws[i]? = some (wdP ls i)
  S : ∀ i, i < ls.length → ls.getD i 0 ≠ 0 → ss[ps ls i]? = some (i : Int)
theorem CodeI.kept {cb gw gs : Nat} {ls : List Nat} {ws : List (Nat × Nat)} {ss : List Int} {w w' : World} {X : Nat → Prop} (h : CodeI cb gw gs ls ws ss w) (k : Fr X w w') (h1 : ¬ X cb) (h2 : ¬ X gw) (h3 : ¬ X gs) : CodeI cb gw gs ls ws ss w' := ⟨h.c.kept k h1 h2 h3, h.W, h.S⟩
theorem CodeI.nw {cb gw gs : Nat} {ls : List Nat} {ws : List (Nat × Nat)} {ss : List Int} {w w' : World} (h : CodeI cb gw gs ls ws ss w) (k : Nw w w') : CodeI cb gw gs ls ws ss w' := ⟨h.c.nw k, h.W, h.S⟩
set_option maxHeartbeats 16000000 in
set_option maxRecDepth 100000 in
theorem eachWord_any (w : World) (v : Value) (ls : List Nat) (hk : Cod ls) (cb gw gs pb : Nat) (ws : List (Nat × Nat)) (ss : List Int) (h : SlR RI (fun k => k = gw ∨ k = gs ∨ w.heap.size ≤ k) v (toI ls) w)
    (hc : CdM cb gw gs ls.length (nwd ls) (fr ls) ws ss w) (hW : ∀ i, i < ls.length → ws[i]? = some (0, 0)) (hp : w.heap[pb]? = some (.cells #[.pointer (some ⟨cb, 0, none⟩)] 57)) (n1 : pb ≠ gw) (n2 : pb ≠ gs) :
    Calls Tryd.prog 98 #[v, .agg (rowC (fr ls)), .func (.func 99) #[] #[.pointer (some ⟨pb, 0, none⟩)]] w fun e w' => (∃ r, e = .returned r) ∧ (∃ ws' ss', CodeI cb gw gs ls ws' ss' w') ∧ w'.heap[pb]? = some (.cells #[.pointer (some ⟨cb, 0, none⟩)] 57) ∧ Fr (fun k => k = gw ∨ k = gs) w w' := by
  obtain ⟨P, hP⟩ : ∃ P : Ending → World → Prop, P = fun e w' => (∃ r, e = .returned r) ∧ (∃ ws' ss', CodeI cb gw gs ls ws' ss' w') ∧ w'.heap[pb]? = some (.cells #[.pointer (some ⟨cb, 0, none⟩)] 57) ∧ Fr (fun k => k = gw ∨ k = gs) w w' := ⟨_, rfl⟩
  rw [← hP]
  have HS : Hid (SlR RI (fun k => k = gw ∨ k = gs ∨ w.heap.size ≤ k) v (toI ls) w) := h
  obtain ⟨a, c, rfl, hca, hc2, hcc⟩ := h.form
  rw [toI_length] at hca ⊢
  have hN : Nw w (w.alloc (.cells (rowC (fr ls)) 125)) := (Fr.refl _ _).alloc _
  obtain ⟨l1, l2, l3⟩ := hc.lt
  have hpl : pb < w.heap.size := (Array.getElem?_eq_some_iff.1 hp).1
  have HI0 : Hid (∃ ws ss, EwI w cb gw gs pb w.heap.size ls.length (nwd ls) (fr ls) ls 0 0 ws ss (w.alloc (.cells (rowC (fr ls)) 125))) := by
    refine ⟨ws, ss, hc.nw hN, fun i hi => by rw [if_neg (by omega)]; exact hW i hi, fun i hi => by omega, hN.heap hp, ?_, n1, n2, by omega, by omega, by omega, by omega, Nat.le_refl _, hN.any⟩
    rw [new_heap]
    congr 2
  have HK : Hid (Cod ls) := hk
  have HF : Hid (∀ r W ws ss, EwI w cb gw gs pb w.heap.size ls.length (nwd ls) (fr ls) ls ls.length ls.length ws ss W → P (.returned r) W) := fun r W ws' ss' hE => by
    rw [hP]
    exact ⟨⟨_, rfl⟩, ⟨ws', ss', hE.c, fun i hi => by rw [hE.W i hi, if_pos hi], fun i hi hn => hE.S i hi hi hn⟩, hE.p, hE.fr⟩
  have HB : Hid (∀ V, Fr (fun k => k = gw ∨ k = gs) w V → ∀ I, I < ls.length → ∃ g o, a = some ⟨g, o, none⟩ ∧ V.cell? ⟨g, o + I, none⟩ = some (.int .i64 (ls.getD I 0 : Nat))) := fun V hV I hI => by
    obtain ⟨g, o, e, hg, hcell⟩ := ri_at HS.out I _ (toI_at ls I hI)
    exact ⟨g, o, e, hV.cellv hcell (fun hx => hg (by rcases hx with e | e; exact .inl e; exact .inr (.inl e)))⟩
  have hlen := hk.len
  clear hP h hc hW hp hN HS l1 l2 l3 hpl hk
  generalize hL : ls.length = L at *
  have hL' : Hid (ls.length = L) := hL
  clear hL
  generalize hMM : nwd ls = M at *
  have hM' : Hid (nwd ls = M) := hMM
  clear hMM
  generalize hA : rowC (fr ls) = A at *
  clear hA
  go_enter Tryd.func98, Tryd.ntmps98
  go_upto_region 1 with fail
  generalize w.alloc (.cells A 125) = w1 at *
  obtain ⟨eb, heb⟩ : ∃ e, e = w.heap.size := ⟨_, rfl⟩
  rw [← heb] at HI0 HF
  rw [← heb]
  clear heb
  go_wp2_with fail
  go_loopg [10] L (fun kx i wr => ∃ (I : Nat), I ≤ L ∧ L - I ≤ kx ∧ i = .int .i64 I ∧ Hid (∃ ws ss, EwI w cb gw gs pb eb L M (fr ls) ls I I ws ss wr))
  case atStart => exact ⟨0, by omega, by omega, rfl, HI0⟩
  case round =>
    obtain ⟨I, hI, hkx, rfl, HI⟩ := hrel
    clear HI0
    obtain ⟨ws1, ss1, hE⟩ := HI.out
    by_cases hlt : I < L
    · have hIl : I < ls.length := by rw [hL'.out]; exact hlt
      obtain ⟨g, o, rfl, hcell⟩ := HB.out wr hE.fr I (by omega)
      have hz : (I : Int) < (L : Int) := by omega
      obtain ⟨m, hm⟩ : ∃ m, ls.getD I 0 = m := ⟨_, rfl⟩
      have h15 : m ≤ 15 := by rw [← hm]; exact HK.out.each I
      rw [hm] at hcell
      clear HB HF
      by_cases hm0 : m = 0
      · subst hm0
        have HN : Hid (∃ ws ss, EwI w cb gw gs pb eb L M (fr ls) ls (I + 1) (I + 1) ws ss wr) := ⟨_, _, hE.skip hIl hL'.out hm⟩
        clear HI hE hm
        go_wp2_with fail
        go_roundg (L - (I + 1))
        case measure => omega
        case rel => exact ⟨I + 1, by omega, by omega, by first | rfl | (congr 1), HN⟩
      · obtain ⟨x, hx⟩ : ∃ x, x = rev m (cd ls I) := ⟨_, rfl⟩
        have HTL := hE.tell HK.out hIl hL'.out hM'.out m hm hm0 x hx
        obtain ⟨r1, r2⟩ := fe_rk ls I m hm hm0
        have c2 := (hE.cell m 2 (by omega) (by omega)).1
        have c1 := (hE.cell m 1 (by omega) (by omega)).1
        rw [r1] at c2
        rw [r2] at c1
        have hcd := (HK.out.cd_lt I hIl (by rw [hm]; exact hm0)).2
        rw [hm] at hcd
        have hcd2 : cd ls I < 32768 := Nat.lt_of_lt_of_le hcd (Nat.pow_le_pow_right (n := 2) (by decide) h15)
        have HTU : Hid (Calls Tryd.prog 91 #[.int .u32 (cd ls I), .int .i64 m] wr.drew fun e w' => e = .returned (.int .u32 x) ∧ w'.cell? ⟨eb, m * 3 + 2, none⟩ = some (.int .i64 (ps ls I)) ∧ w'.cell? ⟨eb, m * 3 + 1, none⟩ = some (.int .i64 (cd ls I)) ∧ w' = wr.drew) := by
          refine (turned_any (cd ls I) m (by omega) (by omega) wr.drew).mono ?_
          rintro e w' ⟨rfl, rfl⟩
          exact ⟨by rw [hx], c2, c1, rfl⟩
        have HNX : Hid (∀ w1 ws ss, EwI w cb gw gs pb eb L M (fr ls) ls (I + 1) I ws ss w1 → w1.frozen? ⟨eb, m * 3 + 2, none⟩ = false ∧ (w1.setCell ⟨eb, m * 3 + 2, none⟩ (.int .i64 ((ps ls I : Int) + 1))).cell? ⟨eb, m * 3 + 1, none⟩ = some (.int .i64 (cd ls I)) ∧ (w1.setCell ⟨eb, m * 3 + 2, none⟩ (.int .i64 ((ps ls I : Int) + 1))).frozen? ⟨eb, m * 3 + 1, none⟩ = false ∧ EwI w cb gw gs pb eb L M (fr ls) ls (I + 1) (I + 1) ws ss ((w1.setCell ⟨eb, m * 3 + 2, none⟩ (.int .i64 ((ps ls I : Int) + 1))).setCell ⟨eb, m * 3 + 1, none⟩ (.int .i64 ((cd ls I : Int) + 1)))) := fun w1 ws ss h => h.next HK.out hIl m hm hm0
        have hpsb : ps ls I ≤ 1000000 := by
          have h1 := HK.out.ps_lt I hIl (by rw [hm]; exact hm0)
          have h2 := hE.c.ml
          rw [hM'.out] at h1
          omega
        have c2d : wr.drew.cell? ⟨eb, m * 3 + 2, none⟩ = some (.int .i64 (ps ls I)) := c2
        have c1d : wr.drew.cell? ⟨eb, m * 3 + 1, none⟩ = some (.int .i64 (cd ls I)) := c1
        have hcw : IntKind.u32.wrap ((cd ls I : Nat) : Int) = (cd ls I : Int) := by rw [IntKind.wrap_u32]; omega
        have hz3 : (m : Int) < 16 := by omega
        have hz4 : (0 : Int) ≤ (m : Int) := by omega
        have hmz : ((m : Int) == 0) = false := by simp; omega
        clear HI hE hm hcd hx r1 r2 HK
        generalize ps ls I = PL at *
        generalize cd ls I = C at *
        go_upto_region 5 with fail
        go_region_held3 (fun w' => w'.cell? ⟨eb, m * 3 + 2, none⟩ = some (.int .i64 PL) ∧ w'.cell? ⟨eb, m * 3 + 1, none⟩ = some (.int .i64 C))
          (first | assumption | (refine ⟨?_, ?_⟩ <;> assumption))
          (first | (go_at_call 91; (with_reducible refine HTU.out.mono ?_); rintro e w5 ⟨rfl, t0, t1, rfl⟩) | (go_at_call 99; (with_reducible refine HTL.out.mono ?_); rintro e w6 ⟨⟨r6, rfl⟩, t2, t3, H6⟩))
        obtain ⟨ws2, ss2, hE2⟩ := H6.out
        obtain ⟨b0, b1, b2, hE3⟩ := HNX.out _ _ _ hE2
        have HN : Hid (∃ ws ss, EwI w cb gw gs pb eb L M (fr ls) ls (I + 1) (I + 1) ws ss ((w6.setCell ⟨eb, m * 3 + 2, none⟩ (.int .i64 ((PL : Int) + 1))).setCell ⟨eb, m * 3 + 1, none⟩ (.int .i64 ((C : Int) + 1)))) := ⟨_, _, hE3⟩
        clear HTL HTU HNX H6 hE2 hE3 c2 c1 c2d c1d t0 t1
        go_upto_region 7 with fail
        generalize w6.setCell ⟨eb, m * 3 + 2, none⟩ (.int .i64 ((PL : Int) + 1)) = W7 at *
        go_wp2_with fail
        go_roundg (L - (I + 1))
        case measure => omega
        case rel => exact ⟨I + 1, by omega, by omega, by first | rfl | (congr 1), HN⟩
    · obtain rfl : I = L := by omega
      have HF2 : Hid (∀ r, P (.returned r) wr) := fun r => HF.out r _ _ _ hE
      have hz : ¬ (I : Int) < (I : Int) := by omega
      clear HI hE HF HB
      go_wp2_with fail
      go_end0
      exact HF2.out _
end Go.Proofs.YtincbbnppcpfpaaDoor

namespace Go.Proofs.YtincbbnppcpfpaaDoor
open Go.RowKit
set_option linter.unusedVariables false
theorem build_code (f : Nat → Nat → Nat) (g1 g2 L M : Nat) (w : World) : (Instr.build 127 #[(0, .slice (some ⟨g1, 0, none⟩) L L), (1, .slice (some ⟨g2, 0, none⟩) M M), (2, .agg (rowC f))]).run Tryd.prog w = .ok (.agg (codeC (.slice (some ⟨g1, 0, none⟩) L L) (.slice (some ⟨g2, 0, none⟩) M M) f)) w := by
  kernel_rfl
theorem size94 : (Tryd.prog.info? 127).map (·.size) = some 50 := by kernel_rfl
theorem toI_of (zs : List Int) (h : ∀ z ∈ zs, 0 ≤ z ∧ z ≤ 15) : ∃ ls : List Nat, zs = toI ls ∧ (∀ i, ls.getD i 0 ≤ 15) ∧ ∀ x ∈ ls, x ≤ 15 := by
  refine ⟨zs.map Int.toNat, ?_, ?_, ?_⟩
  · rw [toI, List.map_map]
    conv => lhs; rw [← List.map_id zs]
    apply List.map_congr_left
    intro z hz
    have := h z hz
    simp only [id, Function.comp]
    omega
  · intro i
    rw [List.getD_eq_getElem?_getD, List.getElem?_map]
    cases he : zs[i]? with
    | none => simp
    | some z =>
      have := h z (List.mem_of_getElem? he)
      simp
      omega
  · intro x hx
    obtain ⟨z, hz, rfl⟩ := List.mem_map.1 hx
    have := h z hz
    omega
theorem toI_inj (a b : List Nat) (h : toI a = toI b) : a = b := by
  apply List.ext_getElem?
  intro i
  have : (toI a)[i]? = (toI b)[i]? := by rw [h]
  simp only [toI, List.getElem?_map] at this
  cases ha : a[i]? with
  | none =>
    cases hb : b[i]? with
    | none => rfl
    | some y => rw [ha, hb] at this; simp at this
  | some x =>
    cases hb : b[i]? with
    | none => rw [ha, hb] at this; simp at this
    | some y => rw [ha, hb] at this; simp at this; rw [show x = y by omega]
theorem load_row_g {ops : Array Oper} {rest : List Oper} {o : Oper} {a : Act} {w : World} {Q : Exit → Act → World → Prop} (hw : Region.wanted o (yielded ops a.tmps) = true) (x : Operand) (ho : o.op = .load 125 x)
    (g : Nat) (hx : a.eval x = .pointer (some ⟨g, 0, none⟩)) (cs : Array Value) (hg : w.heap[g]? = some (.cells cs 125)) (hi : cs.size = 48)
    (h : wpList Tryd.prog ops Q rest (a.put o.dst (.agg cs)) w) : wpList Tryd.prog ops Q (o :: rest) a w := by
  unfold wpList
  rw [if_pos hw]
  exact .inl (wp_load_row 125 x ho g hx 125 cs (0, 0) _ hg Tryd.underlying125 rfl (by rw [size90, hi]) h)
/-- The lengths are a code. -/
def IsCode (zs : List Int) : Prop := ∃ ls, zs = toI ls ∧ Cod ls
set_option maxHeartbeats 8000000 in
set_option maxRecDepth 100000 in
theorem newCode_no (w : World) (v : Value) (zs : List Int) (h : SlR RI (fun k => w.heap.size ≤ k) v zs w) (hl : zs.length ≤ 17592186043904) (hn : ¬ IsCode zs) : Calls Tryd.prog 88 #[v] w fun e w' => e = .returned (.tuple #[.pointer none, .int .i64 51]) ∧ Nw w w' := by
  obtain ⟨P, hP⟩ : ∃ P : Ending → World → Prop, P = fun e w' => e = .returned (.tuple #[.pointer none, .int .i64 51]) ∧ Nw w w' := ⟨_, rfl⟩
  rw [← hP]
  have HF : Hid (∀ W, Nw w W → P (.returned (.tuple #[.pointer none, .int .i64 51])) W) := fun W hW => by rw [hP]; exact ⟨rfl, hW⟩
  have hcb := canBe_any w v zs (h.mono (fun _ h => h.elim)) hl
  by_cases hk : okL zs
  · obtain ⟨ls, rfl, h15, hm15⟩ := toI_of zs hk.1
    have hlen : ls.length ≤ 320 := by have := hk.2; rw [toI_length] at this; exact this
    have hroom : room ls = 0 ∨ 32768 < room ls := by
      rcases Nat.eq_zero_or_pos (room ls) with e | e
      · exact .inl e
      · rcases Nat.lt_or_ge 32768 (room ls) with e2 | e2
        · exact .inr e2
        · exact absurd ⟨ls, rfl, h15, hlen, e, e2⟩ hn
    have hnb := nm_bound ls hlen 15
    have hct : ct ls 15 ≤ 320 := by rw [ct_pos _ _ (by decide)]; exact Nat.le_trans (List.count_le_length) hlen
    have hrb : room ls ≤ 100000000 := by
      unfold room
      have : (2 : Nat) ^ 15 = 32768 := by decide
      omega
    have HC1 : Hid (Calls Tryd.prog 94 #[v] w fun e w' => e = .returned (.bool true) ∧ w' = w) := hcb.mono (fun e w' ⟨⟨b, he, hb⟩, hw⟩ => ⟨by rw [he, hb.2 hk], hw⟩)
    have HC2 : Hid (Calls Tryd.prog 95 #[v] w fun e w' => e = .returned (.agg (rowC (fr ls))) ∧ Hid (Nw w w')) := rowsOf_any w v ls h hlen h15
    have HC3 : Hid (∀ V, Calls Tryd.prog 96 #[.agg (rowC (fr ls))] V fun e w' => e = .returned (.int .i64 (room ls)) ∧ Hid (Nw V w')) := fun V => room_any V (fr ls) (by show room ls ≤ _; omega)
    have hsz := rowC_size (fr ls)
    have hone := rowC_one (fr ls)
    obtain ⟨a, c, rfl, hca, hc2, hcc⟩ := h.form
    clear hP hcb hn h hnb hct
    generalize rowC (fr ls) = A at *
    generalize room ls = R at *
    go_enter Tryd.func88, Tryd.ntmps88
    go_upto_region 4 with (first | (go_at_call 94; (with_reducible refine HC1.out.mono ?_); rintro e w1 ⟨rfl, rfl⟩) | (go_at_call 95; (with_reducible refine HC2.out.mono ?_); rintro e w2 ⟨rfl, H2⟩) | (refine wpList_store_row rfl 125 _ _ rfl w2.heap.size A (by first | rfl | simp [Act.eval]) (by first | rfl | simp [Act.eval]) 125 _ (new_heap w2 _) (by rw [size90, hsz]) (by rw [hsz]; rfl) hone ?_))
    rw [← rowC_zero]
    have hr : ((w2.alloc (.cells (rowC fun _ _ => 0) 125)).setRow w2.heap.size A).heap[w2.heap.size]? = some (.cells A 125) := setRow_heap _ _ _ _ 125 _ (new_heap w2 _)
    have HN3 : Hid (Nw _ ((w2.alloc (.cells (rowC fun _ _ => 0) 125)).setRow w2.heap.size A)) := (H2.out.trans ((Fr.refl _ _).alloc _)).setRow _ _ (.inr H2.out.size)
    generalize (w2.alloc (.cells (rowC fun _ _ => 0) 125)).setRow w2.heap.size A = W3 at *
    obtain ⟨rr, hrr⟩ : ∃ r, r = w2.heap.size := ⟨_, rfl⟩
    rw [← hrr] at hr
    rw [← hrr]
    clear hrr HC1 HC2 H2
    rcases hroom with hR0 | hR1
    · subst hR0
      go_wp2_with (first | (refine wpList_load_row rfl 125 _ rfl rr (by first | rfl | simp [Act.eval]) 125 A (0, 0) _ hr Tryd.underlying125 rfl (by rw [size90, hsz]) ?_) | (go_at_call 96; (with_reducible refine (HC3.out _).mono ?_); rintro e w4 ⟨rfl, H4⟩))
      exact HF.out _ (HN3.out.trans H4.out)
    · have hz1 : ((R : Int) == 0) = false := by simp; omega
      have hz2 : (32768 : Int) < (R : Int) := by omega
      go_wp2_with (first | (refine wpList_load_row rfl 125 _ rfl rr (by first | rfl | simp [Act.eval]) 125 A (0, 0) _ hr Tryd.underlying125 rfl (by rw [size90, hsz]) ?_) | (go_at_call 96; (with_reducible refine (HC3.out W3).mono ?_); rintro e w4 ⟨rfl, H4⟩; have hr4 := H4.out.heap hr) | (refine load_row_g (by first | rfl | simp) _ rfl rr (by first | rfl | simp [Act.eval]) A hr4 hsz ?_) | (go_at_call 96; (with_reducible refine (HC3.out _).mono ?_); rintro e w5 ⟨rfl, H5⟩))
      exact HF.out _ ((HN3.out.trans H4.out).trans H5.out)
  · have HC1 : Hid (Calls Tryd.prog 94 #[v] w fun e w' => e = .returned (.bool false) ∧ w' = w) := hcb.mono (fun e w' ⟨⟨b, he, hb⟩, hw⟩ => ⟨by rw [he]; cases b with | false => rfl | true => exact absurd (hb.1 rfl) hk, hw⟩)
    obtain ⟨a, c, rfl, hca, hc2, hcc⟩ := h.form
    have HF2 : Hid (P (.returned (.tuple #[.pointer none, .int .i64 51])) w) := HF.out _ (Fr.refl _ _)
    clear hP hcb hn h
    generalize zs.length = Z at *
    go_enter Tryd.func88, Tryd.ntmps88
    go_wp2_with (first | (go_at_call 94; (with_reducible refine HC1.out.mono ?_); rintro e w1 ⟨rfl, rfl⟩))
    exact HF2.out
end Go.Proofs.YtincbbnppcpfpaaDoor

import Derived.Test.YtincbbnppcpfpaaDoorRows
import Derived.Test.YtincbbnppcpfpaaDoorTbm
import Derived.Test.YtincbbnppcpfpaaDoorTaf
import Derived.Test.YtincbbnppcpfpaaDoorTdc
namespace Go.Proofs.YtincbbnppcpfpaaDoor
open Go.ChangeShapes Go.WideShapes Go.ChangeAt Go.RowKit Go.Deep
set_option linter.unusedVariables false
/-- A step that came in. -/
structure Opn where
  ask : Bool
  other : Bool
  b : List By
instance : Inhabited Opn := ⟨⟨false, false, []⟩⟩
/-- One step in memory. -/
structure OpC (w : World) (g o : Nat) (i : Nat) (t : Opn) : Prop where
  c0 : w.cell? ⟨g, o + i * 3, none⟩ = some (.bool t.ask)
  c1 : w.cell? ⟨g, o + i * 3 + 1, none⟩ = some (.bool t.other)
  c3 : ∃ ba bc, w.cell? ⟨g, o + i * 3 + 2, none⟩ = some (.slice ba t.b.length bc) ∧ Old w (.slice ba t.b.length bc) t.b
theorem OpC.nw {w w' : World} {g o i : Nat} {t : Opn} (h : OpC w g o i t) (f : Nw w w') : OpC w' g o i t := by
  obtain ⟨ba, bc, h1, h2⟩ := h.c3
  exact ⟨f.cell h.c0, f.cell h.c1, ba, bc, f.cell h1, h2.later f⟩
/-- The calls that came in, in memory. -/
def OldO (w : World) (v : Value) (l : List Opn) : Prop := ∃ a c, v = .slice a l.length c ∧ l.length ≤ c ∧ c < 9223372036854775808 ∧ (l ≠ [] → ∃ g o, a = some ⟨g, o, none⟩ ∧ g < w.heap.size ∧ ∀ (i : Nat) (t : Opn), l[i]? = some t → OpC w g o i t)
theorem OldO.nw {w w' : World} {v : Value} {l : List Opn} (h : OldO w v l) (f : Nw w w') : OldO w' v l := by
  obtain ⟨a, c, h1, h2, h3, h4⟩ := h
  refine ⟨a, c, h1, h2, h3, fun hl => ?_⟩
  obtain ⟨g, o, e, hg, hc⟩ := h4 hl
  exact ⟨g, o, e, Nat.lt_of_lt_of_le hg f.size, fun i t hi => (hc i t hi).nw f⟩
theorem OldO.at {w : World} {a : Option Addr} {M c : Nat} {l : List Opn} (h : OldO w (.slice a M c) l) (I : Nat) (hI : I < M) : ∃ g o t, a = some ⟨g, o, none⟩ ∧ l[I]? = some t ∧ t ∈ l ∧ OpC w g o I t := by
  obtain ⟨a2, c2, e2, _, _, hcs⟩ := h
  injection e2 with e2 e3 _
  have hl0 : l ≠ [] := fun e => by rw [e] at e3; simp at e3; omega
  obtain ⟨go, oo, e, hgo, hop⟩ := hcs hl0
  have hi : l[I]? = some (l[I]'(by omega)) := List.getElem?_eq_getElem _
  exact ⟨go, oo, _, e2.trans e, hi, List.getElem_mem _, hop I _ hi⟩
/-- What the calls bring. -/
def wgt : List Opn → Nat
  | [] => 0
  | t :: r => (t.b.length + 1) + wgt r
theorem wgt_take (l : List Opn) (i : Nat) (t : Opn) (h : l[i]? = some t) : wgt (l.take (i + 1)) = wgt (l.take i) + (t.b.length + 1) := by
  induction l generalizing i with
  | nil => simp at h
  | cons x r ih =>
    cases i with
    | zero => simp at h; subst h; simp [wgt]
    | succ i =>
      simp at h
      simp only [List.take_succ_cons, wgt, ih i h]
      omega
theorem wgt_le (l : List Opn) (i : Nat) : wgt (l.take i) ≤ wgt l := by
  induction l generalizing i with
  | nil => simp [wgt]
  | cons x r ih =>
    cases i with
    | zero => simp [wgt]
    | succ i => simp only [List.take_succ_cons, wgt]; have := ih i; omega
theorem wgt_len (l : List Opn) : l.length ≤ wgt l := by
  induction l with
  | nil => simp [wgt]
  | cons x r ih => simp only [List.length_cons, wgt]; omega
namespace infOp
theorem cells4 : Tryd.prog.cellsOf 4 = 1 := by kernel_rfl
theorem cellsB : Tryd.prog.cellsOf 22 = 1 := by kernel_rfl
theorem cellsOp : Tryd.prog.cellsOf 38 = 3 := by kernel_rfl
theorem wgt_bulk {H : Type} (xs : List Nat) (f : Nat → Opn) (D : Nat → DataW H) (h : ∀ x ∈ xs, (f x).b.length + 1 ≤ Rows.uptoBulk (D x)) : wgt (xs.map f) ≤ Rows.uptoBulkAll (xs.map D) := by
  induction xs with
  | nil => simp [wgt, Rows.uptoBulkAll]
  | cons x r ih =>
    have h1 := h x (by simp)
    have h2 := ih (fun y hy => h y (by simp [hy]))
    simp only [List.map_cons, wgt, Rows.uptoBulkAll]
    omega
section
variable {H : Type} {enc : TypeId × Value → H} {W : World}
theorem threeL {α : Type} (xs : List α) (h : xs.length = 3) : ∃ u0 u1 u2, xs = [u0, u1, u2] := by
  match xs, h with
  | [u0, u1, u2], _ => exact ⟨u0, u1, u2, rfl⟩
/-- One step that came in. -/
structure ElO (W : World) (a : Addr) (i : Nat) (D : DataW H) (q : Option Addr × Nat × Opn) : Prop where
  c0 : W.cell? (a.add (i * 3)) = some (.bool q.2.2.ask)
  c1 : W.cell? (a.add (i * 3 + 1)) = some (.bool q.2.2.other)
  c3 : W.cell? (a.add (i * 3 + 2)) = some (.slice q.1 q.2.2.b.length q.2.1)
  old : Old W (.slice q.1 q.2.2.b.length q.2.1) q.2.2.b
  wt : q.2.2.b.length + 1 ≤ Rows.uptoBulk D
theorem elemO {n i : Nat} {a : Addr} {cs' : List Value} {D : DataW H} {Pl : List MemPlace} (h1 : W.cells? 0 (a.add (i * 3)) 3 = some cs') (h2 : DataW.trod enc Tryd.prog W 0 (fun _ => true) true n 38 cs' = some (D, Pl)) : ∃ q, ElO W a i D q := by
  obtain ⟨_, hlen, hcell⟩ := World.cells?_some h1
  obtain ⟨xs, k, hk, hxy, _, hxl, hf⟩ := DataW.trod_struct Tryd.underlying38 h2
  obtain ⟨v0, v1, v3, rfl⟩ := threeL cs' hlen
  obtain ⟨y0, y1, y3, rfl⟩ := threeL xs hxl
  have g0 := hf 0 _ rfl
  have g1 := hf 1 _ rfl
  have g3 := hf 2 _ rfl
  simp [cells4, cellsB] at g0 g1 g3
  have e0 := hcell 0 (by omega)
  have e1 := hcell 1 (by omega)
  have e3 := hcell 2 (by omega)
  rw [add_add] at e0 e1 e3
  obtain ⟨n0, hn0, _⟩ := DataW.trod_bool Tryd.underlying4 g0
  obtain ⟨n1, hn1, _⟩ := DataW.trod_bool Tryd.underlying4 g1
  obtain rfl : v0 = .bool n0 := by simpa using hn0
  obtain rfl : v1 = .bool n1 := by simpa using hn1
  obtain ⟨xa, xl, xc, rfl⟩ : ∃ xa xl xc, v3 = .slice xa xl xc := by
    rcases open_ints (k := .u8) Tryd.underlying22 Tryd.underlying5 cells5 g3 with ⟨hcs, _⟩ | ⟨x, l, c, zs, hcs, _⟩
    · exact ⟨none, 0, 0, by simpa using hcs⟩
    · exact ⟨some x, l, c, by simpa using hcs⟩
  obtain ⟨y31, y32⟩ := y3
  obtain ⟨l, hO, hll, hd⟩ := openedB (enc := enc) (W := W) (a := xa) (len := xl) (cap := xc) (d := y31) (p := y32) ⟨k, by simpa [Value.cells] using g3⟩
  subst hll
  simp only [Prod.mk.injEq] at hxy
  refine ⟨(xa, xc, ⟨n0, n1, l⟩), by simpa using e0, by simpa using e1, by simpa using e3, hO, ?_⟩
  rw [hxy.1]
  simp only [List.map_cons, List.map_nil, Rows.uptoBulk, Rows.uptoBulkAll]
  have b0 := bulk_pos y0.1
  have b3 := bulk_pos y31
  rcases hd with hd | ⟨es, sp, rfl, he⟩
  · omega
  · have := bulk_length es
    simp only [Rows.uptoBulk]
    omega
/-- A list of calls that came in. -/
theorem openedO {a : Option Addr} {len cap : Nat} {d : DataW H} {p : List MemPlace} (h : DataW.Trod enc Tryd.prog W 0 (fun _ => true) true 29 (.slice a len cap) d p) :
    ∃ l : List Opn, l.length = len ∧ OldO W (.slice a len cap) l ∧ wgt l ≤ Rows.uptoBulk d := by
  obtain ⟨fuel, hf⟩ := h
  rcases open_slice Tryd.underlying29 hf with ⟨hcs, _⟩ | ⟨x, l, c, m, n, D, Pl, hcs, _, hl, hm, hmm, hd, hx⟩
  · simp [Value.cells] at hcs
    obtain ⟨rfl, rfl, rfl⟩ := hcs
    exact ⟨[], rfl, ⟨none, 0, rfl, by simp, by decide, fun h => absurd rfl h⟩, by simp [wgt]⟩
  · simp [Value.cells] at hcs
    obtain ⟨rfl, rfl, rfl⟩ := hcs
    simp only [if_true] at hmm
    rw [cellsOp] at hx
    have hdd := (Prod.ext_iff.1 hd).1
    simp only at hdd
    obtain ⟨q, hq⟩ := choose_lt (α := Option Addr × Nat × Opn) (p := fun i q => ElO W x i (D i) q) (n := m) (fun i hi => by
      obtain ⟨cs', h1, h2⟩ := hx i hi
      exact elemO h1 h2)
    obtain ⟨b, off, spot⟩ := x
    have hsp : 0 < len → spot = none := by
      intro h0
      simpa [Addr.add] using World.cell?_spot (hq 0 (by omega)).c0
    refine ⟨(List.range len).map (fun i => (q i).2.2), by simp, ⟨some ⟨b, off, spot⟩, cap, by simp, by simpa using hl, by unfold maxLen at hm; omega, fun h0 => ?_⟩, ?_⟩
    · have hpos : 0 < len := by
        rcases Nat.eq_zero_or_pos len with h | h
        · subst h; exact absurd rfl h0
        · exact h
      obtain rfl := hsp hpos
      have hb : b < W.heap.size := by have := World.block_lt_of_cell? _ _ (hq 0 (by omega)).c0; simpa [Addr.add] using this
      refine ⟨b, off, rfl, hb, fun i t hi => ?_⟩
      obtain ⟨hil, rfl⟩ := List.getElem?_eq_some_iff.1 hi
      have hi' : i < len := by simpa using hil
      have k := hq i (by omega)
      have k0 := k.c0
      have k1 := k.c1
      have k3 := k.c3
      rw [add_plain] at k0 k1 k3
      rw [← Nat.add_assoc] at k1 k3
      simp only [List.getElem_map, List.getElem_range]
      exact ⟨k0, k1, _, _, k3, k.old⟩
    · have := wgt_bulk (List.range len) (fun i => (q i).2.2) D (fun i hi => (hq i (by have := List.mem_range.1 hi; omega)).wt)
      rw [hdd]
      simp only [Rows.uptoBulk]
      omega
end
end infOp
end Go.Proofs.YtincbbnppcpfpaaDoor

namespace Go.Proofs.YtincbbnppcpfpaaDoor
open Go.RowKit
set_option linter.unusedVariables false
variable {pb most : Nat} {S : Nat → Prop} {x b : List By} {w : World}
/-- What feeds leaves. -/
def FdP (pb : Nat) (S : Nat → Prop) (most : Nat) (x b : List By) (w w' : World) : Prop := ∃ S' x', PrI pb S' most x' w' ∧ x'.length ≤ x.length + b.length ∧ (∀ k, S' k → S k ∨ w.heap.size ≤ k) ∧ Fr S w w'
set_option maxHeartbeats 32000000 in
set_option maxRecDepth 100000 in
theorem feeds_any (h : PrI pb S most x w) (ab : Option Addr) (cb : Nat) (hb : Sl (fun k => w.heap.size ≤ k ∨ S k) (.slice ab b.length cb) b w) (hT : Tab w) (hl : x.length + b.length ≤ 1099511627776) :
    Calls Tryd.prog 16 #[.pointer (some ⟨pb, 0, none⟩), .slice ab b.length cb] w fun e w' => e = .returned (.bool true) ∧ FdP pb S most x b w w' := by
  obtain ⟨P, hP⟩ : ∃ P : Ending → World → Prop, P = fun e w' => e = .returned (.bool true) ∧ FdP pb S most x b w w' := ⟨_, rfl⟩
  rw [← hP]
  have hm4 : most ≤ 4194304 := by obtain ⟨rb, db, B, sv, kv, og, og2, va, told, q1, q2, q3, _⟩ := h; exact q3.hm
  obtain ⟨rb, db, B, sv, kv, og, og2, va, told, q1, q2, q3, q4, q5, q6, q7, q8, q9, q10, q11⟩ := h
  obtain ⟨TL, hTL⟩ : ∃ TL, TL = tq most x b := ⟨_, rfl⟩
  obtain ⟨X2, hX2⟩ : ∃ X2, X2 = nx most x b := ⟨_, rfl⟩
  obtain ⟨Y, hY⟩ : ∃ Y, Y = whyOf most X2 := ⟨_, rfl⟩
  have hxl : X2.length ≤ x.length + b.length := by rw [hX2]; exact nx_len
  have htl : TL.length ≤ most := by rw [hTL]; exact tq_len
  have HL : Hid (Calls Tryd.prog 9 #[.slice ab b.length cb] w fun e w1 => ∃ g c, e = .returned (.slice (some ⟨g, 0, none⟩) (b.length + 5) c) ∧ b.length + 5 ≤ c ∧ c < 9223372036854775808 ∧ w1.cell? ⟨pb, 0, none⟩ = some (.pointer (some ⟨rb, 0, none⟩)) ∧ Hid (∀ V, Nw w1 V → Calls Tryd.prog 29 #[.pointer (some ⟨rb, 0, none⟩), .slice (some ⟨g, 0, none⟩) b.length c] V fun e w2 => ∃ a2 c2, e = .returned (.tuple #[.slice a2 TL.length c2, .int .i64 (Y : Nat)]) ∧ w2.cell? ⟨pb, 0, none⟩ = some (.pointer (some ⟨rb, 0, none⟩)) ∧ w2.cell? ⟨pb, 1, none⟩ = some (.pointer (some ⟨db, 0, none⟩)) ∧ Hid (Calls Tryd.prog 30 #[.pointer (some ⟨db, 0, none⟩), .slice ab b.length cb] w2 fun e w3 => ∃ a3 c3, e = .returned (.tuple #[.slice a3 TL.length c3, .int .i64 (Y : Nat)]) ∧ Hid (Calls Tryd.prog 12 #[.slice (some ⟨g, 0, none⟩) (b.length + 5) c, .slice ab b.length cb] w3 fun e w4 => e = .returned (.bool true) ∧ Hid (Calls Tryd.prog 13 #[.slice a2 TL.length c2, .slice a3 TL.length c3] w4 fun e w5 => e = .returned (.bool true) ∧ Hid (P (.returned (.bool true)) w5)))))) := by
    show Calls _ _ _ _ _
    refine (lhand_any w _ b (hb.mono (fun k hk => .inl hk)) (by omega)).mono ?_
    rintro e w1 ⟨g, c, rfl, hO, hg, hN1⟩
    have hOc := hO
    obtain ⟨xs, ex, _, hx3, hx4, _⟩ := hOc
    injection ex with _ _ ex
    have hlm : (b ++ mk5).length = b.length + 5 := by simp [mk5]
    rw [hlm] at hx3
    refine ⟨g, c, rfl, by omega, by omega, (row_cell (hN1.heap q1) 0 _ rfl).1, fun V hV => ?_⟩
    have hold1 : Old w1 (.slice (some ⟨g, 0, none⟩) b.length c) b := by
      obtain ⟨c', e1, _, _, hcut⟩ := hO.cut b.length (by rw [hlm]; omega)
      rw [hlm] at e1
      injection e1 with _ _ e1
      subst e1
      have := hcut.old
      rw [List.take_left] at this
      exact this
    have hglt : g < w1.heap.size := hO.lt
    have s1 := hN1.size
    have sV := hV.size
    have hBl : ∀ k, B k → k < w.heap.size := fun k hk => (q2.bl k hk).1
    have hdl : db < w.heap.size := (q11 db q5).1
    have hpl : pb < w.heap.size := (q11 pb q6).1
    refine (kfeed_q (q2.keep (hN1.trans hV) (fun _ _ e => e) (fun _ _ e => e)) _ (z := b) (Sl.later hold1 hV) (by omega) (hT.kept (hN1.trans hV) (fun e => e)) (fun g' hg' hB => ?_)).mono ?_
    · obtain ⟨o', c', e, _⟩ := hg'
      injection e with e
      injection e with e
      injection e with e
      subst e
      have := hBl g hB
      omega
    rintro e w2 ⟨a2, c2, ogt, sv', kv', og', B', rfl, r2, r3, r4, r5, r6⟩
    rw [← hX2] at r4 ⊢
    rw [← hTL] at r2 ⊢
    rw [← hY]
    have s2 := r6.size
    have f02 : Fr B w w2 := ((hN1.trans hV).any).trans r6
    have row2 := row_kept q1 f02 q9
    refine ⟨a2, c2, rfl, (row_cell row2 0 _ rfl).1, (row_cell row2 1 _ rfl).1, ?_⟩
    have d2 := q3.keep f02 q8 (fun g' hg' => (q7 g' hg').2.1)
    have hb2 : Sl (fun k => w.heap.size ≤ k ∨ S k) (.slice ab b.length cb) b w2 := hb.kept f02 (fun k hk => .inr (q4 k hk))
    show Calls _ _ _ _ _
    refine (mfeed_q d2 _ (z := b) (hb2.mono (fun k hk => .inl (by omega))) hl).mono ?_
    rintro e w3 ⟨a3, c3, ogo, og3, va3, told3, rfl, t2, t3, t4, t5, t6⟩
    rw [← hX2] at t4 ⊢
    rw [← hTL] at t2 ⊢
    rw [← hY]
    have s3 := t6.size
    refine ⟨a3, c3, rfl, ?_⟩
    have hb3 : Sl (fun k => w.heap.size ≤ k ∨ S k) (.slice ab b.length cb) b w3 := hb2.kept t6 (fun k hk => .inr (by rw [hk]; exact q5))
    have hO2 : Ow g (.slice (some ⟨g, 0, none⟩) (b.length + 5) c) (b ++ mk5) w2 := (hO.nw hV).kept r6 (fun hB => by have := hBl g hB; omega)
    have hO3 := hO2.kept t6 (by omega)
    show Calls _ _ _ _ _
    refine (lleft_any w3 g (b.length + 5) c _ b (hb3.mono (fun k hk => .inl (by omega))) rfl hO3 (by omega)).mono ?_
    rintro e w4 ⟨rfl, f4⟩
    refine ⟨rfl, ?_⟩
    have s4 := f4.size
    -- where what was told lies
    have hgt : ∀ k, ogt = some k → k ≠ db ∧ k ≠ g ∧ k ≠ pb ∧ k < w2.heap.size := fun k hk => by
      obtain ⟨v1, v2, v3⟩ := r3 k hk
      refine ⟨fun e => ?_, fun e => ?_, fun e => ?_, v2⟩
      · rcases v3 with v3 | v3
        · exact q8 (e ▸ v3)
        · omega
      · rcases v3 with v3 | v3
        · have := hBl k v3; omega
        · omega
      · rcases v3 with v3 | v3
        · exact q9 (e ▸ v3)
        · omega
    have o2 : Og ogt (.slice a2 TL.length c2) TL w4 := (r2.kept t6 (fun k hk => (hgt k hk).1)).kept f4 (fun k hk => (hgt k hk).2.1)
    have o3 : Og ogo (.slice a3 TL.length c3) TL w4 := t2.kept f4 (fun k hk e => by have := t3 k hk; omega)
    show Calls _ _ _ _ _
    refine (lwiped_any w4 ogt _ _ TL o2 (o3.sl.mono (fun k hk hh => by have := t3 k hh; have := (hgt k hk).2.2.2; omega)) (by omega)).mono ?_
    rintro e w5 ⟨rfl, f5⟩
    refine ⟨rfl, ?_⟩
    show P _ _
    rw [hP]
    have hB' : ∀ k, B' k → k ≠ db ∧ k ≠ pb ∧ k ≠ g ∧ k < w2.heap.size := fun k hk => by
      have v2 := (r4.bl k hk).1
      refine ⟨fun e => ?_, fun e => ?_, fun e => ?_, v2⟩
      · rcases r5 k hk with v3 | v3
        · exact q8 (e ▸ v3)
        · omega
      · rcases r5 k hk with v3 | v3
        · exact q9 (e ▸ v3)
        · omega
      · rcases r5 k hk with v3 | v3
        · have := hBl k v3; omega
        · omega
    have hdk2 : ¬ Kt w2 db := kt_no d2.row (by decide) (by decide) (by decide)
    have R3 := r4.keep t6 (fun k hk e => (hB' k hk).1 e) (fun k hk e => hdk2 (e ▸ hk))
    have R4 := R3.keep f4 (fun k hk e => (hB' k hk).2.2.1 e) (fun k hk e => ow_no hO3 (e ▸ hk))
    have R5 := R4.keep f5 (fun k hk e => (r3 k e).1 hk) (fun k hk e => og_no o2 k e hk)
    have hog3 : ∀ k, og3 = some k → k ≠ g ∧ ogt ≠ some k ∧ k ≠ pb ∧ k ≠ 0 ∧ ¬ B' k ∧ (S k ∨ w.heap.size ≤ k) := fun k hk => by
      obtain ⟨v1, v2⟩ := t5 k hk
      rcases v1 with v1 | v1
      · obtain ⟨z1, z2, z3⟩ := q7 k v1
        have hlt := (q11 k z1).1
        refine ⟨by omega, fun e => ?_, z3, (q11 k z1).2.2, fun e => ?_, .inl z1⟩
        · rcases (r3 k e).2.2 with v3 | v3
          · exact z2 v3
          · omega
        · rcases r5 k e with v3 | v3
          · exact z2 v3
          · omega
      · refine ⟨by omega, fun e => ?_, by omega, by omega, fun e => ?_, .inr (by omega)⟩
        · have := (r3 k e).2.1; omega
        · have := (hB' k e).2.2.2; omega
    have D4 := t4.keep f4 (fun e => by omega) (fun k hk e => (hog3 k hk).1 e)
    have D5 := D4.keep f5 (fun e => (hgt db e).1 rfl) (fun k hk e => (hog3 k hk).2.1 e)
    have row5 := row_kept (row_kept (row_kept row2 t6 (fun e => q10 e.symm)) f4 (fun e => by omega)) f5 (fun e => (hgt pb e).2.2.1 rfl)
    refine ⟨rfl, fun k => B' k ∨ k = db ∨ k = pb ∨ og3 = some k, X2, ⟨rb, db, B', sv', kv', og', og3, va3, told3, row5, R5, ?_, fun k hk => .inl hk, .inr (.inl rfl), .inr (.inr (.inl rfl)), fun k hk => ⟨.inr (.inr (.inr hk)), (hog3 k hk).2.2.2.2.1, (hog3 k hk).2.2.1⟩, fun e => (hB' db e).1 rfl, fun e => (hB' pb e).2.1 rfl, q10, fun k hk => ?_⟩, hxl, fun k hk => ?_, ?_⟩
    · exact D5
    · rcases hk with hk | rfl | rfl | hk
      · exact R5.bl k hk
      · exact ⟨(Array.getElem?_eq_some_iff.1 D5.row).1, kt_no D5.row (by decide) (by decide) (by decide), (q11 _ q5).2.2⟩
      · exact ⟨(Array.getElem?_eq_some_iff.1 row5).1, kt_no row5 (by decide) (by decide) (by decide), (q11 _ q6).2.2⟩
      · exact ⟨D5.ho.lt k hk, og_no D5.ho k hk, (hog3 k hk).2.2.2.1⟩
    · rcases hk with hk | rfl | rfl | hk
      · rcases r5 k hk with v | v
        · exact .inl (q4 k v)
        · exact .inr (by omega)
      · exact .inl q5
      · exact .inl q6
      · exact (hog3 k hk).2.2.2.2.2
    · have F2 : Fr S w w2 := f02.mono (fun k hk => .inl (q4 k hk))
      have F3 : Fr S w w3 := F2.then t6 (fun k hk => .inl (by rw [hk]; exact q5))
      have F4 : Fr S w w4 := F3.then f4 (fun k hk => .inr (by omega))
      refine F4.then f5 (fun k hk => ?_)
      rcases (r3 k hk).2.2 with v | v
      · exact .inl (q4 k v)
      · exact .inr (by omega)
  clear hT hb q1 q2 q3 q4 q5 q6 q7 q8 q9 q10 q11 hP hX2 hxl hY
  generalize TL.length = OL at *
  obtain ⟨L5, hL5⟩ : ∃ L5, L5 = b.length + 5 := ⟨_, rfl⟩
  have hLL : b.length ≤ L5 := by omega
  have hz3 : L5 ≤ 1099511627781 := by omega
  rw [← hL5] at HL
  clear hL5 hTL
  generalize b.length = L at *
  have hz1 : (L : Int) ≤ (L5 : Int) := by omega
  go_enter Tryd.func16, Tryd.ntmps16
  go_upto_region 2 with (first | (go_at_call 9; with_reducible refine HL.out.mono ?_; rintro e w1 ⟨g, c, rfl, v1, v2, c0, H1⟩))
  have hz2 : (L : Int) ≤ (c : Int) := by omega
  have t0 : w1.drew.cell? ⟨pb, 0, none⟩ = some (.pointer (some ⟨rb, 0, none⟩)) := c0
  clear HL
  go_region_held3 (fun W => W.cell? ⟨pb, 0, none⟩ = some (.pointer (some ⟨rb, 0, none⟩)))
    (first | assumption)
    (first | (go_at_call 29; with_reducible refine (H1.out _ ?_).mono ?_; (first | exact (Fr.refl _ _).drew | exact Fr.refl _ _); rintro e w2 ⟨a2, c2, rfl, u0, u1, H2⟩))
  all_goals go_wp2_with (first
    | (go_at_call 30; with_reducible refine H2.out.mono ?_; rintro e w3 ⟨a3, c3, rfl, H3⟩)
    | (go_at_call 12; with_reducible refine H3.out.mono ?_; rintro e w4 ⟨rfl, H4⟩)
    | (go_at_call 13; with_reducible refine H4.out.mono ?_; rintro e w5 ⟨rfl, H5⟩))
  all_goals exact H5.out
/-- A pair that was made. -/
theorem pri_new {w1 : World} {m : Nat} (hm : m ≤ 4194304) (hT : Tab w) (hR : RdI (w.heap.size + 1) (fun k => k = w.heap.size ∨ k = w.heap.size + 1) m [] 0 (.pointer (some ⟨w.heap.size, 0, none⟩)) (.slice none 0 0) none w1) (hN : Nw w w1) :
    PrI (w1.heap.size + 1) (fun k => k = w.heap.size ∨ k = w.heap.size + 1 ∨ k = w1.heap.size ∨ k = w1.heap.size + 1) m [] ((w1.alloc (.cells #[.int .i64 m, .int .i64 0, .slice none 0 0, .int .i64 0] 67)).alloc (.cells #[.pointer (some ⟨w.heap.size + 1, 0, none⟩), .pointer (some ⟨w1.heap.size, 0, none⟩)] 36)) := by
  obtain ⟨W2, hW2⟩ : ∃ W2, W2 = w1.alloc (.cells #[.int .i64 m, .int .i64 0, .slice none 0 0, .int .i64 0] 67) := ⟨_, rfl⟩
  rw [← hW2]
  have hs2 : W2.heap.size = w1.heap.size + 1 := by rw [hW2]; simp
  have r2 : W2.heap[w1.heap.size]? = some (.cells #[.int .i64 m, .int .i64 0, .slice none 0 0, .int .i64 0] 67) := by rw [hW2]; exact new_heap _ _
  have n2 : Nw w1 W2 := by rw [hW2]; exact (Fr.refl _ _).alloc _
  obtain ⟨W3, hW3⟩ : ∃ W3, W3 = W2.alloc (.cells #[.pointer (some ⟨w.heap.size + 1, 0, none⟩), .pointer (some ⟨w1.heap.size, 0, none⟩)] 36) := ⟨_, rfl⟩
  rw [← hW3]
  have r3 : W3.heap[w1.heap.size + 1]? = some (.cells #[.pointer (some ⟨w.heap.size + 1, 0, none⟩), .pointer (some ⟨w1.heap.size, 0, none⟩)] 36) := by rw [hW3, ← hs2]; exact new_heap _ _
  have n3 : Nw W2 W3 := by rw [hW3]; exact (Fr.refl _ _).alloc _
  have hlt := (Array.getElem?_eq_some_iff.1 r3).1
  have hsz1 := (hR.bl (w.heap.size + 1) (.inr rfl)).1
  have h00 : 0 < w.heap.size := World.block_lt_of_cell? _ _ (hT 0 (by decide))
  have R3 := hR.keep (n2.trans n3) (fun _ _ e => e) (fun _ _ e => e)
  have rd3 := n3.heap r2
  have hw0 : whyOf m [] = 0 := why0.2 (.inl (by rw [rf_nil]))
  refine ⟨w.heap.size + 1, w1.heap.size, fun k => k = w.heap.size ∨ k = w.heap.size + 1, _, _, none, none, .slice none 0 0, 0, r3, R3, ⟨?_, ⟨rfl, rfl⟩, fun e => (by cases e), hm, by simp, by rw [rf_nil]; rfl, rfl⟩, fun k hk => by omega, .inr (.inr (.inl rfl)), .inr (.inr (.inr rfl)), fun g hg => (by cases hg), by omega, by omega, by omega, fun k hk => ?_⟩
  · rw [hw0]; exact rd3
  · rcases hk with hk | hk | rfl | rfl
    · exact R3.bl k (.inl hk)
    · exact R3.bl k (.inr hk)
    · exact ⟨by omega, kt_no rd3 (by decide) (by decide) (by decide), by omega⟩
    · exact ⟨by omega, kt_no r3 (by decide) (by decide) (by decide), by omega⟩
set_option maxHeartbeats 8000000 in
set_option maxRecDepth 100000 in
theorem made_any (w : World) (most : Int) (hT : Tab w) : Calls Tryd.prog 14 #[.int .i64 most] w fun e w' => (most < 0 ∨ 4194304 < most → ∃ pb, e = .returned (.tuple #[.pointer (some ⟨pb, 0, none⟩), .bool true]) ∧ w'.cell? ⟨pb, 0, none⟩ = some (.pointer none) ∧ Nw w w') ∧ (∀ m : Nat, most = m → m ≤ 4194304 → ∃ pb S, e = .returned (.tuple #[.pointer (some ⟨pb, 0, none⟩), .bool true]) ∧ PrI pb S m [] w' ∧ (∀ k, S k → w.heap.size ≤ k) ∧ Nw w w') := by
  obtain ⟨P, hP⟩ : ∃ P : Ending → World → Prop, P = fun e w' => (most < 0 ∨ 4194304 < most → ∃ pb, e = .returned (.tuple #[.pointer (some ⟨pb, 0, none⟩), .bool true]) ∧ w'.cell? ⟨pb, 0, none⟩ = some (.pointer none) ∧ Nw w w') ∧ (∀ m : Nat, most = m → m ≤ 4194304 → ∃ pb S, e = .returned (.tuple #[.pointer (some ⟨pb, 0, none⟩), .bool true]) ∧ PrI pb S m [] w' ∧ (∀ k, S k → w.heap.size ≤ k) ∧ Nw w w') := ⟨_, rfl⟩
  rw [← hP]
  by_cases hm : most < 0 ∨ 4194304 < most
  · have HI : Hid (Calls Tryd.prog 18 #[.int .i64 most] w fun e w1 => e = .returned (.tuple #[.pointer none, .int .i64 1]) ∧ Hid (P (.returned (.tuple #[.pointer (some ⟨w1.heap.size + 1, 0, none⟩), .bool true])) ((w1.alloc (.cells #[.int .i64 most, .int .i64 0, .slice none 0 0, .int .i64 0] 67)).alloc (.cells #[.pointer none, .pointer (some ⟨w1.heap.size, 0, none⟩)] 36)))) := by
      show Calls _ _ _ _ _
      refine (inew_any w most hT).mono ?_
      rintro e w1 ⟨h1, _⟩
      obtain ⟨rfl, rfl⟩ := h1 hm
      refine ⟨rfl, ?_⟩
      show P _ _
      rw [hP]
      refine ⟨fun _ => ⟨_, rfl, ?_, ((Fr.refl _ _).alloc _).alloc _⟩, fun m e1 e2 => by omega⟩
      have hr := new_heap (w.alloc (.cells #[.int .i64 most, .int .i64 0, .slice none 0 0, .int .i64 0] 67)) (.cells #[.pointer none, .pointer (some ⟨w.heap.size, 0, none⟩)] 36)
      have hs : (w.alloc (.cells #[.int .i64 most, .int .i64 0, .slice none 0 0, .int .i64 0] 67)).heap.size = w.heap.size + 1 := by simp
      rw [hs] at hr
      exact (row_cell hr 0 _ rfl).1
    clear hP hT
    rcases hm with hm | hm
    · go_enter Tryd.func14, Tryd.ntmps14
      go_wp2_with (first | (go_at_call 18; (with_reducible refine HI.out.mono ?_); rintro e w1 ⟨rfl, HF⟩))
      exact HF.out
    · have h0 : ¬ most < 0 := by omega
      go_enter Tryd.func14, Tryd.ntmps14
      go_wp2_with (first | (go_at_call 18; (with_reducible refine HI.out.mono ?_); rintro e w1 ⟨rfl, HF⟩))
      exact HF.out
  · obtain ⟨mo, rfl⟩ : ∃ mo : Nat, most = mo := ⟨most.toNat, by omega⟩
    have z0 : ¬ (mo : Int) < 0 := by omega
    have z1 : ¬ (4194304 : Int) < (mo : Int) := by omega
    obtain ⟨ib, hib⟩ : ∃ ib, ib = w.heap.size + 1 := ⟨_, rfl⟩
    have HI : Hid (Calls Tryd.prog 18 #[.int .i64 mo] w fun e w1 => e = .returned (.tuple #[.pointer (some ⟨ib, 0, none⟩), .int .i64 0]) ∧ Hid (P (.returned (.tuple #[.pointer (some ⟨w1.heap.size + 1, 0, none⟩), .bool true])) ((w1.alloc (.cells #[.int .i64 mo, .int .i64 0, .slice none 0 0, .int .i64 0] 67)).alloc (.cells #[.pointer (some ⟨ib, 0, none⟩), .pointer (some ⟨w1.heap.size, 0, none⟩)] 36)))) := by
      show Calls _ _ _ _ _
      refine (inew_any w mo hT).mono ?_
      rintro e w1 ⟨_, h2⟩
      obtain ⟨rfl, hR, hN⟩ := h2 mo rfl (by omega)
      subst hib
      refine ⟨rfl, ?_⟩
      show P _ _
      rw [hP]
      refine ⟨fun e => by omega, fun m e1 e2 => ?_⟩
      obtain rfl : m = mo := by omega
      have hs := hN.size
      exact ⟨_, _, rfl, pri_new e2 hT hR hN, fun k hk => by omega, (hN.alloc _).alloc _⟩
    clear hP hT hm hib
    go_enter Tryd.func14, Tryd.ntmps14
    go_wp2_with (first | (go_at_call 18; (with_reducible refine HI.out.mono ?_); rintro e w1 ⟨rfl, HF⟩))
    exact HF.out
end Go.Proofs.YtincbbnppcpfpaaDoor

namespace Go.Proofs.YtincbbnppcpfpaaDoor
open Go.RowKit
set_option linter.unusedVariables false
/-- How the law's loop stands. -/
def RpI2 (w : World) (p1 p2 m1 m2 N : Nat) (wr : World) : Prop := ∃ S1 S2 x1 x2, PrI p1 S1 m1 x1 wr ∧ PrI p2 S2 m2 x2 wr ∧ (∀ k, S1 k → ¬ S2 k) ∧ (∀ k, S1 k ∨ S2 k → w.heap.size ≤ k) ∧ x1.length ≤ N ∧ x2.length ≤ N ∧ Nw w wr ∧ Tab w
variable {w : World} {p1 p2 m1 m2 N : Nat} {wr : World}
theorem RpI2.swap (h : RpI2 w p1 p2 m1 m2 N wr) : RpI2 w p2 p1 m2 m1 N wr := by
  obtain ⟨S1, S2, x1, x2, q1, q2, q3, q4, q5, q6, q7, q8⟩ := h
  exact ⟨S2, S1, x2, x1, q2, q1, fun k h1 h2 => q3 k h2 h1, fun k hk => q4 k hk.symm, q6, q5, q7, q8⟩
theorem PrI.bl {pb most : Nat} {S : Nat → Prop} {x : List By} (h : PrI pb S most x w) : ∀ k, S k → k < w.heap.size ∧ ¬ Kt w k ∧ k ≠ 0 := by
  obtain ⟨rb, db, B, sv, kv, og, og2, va, told, q1, q2, q3, q4, q5, q6, q7, q8, q9, q10, q11⟩ := h
  exact q11
theorem PrI.cell0 {pb most : Nat} {S : Nat → Prop} {x : List By} (h : PrI pb S most x w) : ∃ rb, w.cell? ⟨pb, 0, none⟩ = some (.pointer (some ⟨rb, 0, none⟩)) := by
  obtain ⟨rb, db, B, sv, kv, og, og2, va, told, q1, _⟩ := h
  exact ⟨rb, (row_cell q1 0 _ rfl).1⟩
theorem RpI2.mono {N' : Nat} (h : RpI2 w p1 p2 m1 m2 N wr) (hN : N ≤ N') : RpI2 w p1 p2 m1 m2 N' wr := by
  obtain ⟨S1, S2, x1, x2, q1, q2, q3, q4, q5, q6, q7, q8⟩ := h
  exact ⟨S1, S2, x1, x2, q1, q2, q3, q4, by omega, by omega, q7, q8⟩
/-- tells of the first. -/
theorem RpI2.tells (h : RpI2 w p1 p2 m1 m2 N wr) (hN : N ≤ 1099511627776) : Calls Tryd.prog 15 #[.pointer (some ⟨p1, 0, none⟩)] wr fun e w' => e = .returned (.bool true) ∧ RpI2 w p1 p2 m1 m2 N w' := by
  obtain ⟨S1, S2, x1, x2, q1, q2, q3, q4, q5, q6, q7, q8⟩ := h
  refine (tells_any q1 (by omega)).mono ?_
  rintro e w' ⟨rfl, hN'⟩
  exact ⟨rfl, S1, S2, x1, x2, q1.nw hN', q2.nw hN', q3, q4, q5, q6, q7.trans hN', q8⟩
/-- feeds of the first. -/
theorem RpI2.feeds (h : RpI2 w p1 p2 m1 m2 N wr) (ab : Option Addr) (cb : Nat) (b : List By) (hb : Old w (.slice ab b.length cb) b) (hN : N + b.length ≤ 1099511627776) : Calls Tryd.prog 16 #[.pointer (some ⟨p1, 0, none⟩), .slice ab b.length cb] wr fun e w' => e = .returned (.bool true) ∧ RpI2 w p1 p2 m1 m2 (N + b.length) w' := by
  obtain ⟨S1, S2, x1, x2, q1, q2, q3, q4, q5, q6, q7, q8⟩ := h
  have hs := q7.size
  refine (feeds_any q1 ab cb (b := b) ((Sl.nw hb q7).mono (fun k hk => ?_)) (q8.kept q7 (fun e => e)) (by omega)).mono ?_
  · rcases hk with hk | hk
    · omega
    · exact q4 k (.inl hk)
  · rintro e w' ⟨rfl, S', x', r1, r2, r3, r4⟩
    refine ⟨rfl, S', S2, x', x2, r1, q2.keep r4 (fun k h2 h1 => q3 k h1 h2) (fun k hk h1 => (q1.bl k h1).2.1 hk), fun k h1 h2 => ?_, fun k hk => ?_, by omega, by omega, Fr.then q7 r4 (fun k hk => .inr (q4 k (.inl hk))), q8⟩
    · rcases r3 k h1 with h | h
      · exact q3 k h h2
      · have := (q2.bl k h2).1; omega
    · rcases hk with hk | hk
      · rcases r3 k hk with h | h
        · exact q4 k (.inl h)
        · omega
      · exact q4 k (.inr hk)
set_option maxHeartbeats 32000000 in
set_option maxRecDepth 100000 in
theorem ir_walk (w : World) (most other : Int) (ao : Option Addr) (co : Nat) (l : List Opn) (hl : OldO w (.slice ao l.length co) l) (hll : wgt l ≤ 1048576) (hT : Tab w) :
    Calls Tryd.prog 4 #[.int .i64 most, .int .i64 other, .slice ao l.length co] w fun e w' => e = .returned (.bool true) ∧ Nw w w' := by
  obtain ⟨P, hP⟩ : ∃ P : Ending → World → Prop, P = fun e w' => e = .returned (.bool true) ∧ Nw w w' := ⟨_, rfl⟩
  rw [← hP]
  have HT : Hid (∀ V, Nw w V → P (.returned (.bool true)) V) := fun V hV => by rw [hP]; exact ⟨rfl, hV⟩
  clear hP
  have hlen := wgt_len l
  by_cases hm : most < 0 ∨ 4194304 < most
  · have HM : Hid (Calls Tryd.prog 14 #[.int .i64 most] w fun e w1 => ∃ pb, e = .returned (.tuple #[.pointer (some ⟨pb, 0, none⟩), .bool true]) ∧ Hid (Calls Tryd.prog 14 #[.int .i64 other] w1 fun e w2 => ∃ pb2, e = .returned (.tuple #[.pointer (some ⟨pb2, 0, none⟩), .bool true]) ∧ w2.cell? ⟨pb, 0, none⟩ = some (.pointer none) ∧ Hid (Nw w w2))) := by
      show Calls _ _ _ _ _
      refine (made_any w most hT).mono ?_
      rintro e w1 ⟨h1, _⟩
      obtain ⟨pb, rfl, hc, hN1⟩ := h1 hm
      refine ⟨pb, rfl, ?_⟩
      show Calls _ _ _ _ _
      refine (made_any w1 other (hT.kept hN1 (fun e => e))).mono ?_
      rintro e w2 ⟨h3, h4⟩
      by_cases ho : other < 0 ∨ 4194304 < other
      · obtain ⟨pb2, rfl, _, hN2⟩ := h3 ho
        exact ⟨pb2, rfl, hN2.cell hc, hN1.trans hN2⟩
      · obtain ⟨pb2, S2, rfl, _, _, hN2⟩ := h4 other.toNat (by omega) (by omega)
        exact ⟨pb2, rfl, hN2.cell hc, hN1.trans hN2⟩
    clear hT hl hm hlen hll
    generalize l.length = M at *
    go_enter Tryd.func4, Tryd.ntmps4
    go_wp2_with (first | (go_at_call 14; with_reducible refine HM.out.mono ?_; rintro e w1 ⟨pb, rfl, H1⟩) | (go_at_call 14; with_reducible refine H1.out.mono ?_; rintro e w2 ⟨pb2, rfl, hc, H2⟩))
    exact HT.out _ H2.out
  · obtain ⟨m1, rfl⟩ : ∃ m : Nat, most = m := ⟨most.toNat, by omega⟩
    by_cases ho : other < 0 ∨ 4194304 < other
    · have HM : Hid (Calls Tryd.prog 14 #[.int .i64 m1] w fun e w1 => ∃ pb, e = .returned (.tuple #[.pointer (some ⟨pb, 0, none⟩), .bool true]) ∧ Hid (Calls Tryd.prog 14 #[.int .i64 other] w1 fun e w2 => ∃ pb2, e = .returned (.tuple #[.pointer (some ⟨pb2, 0, none⟩), .bool true]) ∧ ∃ rb, w2.cell? ⟨pb, 0, none⟩ = some (.pointer (some ⟨rb, 0, none⟩)) ∧ w2.cell? ⟨pb2, 0, none⟩ = some (.pointer none) ∧ Hid (Nw w w2))) := by
        show Calls _ _ _ _ _
        refine (made_any w m1 hT).mono ?_
        rintro e w1 ⟨_, h2⟩
        obtain ⟨pb, S, rfl, hp, _, hN1⟩ := h2 m1 rfl (by omega)
        refine ⟨pb, rfl, ?_⟩
        show Calls _ _ _ _ _
        refine (made_any w1 other (hT.kept hN1 (fun e => e))).mono ?_
        rintro e w2 ⟨h3, h4⟩
        obtain ⟨pb2, rfl, hc, hN2⟩ := h3 ho
        obtain ⟨rb, hrb⟩ := (hp.nw hN2).cell0
        exact ⟨pb2, rfl, rb, hrb, hc, hN1.trans hN2⟩
      clear hT hl hm hlen hll ho
      generalize l.length = M at *
      go_enter Tryd.func4, Tryd.ntmps4
      go_wp2_with (first | (go_at_call 14; with_reducible refine HM.out.mono ?_; rintro e w1 ⟨pb, rfl, H1⟩) | (go_at_call 14; with_reducible refine H1.out.mono ?_; rintro e w2 ⟨pb2, rfl, rb, hc1, hc, H2⟩))
      exact HT.out _ H2.out
    · obtain ⟨m2, rfl⟩ : ∃ m : Nat, other = m := ⟨other.toNat, by omega⟩
      have HM : Hid (Calls Tryd.prog 14 #[.int .i64 m1] w fun e w1 => ∃ pb, e = .returned (.tuple #[.pointer (some ⟨pb, 0, none⟩), .bool true]) ∧ Hid (Calls Tryd.prog 14 #[.int .i64 m2] w1 fun e w2 => ∃ pb2, e = .returned (.tuple #[.pointer (some ⟨pb2, 0, none⟩), .bool true]) ∧ ∃ rb rb2, w2.cell? ⟨pb, 0, none⟩ = some (.pointer (some ⟨rb, 0, none⟩)) ∧ w2.cell? ⟨pb2, 0, none⟩ = some (.pointer (some ⟨rb2, 0, none⟩)) ∧ Hid (RpI2 w pb pb2 m1 m2 0 w2))) := by
        show Calls _ _ _ _ _
        refine (made_any w m1 hT).mono ?_
        rintro e w1 ⟨_, h2⟩
        obtain ⟨pb, S, rfl, hp, hS, hN1⟩ := h2 m1 rfl (by omega)
        refine ⟨pb, rfl, ?_⟩
        show Calls _ _ _ _ _
        refine (made_any w1 m2 (hT.kept hN1 (fun e => e))).mono ?_
        rintro e w2 ⟨h3, h4⟩
        obtain ⟨pb2, S2, rfl, hp2, hS2, hN2⟩ := h4 m2 rfl (by omega)
        obtain ⟨rb, hrb⟩ := (hp.nw hN2).cell0
        obtain ⟨rb2, hrb2⟩ := hp2.cell0
        have hs := hN1.size
        refine ⟨pb2, rfl, rb, rb2, hrb, hrb2, S, S2, [], [], hp.nw hN2, hp2, fun k h1 h2 => ?_, fun k hk => ?_, by simp, by simp, hN1.trans hN2, hT⟩
        · have := (hp.bl k h1).1
          have := hS2 k h2
          omega
        · rcases hk with hk | hk
          · exact hS k hk
          · have := hS2 k hk; omega
      have HL : Hid (OldO w (.slice ao l.length co) l) := hl
      have HW : Hid (wgt l ≤ 1048576) := hll
      clear hT hl hm ho hll
      obtain ⟨M, hM⟩ : ∃ M, M = l.length := ⟨_, rfl⟩
      rw [← hM] at HL hlen ⊢
      have HMl : Hid (M = l.length) := hM
      have hMb : M ≤ 1048576 := by have := HW.out; omega
      clear hM hlen
      go_enter Tryd.func4, Tryd.ntmps4
      go_upto_region 6 with (first | (go_at_call 14; with_reducible refine HM.out.mono ?_; rintro e w1 ⟨p1, rfl, H1⟩) | (go_at_call 14; with_reducible refine H1.out.mono ?_; rintro e w2 ⟨p2, rfl, rb, rb2, hc1, hc2, HI0⟩))
      clear HM H1
      go_loopg [8, 11, 12] M (fun kx v8 v11 v12 wr => ∃ (I : Nat), I ≤ M ∧ M - I ≤ kx ∧ v8 = .bool true ∧ v11 = .int .i64 I ∧ Hid (RpI2 w p1 p2 m1 m2 (wgt (l.take I)) wr))
      case atStart => exact ⟨0, by omega, by omega, rfl, rfl, HI0⟩
      case round =>
        obtain ⟨I, hI, hkx, rfl, rfl, HI⟩ := hrel
        clear HI0
        by_cases hlt : I < M
        · obtain ⟨go, oo, t, rfl, ht, _, hop⟩ := HL.out.at I hlt
          have hN0 : Nw w wr := by obtain ⟨S1, S2, x1, x2, q1, q2, q3, q4, q5, q6, q7, q8⟩ := HI.out; exact q7
          have y0 := (hop.nw hN0).c0
          have y1 := (hop.nw hN0).c1
          obtain ⟨ba, bc, y2w, hbo⟩ := hop.c3
          have y2 := hN0.cell y2w
          have hw1 := wgt_take l I t ht
          have hw2 := wgt_le l (I + 1)
          have hwl := HW.out
          have hz : (I : Int) < (M : Int) := by omega
          have HA1 : Hid (Calls Tryd.prog 15 #[.pointer (some ⟨p1, 0, none⟩)] wr fun e w' => e = .returned (.bool true) ∧ Hid (RpI2 w p1 p2 m1 m2 (wgt (l.take (I + 1))) w')) := by
            show Calls _ _ _ _ _
            refine (HI.out.tells (by omega)).mono ?_
            rintro e w' ⟨rfl, h⟩
            exact ⟨rfl, h.mono (by omega)⟩
          have HA2 : Hid (Calls Tryd.prog 15 #[.pointer (some ⟨p2, 0, none⟩)] wr fun e w' => e = .returned (.bool true) ∧ Hid (RpI2 w p1 p2 m1 m2 (wgt (l.take (I + 1))) w')) := by
            show Calls _ _ _ _ _
            refine (HI.out.swap.tells (by omega)).mono ?_
            rintro e w' ⟨rfl, h⟩
            exact ⟨rfl, (h.mono (by omega)).swap⟩
          have HB1 : Hid (Calls Tryd.prog 16 #[.pointer (some ⟨p1, 0, none⟩), .slice ba t.b.length bc] wr fun e w' => e = .returned (.bool true) ∧ Hid (RpI2 w p1 p2 m1 m2 (wgt (l.take (I + 1))) w')) := by
            show Calls _ _ _ _ _
            refine (HI.out.feeds ba bc t.b hbo (by omega)).mono ?_
            rintro e w' ⟨rfl, h⟩
            exact ⟨rfl, h.mono (by omega)⟩
          have HB2 : Hid (Calls Tryd.prog 16 #[.pointer (some ⟨p2, 0, none⟩), .slice ba t.b.length bc] wr fun e w' => e = .returned (.bool true) ∧ Hid (RpI2 w p1 p2 m1 m2 (wgt (l.take (I + 1))) w')) := by
            show Calls _ _ _ _ _
            refine (HI.out.swap.feeds ba bc t.b hbo (by omega)).mono ?_
            rintro e w' ⟨rfl, h⟩
            exact ⟨rfl, (h.mono (by omega)).swap⟩
          clear hw1 hw2 hwl HI hop ht hbo hN0 y2w HL HW HMl HT
          generalize t.b.length = BL at *
          generalize t.ask = A at *
          generalize t.other = O at *
          cases O <;> cases A
          all_goals (
            go_wp2_with (first
              | (go_at_call 15; with_reducible refine HA1.out.mono ?_; rintro e w5 ⟨rfl, H5⟩)
              | (go_at_call 15; with_reducible refine HA2.out.mono ?_; rintro e w5 ⟨rfl, H5⟩)
              | (go_at_call 16; with_reducible refine HB1.out.mono ?_; rintro e w5 ⟨rfl, H5⟩)
              | (go_at_call 16; with_reducible refine HB2.out.mono ?_; rintro e w5 ⟨rfl, H5⟩))
            go_roundg (M - (I + 1))
            all_goals (first | omega | exact ⟨I + 1, by omega, by omega, rfl, by first | rfl | (congr 1), H5⟩))
        · obtain rfl : I = M := by omega
          have hz : ¬ (I : Int) < (I : Int) := by omega
          have hw2 := wgt_le l I
          have hwl := HW.out
          have HE : Hid (Calls Tryd.prog 15 #[.pointer (some ⟨p1, 0, none⟩)] wr fun e w' => e = .returned (.bool true) ∧ Hid (Calls Tryd.prog 15 #[.pointer (some ⟨p2, 0, none⟩)] w' fun e w2 => e = .returned (.bool true) ∧ Hid (Nw w w2))) := by
            show Calls _ _ _ _ _
            refine (HI.out.tells (by omega)).mono ?_
            rintro e w' ⟨rfl, h⟩
            refine ⟨rfl, ?_⟩
            show Calls _ _ _ _ _
            refine (h.swap.tells (by omega)).mono ?_
            rintro e w2 ⟨rfl, h2⟩
            obtain ⟨S1, S2, x1, x2, q1, q2, q3, q4, q5, q6, q7, q8⟩ := h2
            exact ⟨rfl, q7⟩
          clear HI hw2 hwl HL HW HMl
          go_wp2_with (first
            | (go_at_call 15; with_reducible refine HE.out.mono ?_; rintro e w5 ⟨rfl, H5⟩)
            | (go_at_call 15; with_reducible refine H5.out.mono ?_; rintro e w6 ⟨rfl, H6⟩))
          exact HT.out _ H6.out
end Go.Proofs.YtincbbnppcpfpaaDoor

import Derived.Test.YtincbbnppcpfpaaDoorUbc
namespace Go.Proofs.YtincbbnppcpfpaaDoor
open Go.RowKit
set_option linter.unusedVariables false
variable {sb rb : Nat} {K : Nat → Prop} {rv : Value} {v : Value} {b : List By} {p : Nat} {skip left : Int} {most told : Nat} {m : Mm} {s : Sx} {w : World}
/-- New blocks are only read from here on. -/
theorem StI.fresh {w1 : World} (h : StI sb rb K v b p skip left most told m s w) (h1 : StI sb rb K v b p skip left most told m s w1) (hs : w.heap.size ≤ w1.heap.size) : StI sb rb (fun k => K k ∨ (w.heap.size ≤ k ∧ k < w1.heap.size)) v b p skip left most told m s w1 :=
  h1.more (fun k hk => .inl hk) (fun k hk => by
    rcases hk with e | e
    · exact .inl e
    · have a1 := h.sm.lts
      have a2 := h.rr.lt
      exact .inr ⟨e.2, by omega, by omega, fun e2 => by have := h.sm.win.lt k e2; omega, fun e2 => by have := h.sm.pl.lt k e2; omega⟩)
/-- The codes are put into the stream, which goes on to symbols. -/
theorem StI.codes {K' : Nat → Prop} {u0 u1 : Option Addr} {f : Bool} {la lb : List Nat} (h : StI sb rb K' v b p skip left most told m s w) (hl : m.l = s.lst) (h0 : CodV K' (.pointer u0) la w) (h1 : CodV K' (.pointer u1) lb w) (h2 : f = true → la = fixA ∧ lb = fixB) :
    StI sb rb K' v b p skip left most told { m with us := .pointer u0, ud := .pointer u1, fx := f } { s with md := 2, la := la, lb := lb } ((((w.setCell ⟨sb, 10, none⟩ (.pointer u0)).setCell ⟨sb, 11, none⟩ (.pointer u1)).setCell ⟨sb, 12, none⟩ (.bool f)).setCell ⟨sb, 7, none⟩ (.int .i64 2)) ∧
    Fr (fun k => k = sb) w ((((w.setCell ⟨sb, 10, none⟩ (.pointer u0)).setCell ⟨sb, 11, none⟩ (.pointer u1)).setCell ⟨sb, 12, none⟩ (.bool f)).setCell ⟨sb, 7, none⟩ (.int .i64 2)) := by
  have hm := h.sm
  have hks : ∀ k, K' k → ¬ k = sb := fun k hk e => h.sm.ks (by rw [← e]; exact hk)
  have fa : Fr (fun k => k = sb) w ((((w.setCell ⟨sb, 10, none⟩ (.pointer u0)).setCell ⟨sb, 11, none⟩ (.pointer u1)).setCell ⟨sb, 12, none⟩ (.bool f)).setCell ⟨sb, 7, none⟩ (.int .i64 2)) := Fr.setCell (Fr.setCell (Fr.setCell (Fr.setCell (Fr.refl (fun k => k = sb) w) ⟨sb, 10, none⟩ _ (.inl rfl)) ⟨sb, 11, none⟩ _ (.inl rfl)) ⟨sb, 12, none⟩ _ (.inl rfl)) ⟨sb, 7, none⟩ _ (.inl rfl)
  have k0 := h0.kept fa hks
  have k1 := h1.kept fa hks
  refine ⟨h.sm' ⟨row_set (row_set (row_set (row_set hm.row 10 _) 11 _) 12 _) 7 _, hm.ks, fun k hk => Nat.lt_of_lt_of_le (hm.lt k hk) fa.size, hm.win.kept fa (fun g hg e => (hm.nw g hg).2 e), hm.wi, hm.pl.kept fa (fun g hg e => (hm.np g hg).2.1 e), hm.nw, hm.np, fun _ => hl, fun _ => ⟨k0, k1⟩, fun e => ?_, ⟨_, rfl⟩, ⟨_, rfl⟩, hm.ol, hm.ml, hm.td⟩ fa rfl rfl, fa⟩
  obtain ⟨e1, e2⟩ := h2 e
  rw [e1] at k0
  rw [e2] at k1
  exact ⟨k0, k1⟩
/-- Their cells. -/
theorem codes_cells {T : Nat} {A : Array Value} {V : World} {e10 e11 e12 e7 : Value} (u0 u1 f : Value) (hr : V.heap[sb]? = some (.cells A T)) (h0 : A[10]? = some e10) (h1 : A[11]? = some e11) (h2 : A[12]? = some e12) (h3 : A[7]? = some e7) :
    V.cell? ⟨sb, 10, none⟩ = some e10 ∧ V.frozen? ⟨sb, 10, none⟩ = false ∧ (V.setCell ⟨sb, 10, none⟩ u0).cell? ⟨sb, 11, none⟩ = some e11 ∧ (V.setCell ⟨sb, 10, none⟩ u0).frozen? ⟨sb, 11, none⟩ = false ∧ ((V.setCell ⟨sb, 10, none⟩ u0).setCell ⟨sb, 11, none⟩ u1).cell? ⟨sb, 12, none⟩ = some e12 ∧ ((V.setCell ⟨sb, 10, none⟩ u0).setCell ⟨sb, 11, none⟩ u1).frozen? ⟨sb, 12, none⟩ = false ∧ (((V.setCell ⟨sb, 10, none⟩ u0).setCell ⟨sb, 11, none⟩ u1).setCell ⟨sb, 12, none⟩ f).cell? ⟨sb, 7, none⟩ = some e7 ∧ (((V.setCell ⟨sb, 10, none⟩ u0).setCell ⟨sb, 11, none⟩ u1).setCell ⟨sb, 12, none⟩ f).frozen? ⟨sb, 7, none⟩ = false := by
  have r1 := row_set hr 10 u0
  have r2 := row_set r1 11 u1
  have r3 := row_set r2 12 f
  have g1 : (A.setIfInBounds 10 u0)[11]? = some e11 := by rw [Array.getElem?_setIfInBounds, if_neg (by decide)]; exact h1
  have g2 : ((A.setIfInBounds 10 u0).setIfInBounds 11 u1)[12]? = some e12 := by rw [Array.getElem?_setIfInBounds, if_neg (by decide), Array.getElem?_setIfInBounds, if_neg (by decide)]; exact h2
  have g3 : (((A.setIfInBounds 10 u0).setIfInBounds 11 u1).setIfInBounds 12 f)[7]? = some e7 := by rw [Array.getElem?_setIfInBounds, if_neg (by decide), Array.getElem?_setIfInBounds, if_neg (by decide), Array.getElem?_setIfInBounds, if_neg (by decide)]; exact h3
  exact ⟨(row_cell hr 10 _ h0).1, (row_cell hr 10 _ h0).2, (row_cell r1 11 _ g1).1, (row_cell r1 11 _ g1).2, (row_cell r2 12 _ g2).1, (row_cell r2 12 _ g2).2, (row_cell r3 7 _ g3).1, (row_cell r3 7 _ g3).2⟩
set_option maxHeartbeats 16000000 in
set_option maxRecDepth 100000 in
theorem fixedCodes_any (h : StI sb rb K v b p skip left most told m s w) (hl : m.l = s.lst) :
    Calls Tryd.prog 62 #[.pointer (some ⟨sb, 0, none⟩)] w fun e w' => (∃ r, e = .returned r) ∧ (∃ m' K', StI sb rb K' v b p skip left most told m' { s with md := 2, la := fixA, lb := fixB } w' ∧ (∀ k, K k → K' k) ∧ (∀ k, K' k → K k ∨ w.heap.size ≤ k)) ∧ Fr (fun k => ¬ K k) w w' := by
  obtain ⟨P, hP⟩ : ∃ P : Ending → World → Prop, P = fun e w' => (∃ r, e = .returned r) ∧ (∃ m' K', StI sb rb K' v b p skip left most told m' { s with md := 2, la := fixA, lb := fixB } w' ∧ (∀ k, K k → K' k) ∧ (∀ k, K' k → K k ∨ w.heap.size ≤ k)) ∧ Fr (fun k => ¬ K k) w w' := ⟨_, rfl⟩
  rw [← hP]
  have c12 := (sc12 h.sm.row).1
  cases hfx : m.fx with
  | true =>
    obtain ⟨q1, q2⟩ := h.sm.set 7 (.int .i64 2) (.pointer (some ⟨rb, 0, none⟩)) skip left m { s with md := 2, la := fixA, lb := fixB } rfl rfl rfl rfl rfl rfl rfl (fun _ => hl) (fun _ => h.sm.cf hfx) h.sm.cf h.sm.pu h.sm.pd
    have h1 := h.sm' q1 q2 rfl rfl
    have HF : Hid (∀ r, P (.returned r) (w.setCell ⟨sb, 7, none⟩ (.int .i64 2))) := fun r => by
      rw [hP]
      exact ⟨⟨_, rfl⟩, ⟨m, K, h1, fun _ hk => hk, fun _ hk => .inl hk⟩, h.frs q2⟩
    obtain ⟨c70, c71⟩ := sc7 h.sm.row
    rw [hfx] at c12
    clear hP h h1 q1 q2
    go_enter Tryd.func62, Tryd.ntmps62
    go_wp2_with fail
    go_end0
    exact HF.out _
  | false =>
    have HC : Hid (Calls Tryd.prog 76 #[] w fun e w1 => ∃ ca cb, e = .returned (.agg #[.pointer (some ⟨ca, 0, none⟩), .pointer (some ⟨cb, 0, none⟩), .bool true]) ∧ ∃ e10 e11 e12 e7, w1.cell? ⟨sb, 10, none⟩ = some e10 ∧ w1.frozen? ⟨sb, 10, none⟩ = false ∧ (w1.setCell ⟨sb, 10, none⟩ (.pointer (some ⟨ca, 0, none⟩))).cell? ⟨sb, 11, none⟩ = some e11 ∧ (w1.setCell ⟨sb, 10, none⟩ (.pointer (some ⟨ca, 0, none⟩))).frozen? ⟨sb, 11, none⟩ = false ∧ ((w1.setCell ⟨sb, 10, none⟩ (.pointer (some ⟨ca, 0, none⟩))).setCell ⟨sb, 11, none⟩ (.pointer (some ⟨cb, 0, none⟩))).cell? ⟨sb, 12, none⟩ = some e12 ∧ ((w1.setCell ⟨sb, 10, none⟩ (.pointer (some ⟨ca, 0, none⟩))).setCell ⟨sb, 11, none⟩ (.pointer (some ⟨cb, 0, none⟩))).frozen? ⟨sb, 12, none⟩ = false ∧ (((w1.setCell ⟨sb, 10, none⟩ (.pointer (some ⟨ca, 0, none⟩))).setCell ⟨sb, 11, none⟩ (.pointer (some ⟨cb, 0, none⟩))).setCell ⟨sb, 12, none⟩ (.bool true)).cell? ⟨sb, 7, none⟩ = some e7 ∧ (((w1.setCell ⟨sb, 10, none⟩ (.pointer (some ⟨ca, 0, none⟩))).setCell ⟨sb, 11, none⟩ (.pointer (some ⟨cb, 0, none⟩))).setCell ⟨sb, 12, none⟩ (.bool true)).frozen? ⟨sb, 7, none⟩ = false ∧ Hid (∀ r, P (.returned r) ((((w1.setCell ⟨sb, 10, none⟩ (.pointer (some ⟨ca, 0, none⟩))).setCell ⟨sb, 11, none⟩ (.pointer (some ⟨cb, 0, none⟩))).setCell ⟨sb, 12, none⟩ (.bool true)).setCell ⟨sb, 7, none⟩ (.int .i64 2)))) := (newFixed_any w).mono (by
      rintro e w1 ⟨ca, ga, sa, wa, ya, cb, gb, sb', wb, yb, a1, a2, a3, a4, a5, a6, a7, a8, a9, a10⟩
      have h1 := h.nw a4
      have hk := h.fresh h1 a4.size
      obtain ⟨l1, l2, l3⟩ := a2.c.lt
      obtain ⟨l4, l5, l6⟩ := a3.c.lt
      obtain ⟨z1, z2⟩ := hk.codes (u0 := some ⟨ca, 0, none⟩) (u1 := some ⟨cb, 0, none⟩) (f := true) (la := fixA) (lb := fixB) hl (.inr ⟨ca, ga, sa, wa, ya, rfl, a2, cod_fixA, .inr ⟨a5, l1⟩, .inr ⟨a6, l2⟩, .inr ⟨a7, l3⟩⟩) (.inr ⟨cb, gb, sb', wb, yb, rfl, a3, cod_fixB, .inr ⟨a8, l4⟩, .inr ⟨a9, l5⟩, .inr ⟨a10, l6⟩⟩) (fun _ => ⟨rfl, rfl⟩)
      refine ⟨ca, cb, a1, m.us, m.ud, .bool m.fx, .int .i64 s.md, ?_⟩
      obtain ⟨x1, x2, x3, x4, x5, x6, x7, x8⟩ := codes_cells (.pointer (some ⟨ca, 0, none⟩)) (.pointer (some ⟨cb, 0, none⟩)) (.bool true) h1.sm.row rfl rfl rfl rfl
      refine ⟨x1, x2, x3, x4, x5, x6, x7, x8, fun r => ?_⟩
      rw [hP]
      exact ⟨⟨_, rfl⟩, ⟨_, _, z1, fun k hk => .inl hk, fun k hk => hk.imp id (fun e => e.1)⟩, a4.any.trans (z2.mono (fun i hi => .inl (by rw [hi]; exact h.sm.ks)))⟩)
    rw [hfx] at c12
    clear hP h
    go_enter Tryd.func62, Tryd.ntmps62
    go_wp2_with (first | (go_at_call 76; (with_reducible refine HC.out.mono ?_); rintro e w1 ⟨ca, cb, rfl, e10, e11, e12, e7, x1, x2, x3, x4, x5, x6, x7, x8, HF⟩))
    go_end0
    exact HF.out _
end Go.Proofs.YtincbbnppcpfpaaDoor

namespace Go.Proofs.YtincbbnppcpfpaaDoor
open Go.RowKit
set_option linter.unusedVariables false
variable {sb rb : Nat} {K : Nat → Prop} {v : Value} {b : List By} {p : Nat} {w : World}
/-- What reading lengths answers. -/
def Lnd (sb rb : Nat) (K : Nat → Prop) (v : Value) (b : List By) (w : World) (r : Rz (List Nat × Bt)) (e : Ending) (w' : World) : Prop :=
  (∃ y, r = .bad y ∧ e = gv y ∧ Fr (fun k => k = rb) w w') ∨ (∃ l p' g c, r = .ok (l, bt b p') ∧ e = .returned (.slice (some ⟨g, 0, none⟩) l.length c) ∧ OwR RI g (.slice (some ⟨g, 0, none⟩) l.length c) (toI l) w' ∧ w.heap.size ≤ g ∧ (∀ i, l.getD i 0 ≤ 15) ∧ Lt sb rb (fun k => ¬ K k) v b p' w' ∧ Fr (fun k => k = rb) w w')
/-- How the loop stands: the lengths l are read. -/
structure LnI (sb rb : Nat) (K : Nat → Prop) (v : Value) (b : List By) (w : World) (sm : List Nat) (N lb : Nat) (r0 : Rz (List Nat × Bt)) (p' : Nat) (ol : Option Nat) (k : Nat) (l : List Nat) (W : World) : Prop where
  r : r0 = lensR sm N k l (bt b p')
  k1 : N ≤ l.length + k
  lt : Lt sb rb (fun k => ¬ K k) v b p' W
  ln : LnM lb ol l W
  og : ∀ g, ol = some g → w.heap.size ≤ g
  fr : Fr (fun k => k = rb) w W
  each : ∀ i, l.getD i 0 ≤ 15
theorem getD_app (l m : List Nat) (B : Nat) (h1 : ∀ i, l.getD i 0 ≤ B) (h2 : ∀ x ∈ m, x ≤ B) (i : Nat) : (l ++ m).getD i 0 ≤ B := by
  rw [List.getD_eq_getElem?_getD]
  by_cases h : i < l.length
  · rw [List.getElem?_append_left h, ← List.getD_eq_getElem?_getD]; exact h1 i
  · rw [List.getElem?_append_right (by omega)]
    cases hq : m[i - l.length]? with
    | none => simp
    | some x => exact h2 x (List.mem_of_getElem? hq)
theorem lensR_lt {sm : List Nat} {N k : Nat} {l : List Nat} {t : Bt} (h : l.length < N) (hk : N ≤ l.length + k) : ∃ k', k = k' + 1 ∧ lensR sm N k l = bindR (symR sm) fun y =>
        if y = 16 then (if l.length = 0 then failR 62 else bindR (takeR 2) fun v => lensR sm N k' (l ++ List.replicate (3 + v) (lastL l)))
        else if y = 17 then bindR (takeR 3) fun v => lensR sm N k' (l ++ List.replicate (3 + v) 0)
        else if y = 18 then bindR (takeR 7) fun v => lensR sm N k' (l ++ List.replicate (11 + v) 0)
        else lensR sm N k' (l ++ [y]) := by
  obtain ⟨k', rfl⟩ : ∃ k', k = k' + 1 := ⟨k - 1, by omega⟩
  refine ⟨k', rfl, ?_⟩
  rw [lensR, if_pos h]
theorem lensR_ge {sm : List Nat} {N k : Nat} {l : List Nat} (h : ¬ l.length < N) : lensR sm N k l = if N < l.length then failR 62 else retR l := by
  cases k with
  | zero => rfl
  | succ k => rw [lensR, if_neg h]
variable {sm : List Nat} {N lb : Nat} {r0 : Rz (List Nat × Bt)} {p' : Nat} {ol : Option Nat} {k : Nat} {l : List Nat} {W : World}
/-- The lengths grow. -/
theorem LnI.next {p2 k' : Nat} {m : List Nat} {V : World} {ol' : Option Nat} (hK : ∀ k, K k → k < w.heap.size) (hlb : w.heap.size ≤ lb) (hrb : rb < w.heap.size) (hsb : sb < w.heap.size) {r1 : Rz (List Nat × Bt)} {q1 q2 : Nat} (h : LnI sb rb K v b w sm N lb r1 q1 ol q2 l W) (hr : r0 = lensR sm N k' (l ++ m) (bt b p2)) (hk : N ≤ (l ++ m).length + k') (hL : Lt sb rb (fun k => ¬ K k) v b p2 W) (hm : ∀ x ∈ m, x ≤ 15)
    (hM : LnM lb ol' (l ++ m) V) (hF : Fr (fun i => i = lb ∨ ol = some i) W V) (hw : Went ol ol' W) : LnI sb rb K v b w sm N lb r0 p2 ol' k' (l ++ m) V := by
  have hY : ∀ i, (i = lb ∨ ol = some i) → w.heap.size ≤ i := fun i hi => by
    rcases hi with e | e
    · omega
    · exact h.og i e
  refine ⟨hr, hk, ⟨hF.cellv hL.c0 (fun e => ?_), hL.ne, hL.rr.kept hF (fun e => ?_) (fun g hg hk => ?_), hL.pl⟩, hM, fun g hg => ?_, h.fr.then hF (fun i hi => .inr (hY i hi)), fun i => getD_app l m 15 h.each hm i⟩
  · have := hY _ e
    simp only at this
    omega
  · have := hY _ e
    omega
  · have := hY _ hg
    have := hK g hk
    omega
  · rcases hw with e | ⟨g', e, hg'⟩
    · rw [e] at hg; exact h.og g hg
    · rw [hg] at e
      injection e with e
      have := h.fr.size
      omega
end Go.Proofs.YtincbbnppcpfpaaDoor

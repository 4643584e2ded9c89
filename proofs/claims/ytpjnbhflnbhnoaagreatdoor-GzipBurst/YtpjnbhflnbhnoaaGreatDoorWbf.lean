import Derived.Test.YtpjnbhflnbhnoaaGreatDoorWbe
import Derived.Test.YtpjnbhflnbhnoaaGreatDoorWbb
namespace Go.Proofs.YtpjnbhflnbhnoaaGreatDoor
open Go.RowKit
set_option linter.unusedVariables false
/-- The lengths that were read, in their variable. -/
structure LnM (lb : Nat) (ol : Option Nat) (l : List Nat) (w : World) : Prop where
  row : ∃ vl, w.heap[lb]? = some (.cells #[vl] 124) ∧ OgR RI ol vl (toI l) w
  ne : ol ≠ some lb
theorem LnM.kept {lb : Nat} {ol : Option Nat} {l : List Nat} {w w' : World} {Y : Nat → Prop} (h : LnM lb ol l w) (f : Fr Y w w') (h1 : ¬ Y lb) (h2 : ∀ g, ol = some g → ¬ Y g) : LnM lb ol l w' := by
  obtain ⟨vl, a, b⟩ := h.row
  exact ⟨⟨vl, row_kept a f h1, b.kept f h2⟩, h.ne⟩
theorem LnM.nw {lb : Nat} {ol : Option Nat} {l : List Nat} {w w' : World} (h : LnM lb ol l w) (f : Nw w w') : LnM lb ol l w' := h.kept f (fun h => h) (fun _ _ h => h)
theorem LnM.lt {lb : Nat} {ol : Option Nat} {l : List Nat} {w : World} (h : LnM lb ol l w) : lb < w.heap.size := by
  obtain ⟨vl, a, b⟩ := h.row
  exact (Array.getElem?_eq_some_iff.1 a).1
/-- More lengths behind. -/
theorem LnM.app {lb : Nat} {ol : Option Nat} {l : List Nat} {w : World} (h : LnM lb ol l w) (hl : l.length ≤ 100000) (x : Value) (k : List Nat) (hx : SlR RI (fun _ => False) x (toI k) w) (hk : k.length ≤ 100000) :
    ∃ a c a' c' W ol', w.cell? ⟨lb, 0, none⟩ = some (.slice a l.length c) ∧ w.frozen? ⟨lb, 0, none⟩ = false ∧ Hid (∀ ty, (Builtin.append_ #[124, 124] ty #[.slice a l.length c, x]).run Tryz.prog w = .ok (.slice a' (l.length + k.length) c') W) ∧ W.cell? ⟨lb, 0, none⟩ = some (.slice a l.length c) ∧ W.frozen? ⟨lb, 0, none⟩ = false ∧ Hid (LnM lb ol' (l ++ k) (W.setCell ⟨lb, 0, none⟩ (.slice a' (l.length + k.length) c')) ∧ Fr (fun i => i = lb ∨ ol = some i) w (W.setCell ⟨lb, 0, none⟩ (.slice a' (l.length + k.length) c')) ∧ Went ol ol' w) := by
  obtain ⟨vl, h1, h2⟩ := h.row
  obtain ⟨a, c, rfl, _, _⟩ := h2.form
  rw [toI_length] at h1 h2
  have hb : (l.length + k.length + (l.length + k.length) / 4 + 192) * RI.by_ ≤ 281474976710656 := by
    show _ * 8 ≤ _
    omega
  have e1 : (toI l).length = l.length := toI_length l
  have e2 : (toI k).length = k.length := toI_length k
  obtain ⟨v', ol', W, k1, k2, k3, k4⟩ := ogR_app riOk w ol _ (toI l) h2 x (toI k) hx (by rw [e1, e2]; exact hb) (by rw [e1, e2]; omega)
  obtain ⟨a', c', rfl, _, _⟩ := k2.form
  have ea : (toI l ++ toI k).length = l.length + k.length := by rw [List.length_append, e1, e2]
  rw [ea] at k1 k2
  have hr := row_kept h1 k3 (fun e => h.ne e)
  have hW0 : W.cell? ⟨lb, 0, none⟩ = some (.slice a l.length c) := (row_cell hr 0 _ rfl).1
  have hW1 : W.frozen? ⟨lb, 0, none⟩ = false := (row_cell hr 0 (.slice a l.length c) rfl).2
  have fs : Fr (fun i => i = lb) W (W.setCell ⟨lb, 0, none⟩ (.slice a' (l.length + k.length) c')) := (Fr.refl _ _).setCell _ _ (.inl rfl)
  have hne : ol' ≠ some lb := k4.ne lb h.ne h.lt
  refine ⟨a, c, a', c', W, ol', (row_cell h1 0 _ rfl).1, (row_cell h1 0 (.slice a l.length c) rfl).2, k1, hW0, hW1, ⟨⟨_, row_set hr 0 _, ?_⟩, hne⟩, ?_, k4⟩
  · have et : toI (l ++ k) = toI l ++ toI k := by unfold toI; rw [List.map_append]
    rw [et]
    exact k2.kept fs (fun g hg e => hne (by rw [hg, e]))
  · exact (k3.mono (fun i hi => .inl (.inr hi))).trans (fs.mono (fun i hi => .inl (.inl hi)))
/-- append, folded behind a name. -/
def appS (tys : Array TypeId) (ty : TypeId) (args : Array Value) : Sem Value := Builtin.append_ tys ty args
theorem app_fold (tys : Array TypeId) (ty : TypeId) (args : Array Value) : Builtin.append_ tys ty args = appS tys ty args := rfl
theorem toI_rep (n x : Nat) : toI (List.replicate n x) = List.replicate n (x : Int) := by unfold toI; rw [List.map_replicate]
section
attribute [local go_sem ↓] app_fold
set_option maxHeartbeats 16000000 in
set_option maxRecDepth 100000 in
theorem rep_any {lb : Nat} {ol : Option Nat} {l : List Nat} {w : World} (h : LnM lb ol l w) (hl : l.length ≤ 100000) (x n : Nat) (hn0 : 1 ≤ n) (hn : n ≤ 1000) :
    Calls Tryz.prog 215 #[.int .i64 x, .int .i64 n, .pointer (some ⟨lb, 0, none⟩)] w fun e w' => (∃ r, e = .returned r) ∧ ∃ ol', LnM lb ol' (l ++ List.replicate n x) w' ∧ Fr (fun i => i = lb ∨ ol = some i) w w' ∧ Went ol ol' w := by
  obtain ⟨P, hP⟩ : ∃ P : Ending → World → Prop, P = fun e w' => (∃ r, e = .returned r) ∧ ∃ ol', LnM lb ol' (l ++ List.replicate n x) w' ∧ Fr (fun i => i = lb ∨ ol = some i) w w' ∧ Went ol ol' w := ⟨_, rfl⟩
  rw [← hP]
  obtain ⟨a, c, hcell⟩ : ∃ a c, ∀ V, Nw w V → V.cell? ⟨lb, 0, none⟩ = some (.slice a l.length c) := by
    obtain ⟨vl, h1, h2⟩ := h.row
    obtain ⟨a, c, rfl, _, _⟩ := h2.form
    rw [toI_length] at h1
    exact ⟨a, c, fun V hV => (row_cell (hV.heap h1) 0 _ rfl).1⟩
  have HR : Hid (∀ V, V = w.alloc (.cells #[.int .i64 x] 3) ∨ V = (w.alloc (.cells #[.int .i64 x] 3)).drew → Calls Tryz.prog 111 #[.slice (some ⟨w.heap.size, 0, none⟩) 1 1, .int .i64 n] V fun e w2 => ∃ g, e = .returned (.slice (some ⟨g, 0, none⟩) n n) ∧ w2.cell? ⟨lb, 0, none⟩ = some (.slice a l.length c) ∧ ∃ a' c' W, Hid (∀ ty, (Builtin.append_ #[124, 124] ty #[.slice a l.length c, .slice (some ⟨g, 0, none⟩) n n]).run Tryz.prog w2 = .ok (.slice a' (l.length + n) c') W) ∧ W.cell? ⟨lb, 0, none⟩ = some (.slice a l.length c) ∧ W.frozen? ⟨lb, 0, none⟩ = false ∧ Hid (∀ r, P (.returned r) (W.setCell ⟨lb, 0, none⟩ (.slice a' (l.length + n) c')))) := by
    intro V hV
    have hb := OwR.built riOk w [(x : Int)] #[.int .i64 x] rfl (by simp)
    have hN1 : Nw w V := by
      rcases hV with rfl | rfl
      · exact (Fr.refl _ _).alloc _
      · exact ((Fr.refl _ _).alloc _).drew
    have hb : OwR RI w.heap.size (.slice (some ⟨w.heap.size, 0, none⟩) 1 1) [(x : Int)] V := by
      rcases hV with rfl | rfl
      · exact hb
      · exact hb.nw ((Fr.refl _ _).drew)
    refine (repeat_any _ _ (x : Int) ((hb.slr riOk).mono (fun _ h => h.elim)) n hn0 (by omega) n rfl).mono ?_
    rintro e w2 ⟨g, rfl, hO, hg, hN2⟩
    have hN : Nw w w2 := hN1.trans hN2
    obtain ⟨a2, c2, a', c', W, ol', k1, k2, k3, k4, k5, k6⟩ := (h.nw hN).app hl _ (List.replicate n x) (by rw [toI_rep]; exact (hO.slr riOk).mono (fun _ h => h.elim)) (by simp; omega)
    rw [hcell w2 hN] at k1
    injection k1 with k1
    injection k1 with e1 _ e2
    subst e1
    subst e2
    rw [List.length_replicate] at k3 k6
    refine ⟨g, rfl, hcell w2 hN, a', c', W, k3, k4, k5, fun r => ?_⟩
    obtain ⟨q1, q2, q3⟩ := k6.out
    rw [hP]
    exact ⟨⟨_, rfl⟩, ol', q1, hN.any.trans q2, (Went.refl ol w).trans q3 hN.size⟩
  have hc0 := hcell w (Fr.refl _ _)
  have hc1 : (w.alloc (.cells #[.int .i64 x] 3)).cell? ⟨lb, 0, none⟩ = some (.slice a l.length c) := hcell _ ((Fr.refl _ _).alloc _)
  have hN0 : Nw w w := Fr.refl _ _
  clear hP h
  generalize l.length = L at *
  go_enter Tryz.func215, Tryz.ntmps215
  go_wp2_with fail
  go_region_with (first
    | (go_at_call 111; (with_reducible refine (HR.out _ ?_).mono ?_); (first | exact .inl rfl | exact .inr rfl); rintro e w3 ⟨g, rfl, x0, a', c', W, HAP, x1, x2, HF⟩; have hap : ∀ ty, (appS #[124, 124] ty #[.slice a L c, .slice (some ⟨g, 0, none⟩) n n]).run Tryz.prog w3 = .ok (.slice a' (L + n) c') W := HAP.out))
  all_goals go_wp2_with fail
  all_goals go_end0
  all_goals exact HF.out _
end
end Go.Proofs.YtpjnbhflnbhnoaaGreatDoor

namespace Go.Proofs.YtpjnbhflnbhnoaaGreatDoor
open Go.RowKit
set_option linter.unusedVariables false
theorem cod_of (ls : List Nat) (h1 : ∀ x ∈ ls, x ≤ 15) (h2 : ls.length ≤ 320) (h3 : room ls = 32768) : Cod ls := by
  refine ⟨fun i => ?_, h2, by omega, by omega⟩
  rw [List.getD_eq_getElem?_getD]
  cases hq : ls[i]? with
  | none => simp
  | some x => exact h1 x (List.mem_of_getElem? hq)
theorem room_fixA : room fixA = 32768 := by decide +kernel
theorem room_fixB : room fixB = 32768 := by decide +kernel
theorem all_fixA : ∀ x ∈ fixA, x ≤ 15 := by decide +kernel
theorem all_fixB : ∀ x ∈ fixB, x ≤ 15 := by decide +kernel
theorem cod_fixA : Cod fixA := cod_of fixA all_fixA (by decide +kernel) room_fixA
theorem cod_fixB : Cod fixB := cod_of fixB all_fixB (by decide +kernel) room_fixB
theorem fret {R : Ending → World → Prop} {a : Act} {w : World} (g : Nat) (v0 v1 v2 : Value) (h1 : a.tmps.getD 0 undef = .pointer (some ⟨g, 0, none⟩)) (hrow : w.heap[g]? = some (.cells #[v0, v1, v2] 91)) (hd : a.defers = []) (hR : R (.returned (.agg #[v0, v1, v2])) w) : bodyPost Tryz.prog Tryz.f202 R .ret a w := by
  have hi : (Tryz.prog.info? 91).map (·.size) = some 3 := by kernel_rfl
  have hl := run_loadVar_row (P := Tryz.prog) w g 91 91 #[v0, v1, v2] (0, 0) _ hrow Tryz.underlying91 rfl hi
  have hp' : a.tmps[0]?.getD undef = .pointer (some ⟨g, 0, none⟩) := by simpa using h1
  refine bodyPost_ret ?_ hd hR
  simp [results, hp', asAddr, hl]
/-- The four rows put together. -/
theorem fixcat (U : World) (g1 g2 g3 g4 : Nat) (h3 : OwR RI g3 (.slice (some ⟨g3, 0, none⟩) 144 144) (List.replicate 144 8) U) (h1 : OwR RI g1 (.slice (some ⟨g1, 0, none⟩) 112 112) (List.replicate 112 9) U) (h2 : OwR RI g2 (.slice (some ⟨g2, 0, none⟩) 24 24) (List.replicate 24 7) U) (h4 : OwR RI g4 (.slice (some ⟨g4, 0, none⟩) 8 8) (List.replicate 8 8) U) :
    Calls Tryz.prog 112 #[.slice (some ⟨U.heap.size, 0, none⟩) 4 4] (U.alloc (.cells #[.slice (some ⟨g3, 0, none⟩) 144 144, .slice (some ⟨g1, 0, none⟩) 112 112, .slice (some ⟨g2, 0, none⟩) 24 24, .slice (some ⟨g4, 0, none⟩) 8 8] 124)) fun e V => ∃ g c, e = .returned (.slice (some ⟨g, 0, none⟩) 288 c) ∧ Hid (OwR RI g (.slice (some ⟨g, 0, none⟩) 288 c) (toI fixA) V ∧ Nw U V) := by
  have hN : Nw U (U.alloc (.cells #[.slice (some ⟨g3, 0, none⟩) 144 144, .slice (some ⟨g1, 0, none⟩) 112 112, .slice (some ⟨g2, 0, none⟩) 24 24, .slice (some ⟨g4, 0, none⟩) 8 8] 124)) := (Fr.refl _ _).alloc _
  have hr := new_heap U (.cells #[.slice (some ⟨g3, 0, none⟩) 144 144, .slice (some ⟨g1, 0, none⟩) 112 112, .slice (some ⟨g2, 0, none⟩) 24 24, .slice (some ⟨g4, 0, none⟩) 8 8] 124)
  have hs : (U.alloc (.cells #[.slice (some ⟨g3, 0, none⟩) 144 144, .slice (some ⟨g1, 0, none⟩) 112 112, .slice (some ⟨g2, 0, none⟩) 24 24, .slice (some ⟨g4, 0, none⟩) 8 8] 124)).heap.size = U.heap.size + 1 := by simp
  refine (concatI_any _ U.heap.size _ _ _ _ _ _ _ _ (by omega) (row_cell hr 0 _ rfl).1 (row_cell hr 1 _ rfl).1 (row_cell hr 2 _ rfl).1 (row_cell hr 3 _ rfl).1 (h3.nw hN).low (h1.nw hN).low (h2.nw hN).low (h4.nw hN).low (by simp) (by simp)).mono ?_
  rintro e V ⟨g, c, a1, a2, a3, a4⟩
  have et : List.replicate 144 (8 : Int) ++ List.replicate 112 9 ++ List.replicate 24 7 ++ List.replicate 8 8 = toI fixA := by decide +kernel
  have el : (List.replicate 144 (8 : Int) ++ List.replicate 112 9 ++ List.replicate 24 7 ++ List.replicate 8 8).length = 288 := by decide +kernel
  rw [el] at a1 a2
  rw [et] at a2
  exact ⟨g, c, a1, a2, hN.trans a4⟩
set_option maxHeartbeats 16000000 in
set_option maxRecDepth 100000 in
theorem newFixed_any (w : World) : Calls Tryz.prog 202 #[] w fun e w' => ∃ ca ga sa wa ya cb gb sb' wb yb, e = .returned (.agg #[.pointer (some ⟨ca, 0, none⟩), .pointer (some ⟨cb, 0, none⟩), .bool true]) ∧ CodeI ca ga sa fixA wa ya w' ∧ CodeI cb gb sb' fixB wb yb w' ∧ Nw w w' ∧ w.heap.size ≤ ca ∧ w.heap.size ≤ ga ∧ w.heap.size ≤ sa ∧ w.heap.size ≤ cb ∧ w.heap.size ≤ gb ∧ w.heap.size ≤ sb' := by
  obtain ⟨P, hP⟩ : ∃ P : Ending → World → Prop, P = fun e w' => ∃ ca ga sa wa ya cb gb sb' wb yb, e = .returned (.agg #[.pointer (some ⟨ca, 0, none⟩), .pointer (some ⟨cb, 0, none⟩), .bool true]) ∧ CodeI ca ga sa fixA wa ya w' ∧ CodeI cb gb sb' fixB wb yb w' ∧ Nw w w' ∧ w.heap.size ≤ ca ∧ w.heap.size ≤ ga ∧ w.heap.size ≤ sa ∧ w.heap.size ≤ cb ∧ w.heap.size ≤ gb ∧ w.heap.size ≤ sb' := ⟨_, rfl⟩
  rw [← hP]
  have REP : Hid (∀ (V : World) (z : Nat) (n : Nat), 1 ≤ n → n ≤ 1000 → Calls Tryz.prog 111 #[.slice (some ⟨V.heap.size, 0, none⟩) 1 1, .int .i64 n] (V.alloc (.cells #[.int .i64 z] 3)) fun e V2 => ∃ g, e = .returned (.slice (some ⟨g, 0, none⟩) n n) ∧ Hid (OwR RI g (.slice (some ⟨g, 0, none⟩) n n) (List.replicate n (z : Int)) V2 ∧ V.heap.size < g ∧ Nw V V2)) := fun V z n h1 h2 => by
    have hb := OwR.built riOk V [(z : Int)] #[.int .i64 z] rfl (by simp)
    refine (repeat_any _ _ (z : Int) ((hb.slr riOk).mono (fun _ h => h.elim)) n h1 (by omega) n rfl).mono ?_
    rintro e V2 ⟨g, a1, a2, a3, a4⟩
    have hs : (V.alloc (.cells #[.int .i64 z] 3)).heap.size = V.heap.size + 1 := by simp
    have hs2 : (V.alloc (.cells #[.int .i64 z] RI.T)).heap.size = V.heap.size + 1 := by simp
    refine ⟨g, a1, a2, ?_, ((Fr.refl _ _).alloc _ : Nw V _).trans a4⟩
    first | omega | (rw [hs2] at a3; omega) | (rw [hs] at a3; omega)
  have R1 : Hid (∀ V : World, Calls Tryz.prog 111 #[.slice (some ⟨V.heap.size, 0, none⟩) 1 1, .int .i64 112] (V.alloc (.cells #[.int .i64 9] 3)) fun e V2 => ∃ g, e = .returned (.slice (some ⟨g, 0, none⟩) 112 112) ∧ Hid (OwR RI g (.slice (some ⟨g, 0, none⟩) 112 112) (List.replicate 112 9) V2 ∧ V.heap.size < g ∧ Nw V V2)) := fun V => REP.out V 9 112 (by decide) (by decide)
  have R2 : Hid (∀ V : World, Calls Tryz.prog 111 #[.slice (some ⟨V.heap.size, 0, none⟩) 1 1, .int .i64 24] (V.alloc (.cells #[.int .i64 7] 3)) fun e V2 => ∃ g, e = .returned (.slice (some ⟨g, 0, none⟩) 24 24) ∧ Hid (OwR RI g (.slice (some ⟨g, 0, none⟩) 24 24) (List.replicate 24 7) V2 ∧ V.heap.size < g ∧ Nw V V2)) := fun V => REP.out V 7 24 (by decide) (by decide)
  have R3 : Hid (∀ V : World, Calls Tryz.prog 111 #[.slice (some ⟨V.heap.size, 0, none⟩) 1 1, .int .i64 144] (V.alloc (.cells #[.int .i64 8] 3)) fun e V2 => ∃ g, e = .returned (.slice (some ⟨g, 0, none⟩) 144 144) ∧ Hid (OwR RI g (.slice (some ⟨g, 0, none⟩) 144 144) (List.replicate 144 8) V2 ∧ V.heap.size < g ∧ Nw V V2)) := fun V => REP.out V 8 144 (by decide) (by decide)
  have R4 : Hid (∀ V : World, Calls Tryz.prog 111 #[.slice (some ⟨V.heap.size, 0, none⟩) 1 1, .int .i64 8] (V.alloc (.cells #[.int .i64 8] 3)) fun e V2 => ∃ g, e = .returned (.slice (some ⟨g, 0, none⟩) 8 8) ∧ Hid (OwR RI g (.slice (some ⟨g, 0, none⟩) 8 8) (List.replicate 8 8) V2 ∧ V.heap.size < g ∧ Nw V V2)) := fun V => REP.out V 8 8 (by decide) (by decide)
  have R5 : Hid (∀ V : World, Calls Tryz.prog 111 #[.slice (some ⟨V.heap.size, 0, none⟩) 1 1, .int .i64 32] (V.alloc (.cells #[.int .i64 5] 3)) fun e V2 => ∃ g, e = .returned (.slice (some ⟨g, 0, none⟩) 32 32) ∧ Hid (OwR RI g (.slice (some ⟨g, 0, none⟩) 32 32) (List.replicate 32 5) V2 ∧ V.heap.size < g ∧ Nw V V2)) := fun V => REP.out V 5 32 (by decide) (by decide)
  have CA : Hid (∀ V v, SlR RI (fun k => V.heap.size ≤ k) v (toI fixA) V → Calls Tryz.prog 205 #[v] V (Cdd fixA V)) := fun V v hv => (codeOf_any V v fixA hv cod_fixA.each cod_fixA.len).1 ⟨cod_fixA, .inl room_fixA⟩
  have CB : Hid (∀ V v, SlR RI (fun k => V.heap.size ≤ k) v (toI fixB) V → Calls Tryz.prog 205 #[v] V (Cdd fixB V)) := fun V v hv => (codeOf_any V v fixB hv cod_fixB.each cod_fixB.len).1 ⟨cod_fixB, .inl room_fixB⟩
  obtain ⟨W0, hW0⟩ : ∃ W0, w.alloc (.cells #[.pointer none, .pointer none, .bool false] 91) = W0 := ⟨_, rfl⟩
  have H0 : Hid (Nw w W0 ∧ W0.heap[w.heap.size]? = some (.cells #[.pointer none, .pointer none, .bool false] 91) ∧ W0.heap.size = w.heap.size + 1) := by
    rw [← hW0]
    exact ⟨(Fr.refl _ _).alloc _, new_heap _ _, by simp⟩
  have HP : Hid (P = fun e w' => ∃ ca ga sa wa ya cb gb sb' wb yb, e = .returned (.agg #[.pointer (some ⟨ca, 0, none⟩), .pointer (some ⟨cb, 0, none⟩), .bool true]) ∧ CodeI ca ga sa fixA wa ya w' ∧ CodeI cb gb sb' fixB wb yb w' ∧ Nw w w' ∧ w.heap.size ≤ ca ∧ w.heap.size ≤ ga ∧ w.heap.size ≤ sa ∧ w.heap.size ≤ cb ∧ w.heap.size ≤ gb ∧ w.heap.size ≤ sb') := hP
  clear hP REP
  go_enter Tryz.func202, Tryz.ntmps202
  go_upto_region 3 with (first
    | (go_at_call 111; (with_reducible refine (R1.out _).mono ?_); rintro e w1 ⟨g1, rfl, H1⟩)
    | (go_at_call 111; (with_reducible refine (R2.out _).mono ?_); rintro e w2 ⟨g2, rfl, H2⟩))
  go_upto_region 4 with (first
    | (go_at_call 111; (with_reducible refine (R3.out _).mono ?_); rintro e w3 ⟨g3, rfl, H3⟩)
    | (go_at_call 111; (with_reducible refine (R4.out _).mono ?_); rintro e w4 ⟨g4, rfl, H4⟩)
    | (go_at_call 112; (with_reducible refine (fixcat w4 g1 g2 g3 g4 ?_ ?_ ?_ ?_).mono ?_); (exact H3.out.1.nw H4.out.2.2); (exact (H1.out.1.nw H2.out.2.2).nw (H3.out.2.2.trans H4.out.2.2)); (exact H2.out.1.nw (H3.out.2.2.trans H4.out.2.2)); (exact H4.out.1); rintro e w5 ⟨g5, c5, rfl, H5⟩))
  have N5 : Nw w w5 := ((H0.out.1.trans H1.out.2.2).trans H2.out.2.2).trans ((H3.out.2.2.trans H4.out.2.2).trans H5.out.2)
  have R05 : Nw W0 w5 := (H1.out.2.2.trans H2.out.2.2).trans ((H3.out.2.2.trans H4.out.2.2).trans H5.out.2)
  have HCA : Hid (Calls Tryz.prog 205 #[.slice (some ⟨g5, 0, none⟩) 288 c5] w5 fun e w6 => ∃ ca, e = .returned (.pointer (some ⟨ca, 0, none⟩)) ∧ Hid (∃ ga sa wa ya, CodeI ca ga sa fixA wa ya w6 ∧ Nw w5 w6 ∧ w5.heap.size ≤ ca ∧ w5.heap.size ≤ ga ∧ w5.heap.size ≤ sa)) := (CA.out w5 _ H5.out.1.low).mono (fun e w6 ⟨ca, ga, sa, wa, ya, a1, a2, a3, a4, a5, a6⟩ => ⟨ca, a1, ga, sa, wa, ya, a2, a3, a4, a5, a6⟩)
  have HN5 : Hid (Nw w w5 ∧ Nw W0 w5) := ⟨N5, R05⟩
  clear N5 R05 H1 H2 H3 H4 H5 R1 R2 R3 R4 CA
  go_wp2_with (first
    | (go_at_call 205; (with_reducible refine HCA.out.mono ?_); rintro e w6 ⟨ca, rfl, H6⟩)
    | (go_at_call 111; (with_reducible refine (R5.out _).mono ?_); rintro e w7 ⟨g7, rfl, H7⟩))
  have HCB : Hid (Calls Tryz.prog 205 #[.slice (some ⟨g7, 0, none⟩) 32 32] w7 fun e w8 => ∃ cb, e = .returned (.pointer (some ⟨cb, 0, none⟩)) ∧ w8.cell? ⟨w.heap.size, 0, none⟩ = some (.pointer none) ∧ w8.frozen? ⟨w.heap.size, 0, none⟩ = false ∧ (w8.setCell ⟨w.heap.size, 0, none⟩ (.pointer (some ⟨ca, 0, none⟩))).cell? ⟨w.heap.size, 1, none⟩ = some (.pointer none) ∧ (w8.setCell ⟨w.heap.size, 0, none⟩ (.pointer (some ⟨ca, 0, none⟩))).frozen? ⟨w.heap.size, 1, none⟩ = false ∧ ((w8.setCell ⟨w.heap.size, 0, none⟩ (.pointer (some ⟨ca, 0, none⟩))).setCell ⟨w.heap.size, 1, none⟩ (.pointer (some ⟨cb, 0, none⟩))).cell? ⟨w.heap.size, 2, none⟩ = some (.bool false) ∧ ((w8.setCell ⟨w.heap.size, 0, none⟩ (.pointer (some ⟨ca, 0, none⟩))).setCell ⟨w.heap.size, 1, none⟩ (.pointer (some ⟨cb, 0, none⟩))).frozen? ⟨w.heap.size, 2, none⟩ = false ∧ Hid ((((w8.setCell ⟨w.heap.size, 0, none⟩ (.pointer (some ⟨ca, 0, none⟩))).setCell ⟨w.heap.size, 1, none⟩ (.pointer (some ⟨cb, 0, none⟩))).setCell ⟨w.heap.size, 2, none⟩ (.bool true)).heap[w.heap.size]? = some (.cells #[.pointer (some ⟨ca, 0, none⟩), .pointer (some ⟨cb, 0, none⟩), .bool true] 91) ∧ P (.returned (.agg #[.pointer (some ⟨ca, 0, none⟩), .pointer (some ⟨cb, 0, none⟩), .bool true])) (((w8.setCell ⟨w.heap.size, 0, none⟩ (.pointer (some ⟨ca, 0, none⟩))).setCell ⟨w.heap.size, 1, none⟩ (.pointer (some ⟨cb, 0, none⟩))).setCell ⟨w.heap.size, 2, none⟩ (.bool true)))) := by
    obtain ⟨ga, sa, wa, ya, b1, b2, b3, b4, b5⟩ := H6.out
    obtain ⟨d1, d2, d3⟩ := H7.out
    have et : List.replicate 32 (5 : Int) = toI fixB := by decide +kernel
    rw [et] at d1
    refine (CB.out w7 _ d1.low).mono ?_
    rintro e w8 ⟨cb, gb, sb', wb, yb, a1, a2, a3, a4, a5, a6⟩
    have hrow : w8.heap[w.heap.size]? = some (.cells #[.pointer none, .pointer none, .bool false] 91) := (((HN5.out.2.trans b2).trans d3).trans a3).heap H0.out.2.1
    have r1 := row_set hrow 0 (.pointer (some ⟨ca, 0, none⟩))
    have r2 := row_set r1 1 (.pointer (some ⟨cb, 0, none⟩))
    have r3 := row_set r2 2 (.bool true)
    have hs5 := HN5.out.1.size
    have hs0 := HN5.out.2.size
    have hs1 := H0.out.2.2
    have hs6 := b2.size
    have hs7 := d3.size
    have ff : Fr (fun k => k = w.heap.size) w8 (((w8.setCell ⟨w.heap.size, 0, none⟩ (.pointer (some ⟨ca, 0, none⟩))).setCell ⟨w.heap.size, 1, none⟩ (.pointer (some ⟨cb, 0, none⟩))).setCell ⟨w.heap.size, 2, none⟩ (.bool true)) := Fr.setCell (Fr.setCell (Fr.setCell (Fr.refl (fun k => k = w.heap.size) w8) ⟨w.heap.size, 0, none⟩ _ (.inl rfl)) ⟨w.heap.size, 1, none⟩ _ (.inl rfl)) ⟨w.heap.size, 2, none⟩ _ (.inl rfl)
    refine ⟨cb, a1, (row_cell hrow 0 _ rfl).1, (row_cell hrow 0 (.pointer none) rfl).2, (row_cell r1 1 _ rfl).1, (row_cell r1 1 (.pointer none) rfl).2, (row_cell r2 2 _ rfl).1, (row_cell r2 2 (.bool false) rfl).2, r3, ?_⟩
    rw [HP.out]
    refine ⟨ca, ga, sa, wa, ya, cb, gb, sb', wb, yb, rfl, ((b1.nw (d3.trans a3)).kept ff (by omega) (by omega) (by omega)), a2.kept ff (by omega) (by omega) (by omega), ?_, by omega, by omega, by omega, by omega, by omega, by omega⟩
    exact Fr.then (((HN5.out.1.trans b2).trans d3).trans a3) ff (fun i hi => .inr (by omega))
  clear H6 H7 HP CB R5 HN5 H0 hW0
  go_wp2_with (first
    | (go_at_call 205; (with_reducible refine HCB.out.mono ?_); rintro e w8 ⟨cb, rfl, x1, x2, x3, x4, x5, x6, HF⟩))
  exact fret w.heap.size _ _ _ rfl HF.out.1 rfl HF.out.2
end Go.Proofs.YtpjnbhflnbhnoaaGreatDoor

namespace Go.Proofs.YtpjnbhflnbhnoaaGreatDoor
open Go.RowKit
set_option linter.unusedVariables false
variable {sb rb : Nat} {K : Nat → Prop} {rv : Value} {v : Value} {b : List By} {p : Nat} {skip left : Int} {most told : Nat} {m : Mm} {s : Sx} {w : World}
/-- New blocks are only read from here on. -/
theorem StI.fresh {w1 : World} (h : StI sb rb K v b p skip left most told m s w) (h1 : StI sb rb K v b p skip left most told m s w1) (hs : w.heap.size ≤ w1.heap.size) : StI sb rb (fun k => K k ∨ (w.heap.size ≤ k ∧ k < w1.heap.size)) v b p skip left most told m s w1 :=
  h1.more (fun k hk => .inl hk) (fun k hk => by
    rcases hk with e | e
    · exact .inl e
    · have a1 := h.sm.lts
      have a2 := h.rr.lt
      exact .inr ⟨e.2, by omega, by omega, fun e2 => by have := h.sm.win.lt k e2; omega, fun e2 => by have := h.sm.pl.lt k e2; omega⟩)
/-- The codes are put into the stream, which goes on to symbols. -/
theorem StI.codes {K' : Nat → Prop} {u0 u1 : Option Addr} {f : Bool} {la lb : List Nat} (h : StI sb rb K' v b p skip left most told m s w) (hl : m.l = s.lst) (h0 : CodV K' (.pointer u0) la w) (h1 : CodV K' (.pointer u1) lb w) (h2 : f = true → la = fixA ∧ lb = fixB) :
    StI sb rb K' v b p skip left most told { m with us := .pointer u0, ud := .pointer u1, fx := f } { s with md := 2, la := la, lb := lb } ((((w.setCell ⟨sb, 10, none⟩ (.pointer u0)).setCell ⟨sb, 11, none⟩ (.pointer u1)).setCell ⟨sb, 12, none⟩ (.bool f)).setCell ⟨sb, 7, none⟩ (.int .i64 2)) ∧
    Fr (fun k => k = sb) w ((((w.setCell ⟨sb, 10, none⟩ (.pointer u0)).setCell ⟨sb, 11, none⟩ (.pointer u1)).setCell ⟨sb, 12, none⟩ (.bool f)).setCell ⟨sb, 7, none⟩ (.int .i64 2)) := by
  have hm := h.sm
  have hks : ∀ k, K' k → ¬ k = sb := fun k hk e => h.sm.ks (by rw [← e]; exact hk)
  have fa : Fr (fun k => k = sb) w ((((w.setCell ⟨sb, 10, none⟩ (.pointer u0)).setCell ⟨sb, 11, none⟩ (.pointer u1)).setCell ⟨sb, 12, none⟩ (.bool f)).setCell ⟨sb, 7, none⟩ (.int .i64 2)) := Fr.setCell (Fr.setCell (Fr.setCell (Fr.setCell (Fr.refl (fun k => k = sb) w) ⟨sb, 10, none⟩ _ (.inl rfl)) ⟨sb, 11, none⟩ _ (.inl rfl)) ⟨sb, 12, none⟩ _ (.inl rfl)) ⟨sb, 7, none⟩ _ (.inl rfl)
  have k0 := h0.kept fa hks
  have k1 := h1.kept fa hks
  refine ⟨h.sm' ⟨row_set (row_set (row_set (row_set hm.row 10 _) 11 _) 12 _) 7 _, hm.ks, fun k hk => Nat.lt_of_lt_of_le (hm.lt k hk) fa.size, hm.win.kept fa (fun g hg e => (hm.nw g hg).2 e), hm.wi, hm.pl.kept fa (fun g hg e => (hm.np g hg).2.1 e), hm.nw, hm.np, fun _ => hl, fun _ => ⟨k0, k1⟩, fun e => ?_, ⟨_, rfl⟩, ⟨_, rfl⟩, hm.ol, hm.ml, hm.td⟩ fa rfl rfl, fa⟩
  obtain ⟨e1, e2⟩ := h2 e
  rw [e1] at k0
  rw [e2] at k1
  exact ⟨k0, k1⟩
/-- Their cells. -/
theorem codes_cells {T : Nat} {A : Array Value} {V : World} {e10 e11 e12 e7 : Value} (u0 u1 f : Value) (hr : V.heap[sb]? = some (.cells A T)) (h0 : A[10]? = some e10) (h1 : A[11]? = some e11) (h2 : A[12]? = some e12) (h3 : A[7]? = some e7) :
    V.cell? ⟨sb, 10, none⟩ = some e10 ∧ V.frozen? ⟨sb, 10, none⟩ = false ∧ (V.setCell ⟨sb, 10, none⟩ u0).cell? ⟨sb, 11, none⟩ = some e11 ∧ (V.setCell ⟨sb, 10, none⟩ u0).frozen? ⟨sb, 11, none⟩ = false ∧ ((V.setCell ⟨sb, 10, none⟩ u0).setCell ⟨sb, 11, none⟩ u1).cell? ⟨sb, 12, none⟩ = some e12 ∧ ((V.setCell ⟨sb, 10, none⟩ u0).setCell ⟨sb, 11, none⟩ u1).frozen? ⟨sb, 12, none⟩ = false ∧ (((V.setCell ⟨sb, 10, none⟩ u0).setCell ⟨sb, 11, none⟩ u1).setCell ⟨sb, 12, none⟩ f).cell? ⟨sb, 7, none⟩ = some e7 ∧ (((V.setCell ⟨sb, 10, none⟩ u0).setCell ⟨sb, 11, none⟩ u1).setCell ⟨sb, 12, none⟩ f).frozen? ⟨sb, 7, none⟩ = false := by
  have r1 := row_set hr 10 u0
  have r2 := row_set r1 11 u1
  have r3 := row_set r2 12 f
  have g1 : (A.setIfInBounds 10 u0)[11]? = some e11 := by rw [Array.getElem?_setIfInBounds, if_neg (by decide)]; exact h1
  have g2 : ((A.setIfInBounds 10 u0).setIfInBounds 11 u1)[12]? = some e12 := by rw [Array.getElem?_setIfInBounds, if_neg (by decide), Array.getElem?_setIfInBounds, if_neg (by decide)]; exact h2
  have g3 : (((A.setIfInBounds 10 u0).setIfInBounds 11 u1).setIfInBounds 12 f)[7]? = some e7 := by rw [Array.getElem?_setIfInBounds, if_neg (by decide), Array.getElem?_setIfInBounds, if_neg (by decide), Array.getElem?_setIfInBounds, if_neg (by decide)]; exact h3
  exact ⟨(row_cell hr 10 _ h0).1, (row_cell hr 10 _ h0).2, (row_cell r1 11 _ g1).1, (row_cell r1 11 _ g1).2, (row_cell r2 12 _ g2).1, (row_cell r2 12 _ g2).2, (row_cell r3 7 _ g3).1, (row_cell r3 7 _ g3).2⟩
set_option maxHeartbeats 16000000 in
set_option maxRecDepth 100000 in
theorem fixedCodes_any (h : StI sb rb K v b p skip left most told m s w) (hl : m.l = s.lst) :
    Calls Tryz.prog 184 #[.pointer (some ⟨sb, 0, none⟩)] w fun e w' => (∃ r, e = .returned r) ∧ (∃ m' K', StI sb rb K' v b p skip left most told m' { s with md := 2, la := fixA, lb := fixB } w' ∧ (∀ k, K k → K' k) ∧ (∀ k, K' k → K k ∨ w.heap.size ≤ k)) ∧ Fr (fun k => ¬ K k) w w' := by
  obtain ⟨P, hP⟩ : ∃ P : Ending → World → Prop, P = fun e w' => (∃ r, e = .returned r) ∧ (∃ m' K', StI sb rb K' v b p skip left most told m' { s with md := 2, la := fixA, lb := fixB } w' ∧ (∀ k, K k → K' k) ∧ (∀ k, K' k → K k ∨ w.heap.size ≤ k)) ∧ Fr (fun k => ¬ K k) w w' := ⟨_, rfl⟩
  rw [← hP]
  have c12 := (sc12 h.sm.row).1
  cases hfx : m.fx with
  | true =>
    obtain ⟨q1, q2⟩ := h.sm.set 7 (.int .i64 2) (.pointer (some ⟨rb, 0, none⟩)) skip left m { s with md := 2, la := fixA, lb := fixB } rfl rfl rfl rfl rfl rfl rfl (fun _ => hl) (fun _ => h.sm.cf hfx) h.sm.cf h.sm.pu h.sm.pd
    have h1 := h.sm' q1 q2 rfl rfl
    have HF : Hid (∀ r, P (.returned r) (w.setCell ⟨sb, 7, none⟩ (.int .i64 2))) := fun r => by
      rw [hP]
      exact ⟨⟨_, rfl⟩, ⟨m, K, h1, fun _ hk => hk, fun _ hk => .inl hk⟩, h.frs q2⟩
    obtain ⟨c70, c71⟩ := sc7 h.sm.row
    rw [hfx] at c12
    clear hP h h1 q1 q2
    go_enter Tryz.func184, Tryz.ntmps184
    go_wp2_with fail
    go_end0
    exact HF.out _
  | false =>
    have HC : Hid (Calls Tryz.prog 202 #[] w fun e w1 => ∃ ca cb, e = .returned (.agg #[.pointer (some ⟨ca, 0, none⟩), .pointer (some ⟨cb, 0, none⟩), .bool true]) ∧ ∃ e10 e11 e12 e7, w1.cell? ⟨sb, 10, none⟩ = some e10 ∧ w1.frozen? ⟨sb, 10, none⟩ = false ∧ (w1.setCell ⟨sb, 10, none⟩ (.pointer (some ⟨ca, 0, none⟩))).cell? ⟨sb, 11, none⟩ = some e11 ∧ (w1.setCell ⟨sb, 10, none⟩ (.pointer (some ⟨ca, 0, none⟩))).frozen? ⟨sb, 11, none⟩ = false ∧ ((w1.setCell ⟨sb, 10, none⟩ (.pointer (some ⟨ca, 0, none⟩))).setCell ⟨sb, 11, none⟩ (.pointer (some ⟨cb, 0, none⟩))).cell? ⟨sb, 12, none⟩ = some e12 ∧ ((w1.setCell ⟨sb, 10, none⟩ (.pointer (some ⟨ca, 0, none⟩))).setCell ⟨sb, 11, none⟩ (.pointer (some ⟨cb, 0, none⟩))).frozen? ⟨sb, 12, none⟩ = false ∧ (((w1.setCell ⟨sb, 10, none⟩ (.pointer (some ⟨ca, 0, none⟩))).setCell ⟨sb, 11, none⟩ (.pointer (some ⟨cb, 0, none⟩))).setCell ⟨sb, 12, none⟩ (.bool true)).cell? ⟨sb, 7, none⟩ = some e7 ∧ (((w1.setCell ⟨sb, 10, none⟩ (.pointer (some ⟨ca, 0, none⟩))).setCell ⟨sb, 11, none⟩ (.pointer (some ⟨cb, 0, none⟩))).setCell ⟨sb, 12, none⟩ (.bool true)).frozen? ⟨sb, 7, none⟩ = false ∧ Hid (∀ r, P (.returned r) ((((w1.setCell ⟨sb, 10, none⟩ (.pointer (some ⟨ca, 0, none⟩))).setCell ⟨sb, 11, none⟩ (.pointer (some ⟨cb, 0, none⟩))).setCell ⟨sb, 12, none⟩ (.bool true)).setCell ⟨sb, 7, none⟩ (.int .i64 2)))) := (newFixed_any w).mono (by
      rintro e w1 ⟨ca, ga, sa, wa, ya, cb, gb, sb', wb, yb, a1, a2, a3, a4, a5, a6, a7, a8, a9, a10⟩
      have h1 := h.nw a4
      have hk := h.fresh h1 a4.size
      obtain ⟨l1, l2, l3⟩ := a2.c.lt
      obtain ⟨l4, l5, l6⟩ := a3.c.lt
      obtain ⟨z1, z2⟩ := hk.codes (u0 := some ⟨ca, 0, none⟩) (u1 := some ⟨cb, 0, none⟩) (f := true) (la := fixA) (lb := fixB) hl (.inr ⟨ca, ga, sa, wa, ya, rfl, a2, cod_fixA, .inr ⟨a5, l1⟩, .inr ⟨a6, l2⟩, .inr ⟨a7, l3⟩⟩) (.inr ⟨cb, gb, sb', wb, yb, rfl, a3, cod_fixB, .inr ⟨a8, l4⟩, .inr ⟨a9, l5⟩, .inr ⟨a10, l6⟩⟩) (fun _ => ⟨rfl, rfl⟩)
      refine ⟨ca, cb, a1, m.us, m.ud, .bool m.fx, .int .i64 s.md, ?_⟩
      obtain ⟨x1, x2, x3, x4, x5, x6, x7, x8⟩ := codes_cells (.pointer (some ⟨ca, 0, none⟩)) (.pointer (some ⟨cb, 0, none⟩)) (.bool true) h1.sm.row rfl rfl rfl rfl
      refine ⟨x1, x2, x3, x4, x5, x6, x7, x8, fun r => ?_⟩
      rw [hP]
      exact ⟨⟨_, rfl⟩, ⟨_, _, z1, fun k hk => .inl hk, fun k hk => hk.imp id (fun e => e.1)⟩, a4.any.trans (z2.mono (fun i hi => .inl (by rw [hi]; exact h.sm.ks)))⟩)
    rw [hfx] at c12
    clear hP h
    go_enter Tryz.func184, Tryz.ntmps184
    go_wp2_with (first | (go_at_call 202; (with_reducible refine HC.out.mono ?_); rintro e w1 ⟨ca, cb, rfl, e10, e11, e12, e7, x1, x2, x3, x4, x5, x6, x7, x8, HF⟩))
    go_end0
    exact HF.out _
end Go.Proofs.YtpjnbhflnbhnoaaGreatDoor

namespace Go.Proofs.YtpjnbhflnbhnoaaGreatDoor
open Go.RowKit
set_option linter.unusedVariables false
variable {sb rb : Nat} {K : Nat → Prop} {v : Value} {b : List By} {p : Nat} {w : World}
/-- What reading lengths answers. -/
def Lnd (sb rb : Nat) (K : Nat → Prop) (v : Value) (b : List By) (w : World) (r : Rz (List Nat × Bt)) (e : Ending) (w' : World) : Prop :=
  (∃ y, r = .bad y ∧ e = gv y ∧ Fr (fun k => k = rb) w w') ∨ (∃ l p' g c, r = .ok (l, bt b p') ∧ e = .returned (.slice (some ⟨g, 0, none⟩) l.length c) ∧ OwR RI g (.slice (some ⟨g, 0, none⟩) l.length c) (toI l) w' ∧ w.heap.size ≤ g ∧ (∀ i, l.getD i 0 ≤ 15) ∧ Lt sb rb (fun k => ¬ K k) v b p' w' ∧ Fr (fun k => k = rb) w w')
/-- How the loop stands: the lengths l are read. -/
structure LnI (sb rb : Nat) (K : Nat → Prop) (v : Value) (b : List By) (w : World) (sm : List Nat) (N lb : Nat) (r0 : Rz (List Nat × Bt)) (p' : Nat) (ol : Option Nat) (k : Nat) (l : List Nat) (W : World) : Prop where
  r : r0 = lensR sm N k l (bt b p')
  k1 : N ≤ l.length + k
  lt : Lt sb rb (fun k => ¬ K k) v b p' W
  ln : LnM lb ol l W
  og : ∀ g, ol = some g → w.heap.size ≤ g
  fr : Fr (fun k => k = rb) w W
  each : ∀ i, l.getD i 0 ≤ 15
theorem getD_app (l m : List Nat) (B : Nat) (h1 : ∀ i, l.getD i 0 ≤ B) (h2 : ∀ x ∈ m, x ≤ B) (i : Nat) : (l ++ m).getD i 0 ≤ B := by
  rw [List.getD_eq_getElem?_getD]
  by_cases h : i < l.length
  · rw [List.getElem?_append_left h, ← List.getD_eq_getElem?_getD]; exact h1 i
  · rw [List.getElem?_append_right (by omega)]
    cases hq : m[i - l.length]? with
    | none => simp
    | some x => exact h2 x (List.mem_of_getElem? hq)
theorem lensR_lt {sm : List Nat} {N k : Nat} {l : List Nat} {t : Bt} (h : l.length < N) (hk : N ≤ l.length + k) : ∃ k', k = k' + 1 ∧ lensR sm N k l = bindR (symR sm) fun y =>
        if y = 16 then (if l.length = 0 then failR 62 else bindR (takeR 2) fun v => lensR sm N k' (l ++ List.replicate (3 + v) (lastL l)))
        else if y = 17 then bindR (takeR 3) fun v => lensR sm N k' (l ++ List.replicate (3 + v) 0)
        else if y = 18 then bindR (takeR 7) fun v => lensR sm N k' (l ++ List.replicate (11 + v) 0)
        else lensR sm N k' (l ++ [y]) := by
  obtain ⟨k', rfl⟩ : ∃ k', k = k' + 1 := ⟨k - 1, by omega⟩
  refine ⟨k', rfl, ?_⟩
  rw [lensR, if_pos h]
theorem lensR_ge {sm : List Nat} {N k : Nat} {l : List Nat} (h : ¬ l.length < N) : lensR sm N k l = if N < l.length then failR 62 else retR l := by
  cases k with
  | zero => rfl
  | succ k => rw [lensR, if_neg h]
variable {sm : List Nat} {N lb : Nat} {r0 : Rz (List Nat × Bt)} {p' : Nat} {ol : Option Nat} {k : Nat} {l : List Nat} {W : World}
/-- The lengths grow. -/
theorem LnI.next {p2 k' : Nat} {m : List Nat} {V : World} {ol' : Option Nat} (hK : ∀ k, K k → k < w.heap.size) (hlb : w.heap.size ≤ lb) (hrb : rb < w.heap.size) (hsb : sb < w.heap.size) {r1 : Rz (List Nat × Bt)} {q1 q2 : Nat} (h : LnI sb rb K v b w sm N lb r1 q1 ol q2 l W) (hr : r0 = lensR sm N k' (l ++ m) (bt b p2)) (hk : N ≤ (l ++ m).length + k') (hL : Lt sb rb (fun k => ¬ K k) v b p2 W) (hm : ∀ x ∈ m, x ≤ 15)
    (hM : LnM lb ol' (l ++ m) V) (hF : Fr (fun i => i = lb ∨ ol = some i) W V) (hw : Went ol ol' W) : LnI sb rb K v b w sm N lb r0 p2 ol' k' (l ++ m) V := by
  have hY : ∀ i, (i = lb ∨ ol = some i) → w.heap.size ≤ i := fun i hi => by
    rcases hi with e | e
    · omega
    · exact h.og i e
  refine ⟨hr, hk, ⟨hF.cellv hL.c0 (fun e => ?_), hL.ne, hL.rr.kept hF (fun e => ?_) (fun g hg hk => ?_), hL.pl⟩, hM, fun g hg => ?_, h.fr.then hF (fun i hi => .inr (hY i hi)), fun i => getD_app l m 15 h.each hm i⟩
  · have := hY _ e
    simp only at this
    omega
  · have := hY _ e
    omega
  · have := hY _ hg
    have := hK g hk
    omega
  · rcases hw with e | ⟨g', e, hg'⟩
    · rw [e] at hg; exact h.og g hg
    · rw [hg] at e
      injection e with e
      have := h.fr.size
      omega
end Go.Proofs.YtpjnbhflnbhnoaaGreatDoor

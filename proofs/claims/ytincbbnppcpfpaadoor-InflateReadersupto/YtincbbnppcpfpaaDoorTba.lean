import Derived.Test.YtincbbnppcpfpaaDoorTay
import Derived.Test.YtincbbnppcpfpaaDoorTaz
namespace Go.Proofs.YtincbbnppcpfpaaDoor
open Go.RowKit
set_option linter.unusedVariables false
variable {sb rb : Nat} {K : Nat → Prop} {v : Value} {b : List By} {p : Nat} {w : World}
/-- The table of the order lies where it must. -/
def Tab (w : World) : Prop := ∀ i, i < 19 → w.cell? ⟨0, i, none⟩ = some (.int .i64 (ordL.getD i 0 : Nat))
theorem Tab.kept {w w' : World} {Y : Nat → Prop} (h : Tab w) (f : Fr Y w w') (h0 : ¬ Y 0) : Tab w' := fun i hi => f.cellv (h i hi) h0
theorem ordL_lt (i : Nat) : ordL.getD i 0 < 19 := by
  have h : ∀ x ∈ ordL, x < 19 := by decide
  rw [List.getD_eq_getElem?_getD]
  cases hq : ordL[i]? with
  | none => simp
  | some x => exact h x (List.mem_of_getElem? hq)
def Lcd (sb rb : Nat) (K : Nat → Prop) (v : Value) (b : List By) (w : World) (n : Nat) (r : Rz (List Nat × Bt)) (e : Ending) (w' : World) : Prop :=
  (∃ y, e = gv y ∧ (r = .bad y ∨ ∃ sm t, r = .ok (sm, t) ∧ ¬ (Cod sm ∧ room sm = 32768) ∧ y = 62) ∧ Fr (fun k => k = rb) w w') ∨ (∃ sm p' cb gw gs ws ss, r = .ok (sm, bt b p') ∧ e = .returned (.pointer (some ⟨cb, 0, none⟩)) ∧ CodeI cb gw gs sm ws ss w' ∧ Cod sm ∧ room sm = 32768 ∧ sm.length = 19 ∧ w.heap.size ≤ cb ∧ w.heap.size ≤ gw ∧ w.heap.size ≤ gs ∧ Lt sb rb (fun k => ¬ K k) v b p' w' ∧ Fr (fun k => k = rb) w w')
/-- How the loop stands: i of the lengths are read. -/
structure SlI (sb rb : Nat) (K : Nat → Prop) (v : Value) (b : List By) (w : World) (n g : Nat) (r0 : Rz (List Nat × Bt)) (i : Nat) (p' : Nat) (l : List Nat) (W : World) : Prop where
  r : r0 = smallR i (n - i) l (bt b p')
  row : SwR RI g (toI l) W
  ll : l.length = 19
  lt : Lt sb rb (fun k => ¬ K k) v b p' W
  gw : w.heap.size ≤ g
  fr : Fr (fun k => k = rb) w W
theorem toI_set (l : List Nat) (i x : Nat) : toI (l.set i x) = (toI l).set i (x : Int) := by unfold toI; rw [List.map_set]
set_option maxHeartbeats 16000000 in
set_option maxRecDepth 100000 in
theorem lengthsCode_any (h : Lt sb rb (fun k => ¬ K k) v b p w) (hK : ∀ k, K k → k < w.heap.size) (hT : Tab w) (hr0 : rb ≠ 0) (n : Nat) (hn : n ≤ 19) :
    Calls Tryd.prog 78 #[.pointer (some ⟨sb, 0, none⟩), .int .i64 n] w (Lcd sb rb K v b w n (smallR 0 n (List.replicate 19 0) (bt b p))) := by
  obtain ⟨P, hP⟩ : ∃ P : Ending → World → Prop, P = Lcd sb rb K v b w n (smallR 0 n (List.replicate 19 0) (bt b p)) := ⟨_, rfl⟩
  rw [← hP]
  obtain ⟨r0, hrr⟩ : ∃ r0, r0 = smallR 0 n (List.replicate 19 0) (bt b p) := ⟨_, rfl⟩
  rw [← hrr] at hP
  have hrb : rb < w.heap.size := h.rr.lt
  have hsb : sb < w.heap.size := World.block_lt_of_cell? _ _ h.c0
  obtain ⟨W1, hW1⟩ : ∃ W1, W1 = w.alloc (.cells (flatR RI (List.replicate 19 0)).toArray 3) := ⟨_, rfl⟩
  have hN1 : Nw w W1 := by rw [hW1]; exact (Fr.refl _ _).alloc _
  have hmk : (Instr.makeSlice 42 (.int .i64 19) (.int .i64 19)).run Tryd.prog w = .ok (.slice (some ⟨w.heap.size, 0, none⟩) 19 19) W1 := by rw [hW1]; exact make_ints 19 (by decide) w
  have HI0 : Hid (SlI sb rb K v b w n w.heap.size r0 0 p (List.replicate 19 0) W1) := ⟨by rw [hrr]; rfl, by
    unfold SwR
    rw [hW1, new_heap, toI_rep]
    rfl, by simp, h.nw hN1, Nat.le_refl _, hN1.any⟩
  have BAD : Hid (∀ y W, r0 = .bad y → Fr (fun k => k = rb) w W → P (gv y) W) := fun y W h1 h2 => by
    rw [hP]; exact .inl ⟨y, rfl, .inl h1, h2⟩
  -- a round
  have STP : Hid (∀ i p' l W, SlI sb rb K v b w n w.heap.size r0 i p' l W → i < n → ∀ V, Nw W V → (∀ y, takeR 3 (bt b p') = .bad y → Calls Tryd.prog 60 #[.pointer (some ⟨sb, 0, none⟩), .int .i64 3] V fun e V2 => e = gv y ∧ Hid (P (gv y) V2)) ∧ (∀ x t, takeR 3 (bt b p') = .ok (x, t) → Calls Tryd.prog 60 #[.pointer (some ⟨sb, 0, none⟩), .int .i64 3] V fun e V2 => e = .returned (.int .i64 x) ∧ V2.cell? ⟨0, i, none⟩ = some (.int .i64 (ordL.getD i 0 : Nat)) ∧ (∃ u, V2.cell? ⟨w.heap.size, ordL.getD i 0, none⟩ = some u) ∧ V2.frozen? ⟨w.heap.size, ordL.getD i 0, none⟩ = false ∧ Hid (∃ p2 l', SlI sb rb K v b w n w.heap.size r0 (i + 1) p2 l' (V2.setCell ⟨w.heap.size, ordL.getD i 0, none⟩ (.int .i64 x))))) := by
    intro i p' l W hI hi V hV
    have hru : r0 = bindR (takeR 3) (fun x => smallR (i + 1) (n - (i + 1)) (l.set (ordL.getD i 0) x)) (bt b p') := by
      have := hI.r
      rw [show n - i = (n - (i + 1)) + 1 by omega, smallR] at this
      exact this
    have hnum := jnumber_any (hI.lt.nw hV) 3 (by decide) 3 rfl
    constructor
    · intro y hy
      refine hnum.mono (fun e V2 hh => ?_)
      obtain ⟨a1, a2⟩ := hh.isBad hy
      exact ⟨a1, BAD.out y V2 (by rw [hru]; exact bindR_bad hy) ((hI.fr.trans hV.any).trans a2)⟩
    · intro x t hx
      refine hnum.mono (fun e V2 hh => ?_)
      obtain ⟨p2, a1, a2, a3, a4⟩ := hh.isOk hx
      have hf : Fr (fun k => k = rb) w V2 := (hI.fr.trans hV.any).trans a4
      have hrow : SwR RI w.heap.size (toI l) V2 := (hI.row.kept hV (fun h => h)).kept a4 (fun e => by omega)
      have hol := ordL_lt i
      obtain ⟨q1, q2⟩ := hrow.cell riOk (ordL.getD i 0) 0 _ _ (toI_at l (ordL.getD i 0) (by rw [hI.ll]; exact hol)) rfl
      rw [show RI.k = 1 from rfl, Nat.mul_one, Nat.add_zero] at q1 q2
      have fs : Fr (fun k => k = w.heap.size) V2 (V2.setCell ⟨w.heap.size, ordL.getD i 0, none⟩ (.int .i64 x)) := (Fr.refl _ _).setCell _ _ (.inl rfl)
      refine ⟨a2, (hT.kept hf (fun e => hr0 e.symm)) i (by omega), ⟨_, q1⟩, q2, p2, l.set (ordL.getD i 0) x, ?_, ?_, by rw [List.length_set]; exact hI.ll, ⟨fs.cellv a3.c0 (fun e => by simp only at e; omega), a3.ne, a3.rr.kept fs (fun e => by omega) (fun g hg hk => by have := hK g hk; omega), a3.pl⟩, Nat.le_refl _, hf.then fs (fun i hi => .inr (by omega))⟩
      · rw [hru, bindR_eq hx, a1]
      · rw [toI_set]
        exact hrow.set1 (ordL.getD i 0) x
  -- the end
  have DONE : Hid (∀ p' l W, SlI sb rb K v b w n w.heap.size r0 n p' l W → (¬ Cod l → Calls Tryd.prog 88 #[.slice (some ⟨w.heap.size, 0, none⟩) 19 19] W fun e V => e = .returned (.tuple #[.pointer none, .int .i64 51]) ∧ Hid (P (gv 62) V)) ∧ (Cod l → Calls Tryd.prog 88 #[.slice (some ⟨w.heap.size, 0, none⟩) 19 19] W fun e V => ∃ cb, e = .returned (.tuple #[.pointer (some ⟨cb, 0, none⟩), .int .i64 0]) ∧ Hid (Calls Tryd.prog 89 #[.pointer (some ⟨cb, 0, none⟩)] V fun e U => e = .returned (.bool (decide (room l = 32768))) ∧ Hid ((room l = 32768 → P (.returned (.pointer (some ⟨cb, 0, none⟩))) U) ∧ (room l ≠ 32768 → P (gv 62) U))))) := by
    intro p' l W hI
    have hO : OwR RI w.heap.size (.slice (some ⟨w.heap.size, 0, none⟩) 19 19) (toI l) W := ⟨toI l, by rw [toI_length, hI.ll], List.take_length, Nat.le_refl _, by rw [toI_length, hI.ll]; decide, hI.row⟩
    have hru := hI.r
    rw [Nat.sub_self] at hru
    have hru : r0 = .ok (l, bt b p') := hru
    constructor
    · intro hk
      refine (newCode_no W _ (toI l) hO.low (by rw [toI_length, hI.ll]; decide) (fun hi => hk ((isCode_iff l).1 hi))).mono (fun e V ⟨a1, a2⟩ => ⟨a1, ?_⟩)
      show P _ _
      rw [hP]
      exact .inl ⟨62, rfl, .inr ⟨l, _, hru, fun hh => hk hh.1, rfl⟩, hI.fr.trans a2.any⟩
    · intro hk
      refine (newCode_yes W _ l hO.low hk).mono (fun e V hh => ?_)
      obtain ⟨cb, gw, gs, ws, ss, a1, a2, a3, a4, a5, a6⟩ := hh
      refine ⟨cb, a1, (whole_any a2 hk).mono (fun e U hh2 => ⟨hh2.1, ?_, ?_⟩)⟩
      · intro hr
        rw [hP]
        have hsz := hI.fr.size
        exact .inr ⟨l, p', cb, gw, gs, ws, ss, hru, rfl, a2.nw hh2.2, hk, hr, hI.ll, by omega, by omega, by omega, (hI.lt.nw a3).nw hh2.2, (hI.fr.trans a3.any).trans hh2.2.any⟩
      · intro hr
        rw [hP]
        exact .inl ⟨62, rfl, .inr ⟨l, _, hru, fun hh => hr hh.2, rfl⟩, (hI.fr.trans a3.any).trans hh2.2.any⟩
  have HG : Hid (∀ V, Calls Tryd.prog 64 #[.int .i64 62] V fun e w' => e = gv 62 ∧ V = w') := fun V => (giveUp_any 62 V).mono (fun e w' ⟨a1, a2⟩ => ⟨a1, a2.symm⟩)
  have HTB : Hid (∀ i W, Fr (fun k => k = rb) w W → i < 19 → W.cell? ⟨0, i, none⟩ = some (.int .i64 (ordL.getD i 0 : Nat))) := fun i W hW hi => (hT.kept hW (fun e => hr0 e.symm)) i hi
  clear hP h hK hT hW1 hN1
  obtain ⟨g, hg⟩ : ∃ g, g = w.heap.size := ⟨_, rfl⟩
  have HGG : Hid (g = w.heap.size) := hg
  rw [← hg] at HI0 STP DONE hmk
  clear hg hrb hsb
  go_enter Tryd.func78, Tryd.ntmps78
  go_wp2_with fail
  go_loopg [11] n (fun kx i wr => ∃ I p' l, I ≤ n ∧ n - I ≤ kx ∧ i = .int .i64 (I : Nat) ∧ Hid (SlI sb rb K v b w n g r0 I p' l wr))
  case atStart => exact ⟨0, p, _, by omega, by omega, rfl, HI0⟩
  case round =>
    obtain ⟨I, p', l, hI, hkx, rfl, HI⟩ := hrel
    clear HI0 hmk
    by_cases hlt : I < n
    · have hz : (I : Int) < (n : Int) := by omega
      have hol := ordL_lt I
      have hoz : ((ordL.getD I 0 : Nat) : Int) < 19 := by omega
      have hI19 : (I : Int) < 19 := by omega
      have hI0 : (0 : Int) ≤ (I : Int) := by omega
      have ho0 : (0 : Int) ≤ ((ordL.getD I 0 : Nat) : Int) := by omega
      have t0 := HTB.out I wr HI.out.fr (by omega)
      have hNN : Nw wr wr := Fr.refl _ _
      cases hq : takeR 3 (bt b p') with
      | bad q =>
        have HN : Hid (∀ V, Nw wr V → Calls Tryd.prog 60 #[.pointer (some ⟨sb, 0, none⟩), .int .i64 3] V fun e V2 => e = gv q ∧ Hid (P (gv q) V2)) := fun V hV => (STP.out I p' l wr HI.out hlt V hV).1 q hq
        clear STP DONE HI HTB BAD hq
        generalize ordL.getD I 0 = oi at *
        go_wp2_with fail
        go_region_with (first
          | (go_at_call 60; with_reducible refine (HN.out _ ?_).mono ?_; (first | assumption | exact (Fr.refl _ _).drew | exact Fr.refl _ _ | exact (Fr.refl _ _).drewN _); rintro e w3 ⟨rfl, HF⟩; (try dsimp only); apply idle_of ⟨rfl, HF.out⟩; unfold Idle))
        all_goals trivial
      | ok rr =>
        obtain ⟨x, t⟩ := rr
        have HN : Hid (∀ V, Nw wr V → Calls Tryd.prog 60 #[.pointer (some ⟨sb, 0, none⟩), .int .i64 3] V fun e V2 => e = .returned (.int .i64 x) ∧ V2.cell? ⟨0, I, none⟩ = some (.int .i64 (ordL.getD I 0 : Nat)) ∧ (∃ u, V2.cell? ⟨g, ordL.getD I 0, none⟩ = some u) ∧ V2.frozen? ⟨g, ordL.getD I 0, none⟩ = false ∧ Hid (∃ p2 l', SlI sb rb K v b w n g r0 (I + 1) p2 l' (V2.setCell ⟨g, ordL.getD I 0, none⟩ (.int .i64 x)))) := fun V hV => (STP.out I p' l wr HI.out hlt V hV).2 x t hq
        clear STP DONE HI HTB BAD hq
        generalize ordL.getD I 0 = oi at *
        go_wp2_with fail
        go_region_with (first
          | (go_at_call 60; with_reducible refine (HN.out _ ?_).mono ?_; (first | assumption | exact (Fr.refl _ _).drew | exact Fr.refl _ _ | exact (Fr.refl _ _).drewN _); rintro e w3 ⟨rfl, x0, ⟨u, x1⟩, x2, HE⟩))
        all_goals go_wp2_with fail
        all_goals go_roundg (n - (I + 1))
        all_goals (first | omega | (obtain ⟨p2, l', hh⟩ := HE.out; exact ⟨I + 1, p2, l', by omega, by omega, by first | rfl | (congr 1), hh⟩))
    · obtain rfl : I = n := by omega
      have hz : ¬ (I : Int) < (I : Int) := by omega
      obtain ⟨dN, dY⟩ := DONE.out p' l wr HI.out
      by_cases hk : Cod l
      · have HNC := dY hk
        by_cases hr : room l = 32768
        · rw [decide_eq_true hr] at HNC
          have HN : Hid (Calls Tryd.prog 88 #[.slice (some ⟨g, 0, none⟩) 19 19] wr fun e V => ∃ cb, e = .returned (.tuple #[.pointer (some ⟨cb, 0, none⟩), .int .i64 0]) ∧ Hid (Calls Tryd.prog 89 #[.pointer (some ⟨cb, 0, none⟩)] V fun e U => e = .returned (.bool true) ∧ Hid (P (.returned (.pointer (some ⟨cb, 0, none⟩))) U))) := HNC.mono (fun e V ⟨cb, a1, a2⟩ => ⟨cb, a1, a2.out.mono (fun e U ⟨b1, b2⟩ => ⟨b1, b2.out.1 hr⟩)⟩)
          clear dN dY HNC STP DONE HI HTB BAD
          go_wp2_with (first | (go_at_call 88; (with_reducible refine HN.out.mono ?_); rintro e w1 ⟨cb, rfl, HW⟩) | (go_at_call 89; (with_reducible refine HW.out.mono ?_); rintro e w2 ⟨rfl, HF⟩))
          exact HF.out
        · rw [decide_eq_false hr] at HNC
          have HN : Hid (Calls Tryd.prog 88 #[.slice (some ⟨g, 0, none⟩) 19 19] wr fun e V => ∃ cb, e = .returned (.tuple #[.pointer (some ⟨cb, 0, none⟩), .int .i64 0]) ∧ Hid (Calls Tryd.prog 89 #[.pointer (some ⟨cb, 0, none⟩)] V fun e U => e = .returned (.bool false) ∧ Hid (P (gv 62) U))) := HNC.mono (fun e V ⟨cb, a1, a2⟩ => ⟨cb, a1, a2.out.mono (fun e U ⟨b1, b2⟩ => ⟨b1, b2.out.2 hr⟩)⟩)
          clear dN dY HNC STP DONE HI HTB BAD
          go_wp2_with (first | (go_at_call 88; (with_reducible refine HN.out.mono ?_); rintro e w1 ⟨cb, rfl, HW⟩) | (go_at_call 89; (with_reducible refine HW.out.mono ?_); rintro e w2 ⟨rfl, HF⟩) | (go_at_call 64; (with_reducible refine (HG.out _).mono ?_); rintro e w4 ⟨rfl, rfl⟩))
          exact ⟨rfl, HF.out⟩
      · have HN : Hid (Calls Tryd.prog 88 #[.slice (some ⟨g, 0, none⟩) 19 19] wr fun e V => e = .returned (.tuple #[.pointer none, .int .i64 51]) ∧ Hid (P (gv 62) V)) := dN hk
        clear dN dY STP DONE HI HTB BAD
        go_wp2_with (first | (go_at_call 88; (with_reducible refine HN.out.mono ?_); rintro e w1 ⟨rfl, HF⟩) | (go_at_call 64; (with_reducible refine (HG.out _).mono ?_); rintro e w4 ⟨rfl, rfl⟩))
        exact ⟨rfl, HF.out⟩
end Go.Proofs.YtincbbnppcpfpaaDoor

namespace Go.Proofs.YtincbbnppcpfpaaDoor
open Go.RowKit
set_option linter.unusedVariables false
variable {sb rb : Nat} {K : Nat → Prop} {rv : Value} {v : Value} {b : List By} {p : Nat} {skip left : Int} {most told : Nat} {m : Mm} {s : Sx} {w : World}
/-- A part of a row of lengths. -/
theorem OwR.part {g c : Nat} {l : List Nat} {w : World} (h : OwR RI g (.slice (some ⟨g, 0, none⟩) l.length c) (toI l) w) (o n : Nat) (ho : o + n ≤ l.length) (k : Nat) (hk : n ≤ k) (hk2 : k < 9223372036854775808) : SlR RI (fun k => w.heap.size ≤ k) (.slice (some ⟨g, o, none⟩) n k) (toI ((l.drop o).take n)) w := by
  have hlen : (toI ((l.drop o).take n)).length = n := by rw [toI_length, List.length_take, List.length_drop]; omega
  refine .inr ⟨g, o, k, by have := h.lt; omega, by rw [hlen], by rw [hlen]; exact hk, hk2, fun i x j u hx hu => ?_⟩
  have hi : i < n := by
    have := (List.getElem?_eq_some_iff.1 hx).1
    rw [hlen] at this; exact this
  have hx2 : (toI l)[o + i]? = some x := by
    unfold toI at hx ⊢
    rw [List.getElem?_map, List.getElem?_take, if_pos hi, List.getElem?_drop] at hx
    rw [List.getElem?_map]; exact hx
  have := (h.cell riOk (o + i) j x u hx2 hu).1
  rw [show RI.k = 1 from rfl, Nat.mul_one] at this ⊢
  exact this
open Classical in
theorem ownR_eq : ownR = bindR (takeR 5) fun a => bindR (takeR 5) fun d => bindR (takeR 4) fun n =>
  if 286 < a + 257 ∨ 30 < d + 1 then failR 62 else
  bindR (smallR 0 (n + 4) (List.replicate 19 0)) fun sm => if ¬ (Cod sm ∧ room sm = 32768) then failR 62 else
  bindR (lensR sm (a + 257 + (d + 1)) (a + 257 + (d + 1)) []) fun l =>
  if l.getD 256 0 ≠ 0 ∧ Good (l.take (a + 257)) ∧ (sumL (l.drop (a + 257)) = 0 ∨ Good (l.drop (a + 257))) then retR (l.take (a + 257), l.drop (a + 257)) else failR 62 := rfl
/-- What ownCodes answers. -/
def Owd (sb rb : Nat) (K : Nat → Prop) (v : Value) (b : List By) (skip left : Int) (most told : Nat) (m : Mm) (s : Sx) (w : World) (r : Rz ((List Nat × List Nat) × Bt)) (e : Ending) (w' : World) : Prop :=
  (∃ y, r = .bad y ∧ e = gv y ∧ SmI sb K (.pointer (some ⟨rb, 0, none⟩)) skip left most told m s w' ∧ Fr (fun k => ¬ K k) w w') ∨
  (∃ la lb p' m' K' x, r = .ok ((la, lb), bt b p') ∧ e = .returned x ∧ StI sb rb K' v b p' skip left most told m' { s with md := 2, la := la, lb := lb } w' ∧ (∀ k, K k → K' k) ∧ (∀ k, K' k → K k ∨ w.heap.size ≤ k) ∧ Fr (fun k => ¬ K k) w w')
theorem getD_sub (l : List Nat) (B o n : Nat) (h : ∀ i, l.getD i 0 ≤ B) (i : Nat) : ((l.drop o).take n).getD i 0 ≤ B := by
  rw [List.getD_eq_getElem?_getD, List.getElem?_take]
  by_cases hi : i < n
  · rw [if_pos hi, List.getElem?_drop, ← List.getD_eq_getElem?_getD]; exact h _
  · rw [if_neg hi]; simp
/-- Behind the lengths: the codes of both. -/
structure OwI (sb rb : Nat) (K : Nat → Prop) (v : Value) (b : List By) (p' : Nat) (skip left : Int) (most told : Nat) (m : Mm) (s : Sx) (w : World) (l : List Nat) (g c : Nat) (W : World) : Prop where
  st : StI sb rb K v b p' skip left most told m s W
  fr : Fr (fun k => ¬ K k) w W
  ow : OwR RI g (.slice (some ⟨g, 0, none⟩) l.length c) (toI l) W
  each : ∀ i, l.getD i 0 ≤ 15
  cl : l.length ≤ c
  c2 : c < 9223372036854775808
theorem OwI.nw {p' g c : Nat} {l : List Nat} {W V : World} (h : OwI sb rb K v b p' skip left most told m s w l g c W) (f : Nw W V) : OwI sb rb K v b p' skip left most told m s w l g c V := ⟨h.st.nw f, h.fr.trans f.any, h.ow.nw f, h.each, h.cl, h.c2⟩
theorem lensR_len {sm : List Nat} {N : Nat} : ∀ (k : Nat) (l0 l : List Nat) (t t' : Bt), lensR sm N k l0 t = .ok (l, t') → N ≤ l0.length + k → l.length = N := by
  have fin : ∀ (l0 l : List Nat) (t t' : Bt), (if N < l0.length then failR 62 else retR l0 : Rdr (List Nat)) t = .ok (l, t') → N ≤ l0.length → l.length = N := by
    intro l0 l t t' h hk
    split at h
    · cases h
    · injection h with h
      injection h with h
      rw [← h]; omega
  intro k
  induction k with
  | zero => intro l0 l t t' h hk; exact fin l0 l t t' h (by omega)
  | succ k ih =>
    intro l0 l t t' h hk
    rw [lensR] at h
    split at h
    · obtain ⟨y, t1, q1, q2⟩ := bindR_ok h
      split at q2
      · split at q2
        · cases q2
        · obtain ⟨y2, t2, q3, q4⟩ := bindR_ok q2
          exact ih _ _ _ _ q4 (by simp; omega)
      · split at q2
        · obtain ⟨y2, t2, q3, q4⟩ := bindR_ok q2
          exact ih _ _ _ _ q4 (by simp; omega)
        · split at q2
          · obtain ⟨y2, t2, q3, q4⟩ := bindR_ok q2
            exact ih _ _ _ _ q4 (by simp; omega)
          · exact ih _ _ _ _ q2 (by simp; omega)
    · rename_i hh
      exact fin l0 l t t' h (by omega)
end Go.Proofs.YtincbbnppcpfpaaDoor

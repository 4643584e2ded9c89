import Derived.Test.YtcogkhcfpgelhabGreatVfZ
namespace Go.Proofs.YtcogkhcfpgelhabGreat
open Go.RowKit
set_option linter.unusedVariables false
set_option maxRecDepth 100000
variable {w : World}
set_option maxHeartbeats 4000000 in
theorem valid_root (nodes bytes : Int) (lb : Nat) (hlb : w.heap[lb]? = some (.cells rootC 44)) : Calls Tryz.prog 32 #[.agg #[.int .i64 nodes, .int .i64 bytes, .int .i64 2, .slice (some ⟨lb, 0, none⟩) 1 1]] w fun e w' => e = .returned (.bool (newOk nodes bytes)) ∧ Nw w w' := by
  obtain ⟨P, hP⟩ : ∃ P : Ending → World → Prop, P = fun e w' => e = .returned (.bool (newOk nodes bytes)) ∧ Nw w w' := ⟨_, rfl⟩
  rw [← hP]
  have HF : Hid (∀ V, Nw w V → P (.returned (.bool (newOk nodes bytes))) V) := fun V hV => by rw [hP]; exact ⟨rfl, hV⟩
  clear hP
  obtain ⟨V, hV⟩ : ∃ V, V = w.alloc (.cells #[.int .i64 nodes, .int .i64 bytes, .int .i64 2, .slice (some ⟨lb, 0, none⟩) 1 1] 24) := ⟨_, rfl⟩
  have hN : Nw w V := by rw [hV]; exact (Fr.refl _ _).alloc _
  have HL : Hid (∀ W, Nw V W → W.cell? ⟨w.heap.size, 0, none⟩ = some (.int .i64 nodes) ∧ W.cell? ⟨w.heap.size, 1, none⟩ = some (.int .i64 bytes) ∧ W.cell? ⟨w.heap.size, 2, none⟩ = some (.int .i64 2) ∧ W.cell? ⟨w.heap.size, 3, none⟩ = some (.slice (some ⟨lb, 0, none⟩) 1 1)) := fun W hW => by
    refine ⟨hW.cell ?_, hW.cell ?_, hW.cell ?_, hW.cell ?_⟩
    · rw [hV]; exact (rc (nh w _) 0 _ rfl).1
    · rw [hV]; exact (rc (nh w _) 1 _ rfl).1
    · rw [hV]; exact (rc (nh w _) 2 _ rfl).1
    · rw [hV]; exact (rc (nh w _) 3 _ rfl).1
  have HB : Hid (∀ W, Nw V W → Calls Tryz.prog 58 #[.agg #[.int .i64 nodes, .int .i64 bytes, .int .i64 2, .slice (some ⟨lb, 0, none⟩) 1 1]] W fun e w' => e = .returned (.bool (newOk nodes bytes)) ∧ Hid (Nw V w')) := fun W hW => (bounds_root nodes bytes lb W).mono (fun e w' hh => ⟨hh.1, hW.trans hh.2⟩)
  have HI : Hid (∀ W, Nw V W → Calls Tryz.prog 59 #[.agg #[.int .i64 nodes, .int .i64 bytes, .int .i64 2, .slice (some ⟨lb, 0, none⟩) 1 1]] W fun e w' => e = .returned (.bool (decide (0 ≤ bytes))) ∧ Hid (Nw V w')) := fun W hW => (inodes_root nodes bytes lb ((hN.trans hW).heap hlb)).mono (fun e w' hh => ⟨hh.1, hW.trans hh.2⟩)
  have HT : Hid (∀ W, Nw V W → Calls Tryz.prog 60 #[.slice (some ⟨lb, 0, none⟩) 1 1] W fun e w' => e = .returned (.bool true) ∧ Hid (Nw V w')) := fun W hW => (tree_root lb ((hN.trans hW).heap hlb)).mono (fun e w' hh => ⟨hh.1, hW.trans hh.2⟩)
  have HW := tHid hV
  have HNW := tHid hN
  clear hV hlb hN
  obtain ⟨i0, i1, i2, i3⟩ := HL.out V (Fr.refl _ _)
  have HB0 := tHid (HB.out V (Fr.refl _ _))
  clear HB
  by_cases hok : newOk nodes bytes = true
  · rw [hok] at HF HB0
    have hb0 : 0 ≤ bytes := by
      unfold newOk at hok
      simp only [Bool.and_eq_true, decide_eq_true_eq] at hok
      exact hok.1.2
    rw [decide_eq_true hb0] at HI
    clear hok hb0
    go_enter Tryz.func32, Tryz.ntmps32
    go_upto_region 1 with fail
    rw [← HW.out]
    clear HW
    go_cut [2] (fun v wr => v = .bool true ∧ Hid (Nw V wr))
    case first =>
      have HI1 : Hid (∀ W, Hid (Nw V W) → Calls Tryz.prog 59 #[.agg #[.int .i64 nodes, .int .i64 bytes, .int .i64 2, .slice (some ⟨lb, 0, none⟩) 1 1]] W fun e w' => e = .returned (.bool true) ∧ Hid (Nw V w') ∧ w'.cell? ⟨w.heap.size, 3, none⟩ = some (.slice (some ⟨lb, 0, none⟩) 1 1)) := fun W hW => (HI.out W hW.out).mono (fun e w' hh => ⟨hh.1, hh.2, (HL.out w' hh.2.out).2.2.2⟩)
      have HB1 : Hid (Calls Tryz.prog 58 #[.agg #[.int .i64 nodes, .int .i64 bytes, .int .i64 2, .slice (some ⟨lb, 0, none⟩) 1 1]] V fun e w' => e = .returned (.bool true) ∧ Hid (Nw V w') ∧ (w'.cell? ⟨w.heap.size, 0, none⟩ = some (.int .i64 nodes) ∧ w'.cell? ⟨w.heap.size, 1, none⟩ = some (.int .i64 bytes) ∧ w'.cell? ⟨w.heap.size, 2, none⟩ = some (.int .i64 2) ∧ w'.cell? ⟨w.heap.size, 3, none⟩ = some (.slice (some ⟨lb, 0, none⟩) 1 1))) := HB0.out.mono (fun e w' hh => ⟨hh.1, hh.2, HL.out w' hh.2.out⟩)
      clear HI HB0 HL HF
      go_wp2_with (first | (go_at_call 58; with_reducible refine HB1.out.mono ?_; rintro e w2 ⟨rfl, H2, j0, j1, j2, j3⟩) | (go_at_call 59; with_reducible refine (HI1.out _ H2).mono ?_; rintro e w3 ⟨rfl, H3, k3⟩) | (go_at_call 60; with_reducible refine (HT.out _ H3.out).mono ?_; rintro e w4 ⟨rfl, H4⟩))
      go_meet
      exact ⟨rfl, H4⟩
    case rest =>
    obtain ⟨rfl, HX⟩ := hcut
    have HF2 := tHid (HF.out _ (HNW.out.trans HX.out))
    clear HF HI HT HL HB0
    go_wp2_with fail
    exact HF2.out
  · have hok2 : newOk nodes bytes = false := by simpa using hok
    rw [hok2] at HF HB0
    clear hok hok2 HI HT HL
    go_enter Tryz.func32, Tryz.ntmps32
    go_upto_region 1 with fail
    rw [← HW.out]
    clear HW
    go_wp2_with (first | (go_at_call 58; with_reducible refine HB0.out.mono ?_; rintro e w2 ⟨rfl, H2⟩))
    exact HF.out _ (HNW.out.trans H2.out)
set_option maxHeartbeats 4000000 in
theorem bcl_nil (w : World) : Calls Tryz.prog 40 #[.slice none 0 0] w fun e w' => e = .returned (.slice none 0 0) ∧ w = w' := by
  obtain ⟨P, hP⟩ : ∃ P : Ending → World → Prop, P = fun e w' => e = .returned (.slice none 0 0) ∧ w = w' := ⟨_, rfl⟩
  rw [← hP]
  have HF : Hid (P (.returned (.slice none 0 0)) w) := by rw [hP]; exact ⟨rfl, rfl⟩
  have hnil : ∀ w, (binOp BinOp.eql 38 (.slice none 0 0) (.slice none 0 0)).run Tryz.prog w = .ok (.bool true) w := fun _ => by kernel_rfl
  clear hP
  go_enter Tryz.func40, Tryz.ntmps40
  go_wp2_with fail
  exact HF.out
/-! ### build, of the root alone -/
abbrev rtN (ev : Value) (lk up : Int) : Array Value := #[.int .i64 1, .int .u32 0, .int .u32 0, .int .u32 0, .int .i64 0, .int .i32 0, .slice none 0 0, .string ⟨#[]⟩, ev, .int .i64 lk, .int .i64 up]
abbrev rtH (mb : Nat) (nodes bytes : Int) : Array Value := #[.map (some mb), .int .i64 nodes, .int .i64 bytes, .int .i64 0, .int .i64 2, .slice none 0 0]
/-- The inode's number in the map. -/
def rtI (ib : Nat) (k : Int) : Option Nat := if k = 1 then some ib else none
structure BR (fb mb ib : Nat) (nodes bytes : Int) (ev : Value) (lk up : Int) (w : World) : Prop where
  hd : w.heap[fb]? = some (.cells (rtH mb nodes bytes) 82)
  mp : Mp MI mb (rtI ib) 1 w
  nd : w.heap[ib]? = some (.cells (rtN ev lk up) 91)
theorem BR.nw {fb mb ib : Nat} {nodes bytes : Int} {ev : Value} {lk up : Int} {w w' : World} (h : BR fb mb ib nodes bytes ev lk up w) (f : Nw w w') : BR fb mb ib nodes bytes ev lk up w' := ⟨f.heap h.hd, h.mp.nw f, f.heap h.nd⟩
theorem BR.look {fb mb ib : Nat} {nodes bytes : Int} {ev : Value} {lk up : Int} {w : World} (h : BR fb mb ib nodes bytes ev lk up w) : (Instr.lookup 80 (.map (some mb)) (.int .i64 1) false).run Tryz.prog w = .ok (.pointer (some ⟨ib, 0, none⟩)) w := h.mp.look1 miOk 1 ⟨by omega, by omega⟩
/-- The root, put into the map. -/
theorem BR.made {fb mb : Nat} {nodes bytes : Int} {w : World} (h1 : w.heap[fb]? = some (.cells (rtH mb nodes bytes) 82)) (h2 : Mp MI mb (fun _ => none) 0 w) :
    ∃ W, (Instr.mapUpdate 80 (.map (some mb)) (.int .i64 1) (.pointer (some ⟨w.heap.size, 0, none⟩))).run Tryz.prog (w.alloc (.cells (rtN (.map none) 0 0) 91)) = .ok () W ∧ BR fb mb w.heap.size nodes bytes (.map none) 0 0 W ∧ Fr (fun k => k = mb) w W := by
  have hN : Nw w (w.alloc (.cells (rtN (.map none) 0 0) 91)) := (Fr.refl _ _).alloc _
  obtain ⟨W, r1, r2, r3⟩ := (h2.nw hN).store miOk 1 ⟨by omega, by omega⟩ w.heap.size trivial (by omega)
  have hmb := h2.lt
  refine ⟨W, r1, ⟨r3.heap (hN.heap h1) (fun e => ?_), r2 _ (fun x _ => rfl), r3.heap (nh w _) (by omega)⟩, hN.any.trans r3⟩
  have t1 := h2.tg
  rw [← e, tg_cells h1] at t1; cases t1
end Go.Proofs.YtcogkhcfpgelhabGreat

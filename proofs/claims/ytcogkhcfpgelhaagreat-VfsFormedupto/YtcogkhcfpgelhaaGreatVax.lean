import Derived.Test.YtcogkhcfpgelhaaGreatVav
namespace Go.Proofs.YtcogkhcfpgelhaaGreat
open Go.RowKit
set_option linter.unusedVariables false
set_option maxRecDepth 100000
variable {w : World}
theorem root_vals : ∀ i : Nat, ([Value.agg rootC] : List Value)[i]? ≠ some nodeZ := fun i h => by
  cases i with
  | zero =>
    simp only [List.getElem?_cons_zero, Option.some.injEq] at h
    injection h with h
    have := congrArg (fun a : Array Value => a[0]?) h
    simp at this
  | succ i => simp at h
def rtM (I : Nat) (k : Int) : Option Value := if I = 1 ∧ k = 1 then some (.agg rootC) else none
set_option maxHeartbeats 8000000 in
theorem tree_root (lb : Nat) (hlb : w.heap[lb]? = some (.cells rootC 58)) : Calls Tryz.prog 72 #[.slice (some ⟨lb, 0, none⟩) 1 1] w fun e w' => e = .returned (.bool true) ∧ Nw w w' := by
  obtain ⟨P, hP⟩ : ∃ P : Ending → World → Prop, P = fun e w' => e = .returned (.bool true) ∧ Nw w w' := ⟨_, rfl⟩
  rw [← hP]
  have HF : Hid (∀ V, Nw w V → P (.returned (.bool true)) V) := fun V hV => by rw [hP]; exact ⟨rfl, hV⟩
  clear hP
  have hmn := mnOk [Value.agg rootC] root_vals
  have hm1 : (Instr.makeMap 156 (some (.int .i64 1))).run Tryz.prog w = .ok (.map (some w.heap.size)) (w.alloc (.map #[] 0)) := mkMap_hint hmn 1 w
  obtain ⟨V, hV⟩ : ∃ V, w.alloc (.map #[] 0) = V := ⟨_, rfl⟩
  obtain ⟨nm, hnm⟩ : ∃ nm, w.heap.size = nm := ⟨_, rfl⟩
  have hN : Nw w V := by rw [← hV]; exact (Fr.refl _ _).alloc _
  have hM0 : Mp (MN [Value.agg rootC]) nm (fun _ => none) 0 V := by rw [← hV, ← hnm]; exact Mp.made w
  have hltb := blt hlb
  have hln : ¬ lb = nm := by omega
  have HL : Hid (∀ W, Fr (fun k => k = nm) V W → ∀ j v, rootC[j]? = some v → W.cell? ⟨lb, j, none⟩ = some v) := fun W hW j v hv => (rc (hW.heap (hN.heap hlb) hln) j v hv).1
  have HNw : Hid (∀ W, Fr (fun k => k = nm) V W → Nw w W) := fun W hW => hN.then hW (fun i hi => .inr (by omega))
  rw [hV, hnm] at hm1
  have HM0 : Hid (Fr (fun k => k = nm) V V ∧ Mp (MN [Value.agg rootC]) nm (rtM 0) 0 V) := ⟨Fr.refl _ _, hM0.cong (fun k _ => by simp [rtM])⟩
  clear hV hM0 hN hlb hltb hnm
  go_enter Tryz.func72, Tryz.ntmps72
  go_wp2_with fail
  clear hm1
  go_loopg [18] 1 (fun kx i wr => ∃ I : Nat, I ≤ 1 ∧ 1 - I ≤ kx ∧ i = .int .i64 I ∧ Hid (Fr (fun k => k = nm) V wr ∧ Mp (MN [Value.agg rootC]) nm (rtM I) I wr))
  case atStart => exact ⟨0, by omega, by omega, rfl, HM0⟩
  case round =>
    clear HM0
    obtain ⟨I, hI, hkx, rfl, HR⟩ := hrel
    have hc := HL.out wr HR.out.1
    have c0 := hc 0 _ rfl
    have c1 := hc 1 _ rfl
    have c2 := hc 2 _ rfl
    have c3 := hc 3 _ rfl
    have c4 := hc 4 _ rfl
    have c5 := hc 5 _ rfl
    have c6 := hc 6 _ rfl
    have c7 := hc 7 _ rfl
    have c8 := hc 8 _ rfl
    have c9 := hc 9 _ rfl
    clear hc
    by_cases hI0 : I = 0
    · subst hI0
      obtain ⟨V3, hV3⟩ : ∃ V3, V3 = wr.alloc (.cells rootC 58) := ⟨_, rfl⟩
      have hN3 : Nw wr V3 := by rw [hV3]; exact (Fr.refl _ _).alloc _
      have hy : ∀ j v, rootC[j]? = some v → V3.cell? ⟨wr.heap.size, j, none⟩ = some v := fun j v hv => by rw [hV3]; exact (rc (nh wr _) j v hv).1
      have y0 := hy 0 _ rfl
      have y1 := hy 1 _ rfl
      have y2 := hy 2 _ rfl
      have y3 := hy 3 _ rfl
      have y4 := hy 4 _ rfl
      have y5 := hy 5 _ rfl
      have y6 := hy 6 _ rfl
      have y7 := hy 7 _ rfl
      have y8 := hy 8 _ rfl
      have y9 := hy 9 _ rfl
      obtain ⟨W, r1, r2, r3⟩ := (HR.out.2.nw hN3).store hmn 1 ⟨by omega, by omega⟩ (.agg rootC) ⟨0, rfl⟩ (by omega)
      have r1' : (Instr.mapUpdate 156 (.map (some nm)) (.int .i64 1) (.agg #[.int .i64 1, .int .i64 1, .int .u32 0, .int .u32 0, .int .u32 0, .int .i64 0, .int .i32 0, .slice none 0 0, .string ⟨#[]⟩, .slice none 0 0])).run Tryz.prog V3 = .ok () W := r1
      have HN : Hid (Fr (fun k => k = nm) V W ∧ Mp (MN [Value.agg rootC]) nm (rtM 1) 1 W) := by
        refine ⟨(HR.out.1.trans hN3.any).trans r3, ?_⟩
        have := r2 (rtM 1) (fun x _ => by by_cases hx : x = 1 <;> simp [hx, rtM])
        exact this
      have HW3 := tHid hV3
      clear hy hV3 r1 r2 r3 hN3 HL HR HNw hmn
      unfold rootC at HW3
      go_upto_region 5 with fail
      rw [← HW3.out]
      clear HW3 c0 c1 c2 c3 c4 c5 c6 c7 c8 c9
      go_wp2_with fail
      go_roundg 0
      case measure => omega
      case rel => exact ⟨1, by omega, by omega, by first | rfl | (congr 1), HN⟩
    · obtain rfl : I = 1 := by omega
      clear c0 c1 c2 c3 c4 c5 c6 c7 c8 c9 hI hkx hI0
      have hm2 : (Instr.makeMap 157 none).run Tryz.prog wr = .ok (.map (some wr.heap.size)) (wr.alloc (.map #[] 0)) := run_makeMap 157 wr
      obtain ⟨W1, s1, s2, s3⟩ := (Mp.made (M := MC) wr).store mcOk 1 ⟨by omega, by omega⟩ 1 trivial (by omega)
      have s1' : (Instr.mapUpdate 157 (.map (some wr.heap.size)) (.int .i64 1) (.int .i64 1)).run Tryz.prog (wr.alloc (.map #[] 0)) = .ok () W1 := s1
      have hS := s2 (fun k => if k = 1 then some 1 else none) (fun x _ => rfl)
      simp only [Option.isSome_none, Bool.false_eq_true, if_false] at hS
      have fW : Nw wr W1 := Fr.then ((Fr.refl _ wr).alloc _) s3 (fun i hi => .inr (by omega))
      have HS : Hid (∀ W, Nw W1 W → (Instr.lookup 156 (.map (some nm)) (.int .i64 1) false).run Tryz.prog W = .ok (.agg #[.int .i64 1, .int .i64 1, .int .u32 0, .int .u32 0, .int .u32 0, .int .i64 0, .int .i32 0, .slice none 0 0, .string ⟨#[]⟩, .slice none 0 0]) W ∧ (∀ ty, (Builtin.len_ #[157] ty #[.map (some wr.heap.size)]).run Tryz.prog W = .ok (.int .i64 1) W) ∧ Nw w W) := fun W hW => by
        refine ⟨?_, (hS.nw hW).len mcOk, (HNw.out _ HR.out.1).trans (fW.trans hW)⟩
        have := ((HR.out.2.nw fW).nw hW).look1 hmn 1 ⟨by omega, by omega⟩
        exact this
      obtain ⟨W2, hW2⟩ : ∃ W2, W1.alloc (.cells #[.int .i64 1] 3) = W2 := ⟨_, rfl⟩
      obtain ⟨tb, htb⟩ : ∃ tb, W1.heap.size = tb := ⟨_, rfl⟩
      have hN2 : Nw W1 W2 := by rw [← hW2]; exact (Fr.refl _ _).alloc _
      have t0 : W2.cell? ⟨tb, 0, none⟩ = some (.int .i64 1) := by rw [← hW2, ← htb]; exact (rc (nh W1 _) 0 _ rfl).1
      have HN2 := tHid hN2
      generalize wr.heap.size = nb at *
      clear hN2 s1 s2 s3 hS fW HL HR HNw hmn
      go_wp2_with fail
      clear hm2 s1' hW2 htb
      go_loopg [7] 1 (fun kx v wr2 => Hid (Nw W1 wr2 ∧ wr2.cell? ⟨tb, 0, none⟩ = some (.int .i64 1)) ∧ (kx = 1 ∧ v = .slice (some ⟨tb, 0, none⟩) 1 1 ∨ v = .slice (some ⟨tb, 0, none⟩) 0 1))
      case atStart => exact ⟨⟨HN2.out, t0⟩, .inl ⟨rfl, rfl⟩⟩
      case round =>
        clear HN2 t0
        obtain ⟨HQ, (⟨rfl, rfl⟩ | rfl)⟩ := hrel
        · obtain ⟨l1, _, _⟩ := HS.out _ HQ.out.1
          have t0 := HQ.out.2
          have hfd : ∀ W, (Instr.field 58 (.agg #[.int .i64 1, .int .i64 1, .int .u32 0, .int .u32 0, .int .u32 0, .int .i64 0, .int .i32 0, .slice none 0 0, .string ⟨#[]⟩, .slice none 0 0]) 5).run Tryz.prog W = .ok (.slice none 0 0) W := fun W => by kernel_rfl
          go_wp2_with fail
          go_loopg [7, 49] 0 (fun kx v7 i wr3 => v7 = .slice (some ⟨tb, 0, none⟩) 0 1 ∧ i = .int .i64 0 ∧ Hid (Nw W1 wr3 ∧ wr3.cell? ⟨tb, 0, none⟩ = some (.int .i64 1)))
          case atStart => exact ⟨rfl, rfl, HQ⟩
          case round =>
            obtain ⟨rfl, rfl, HQ3⟩ := hrel
            clear l1 t0 HQ
            go_wp2_with fail
            go_roundg 0
            case measure => omega
            case rel => exact ⟨HQ3, .inr rfl⟩
        · obtain ⟨_, l2, hw⟩ := HS.out _ HQ.out.1
          have HF2 := tHid (HF.out _ hw)
          clear hw HQ HS HF
          go_wp2_with fail
          exact HF2.out
end Go.Proofs.YtcogkhcfpgelhaaGreat

namespace Go.Proofs.YtcogkhcfpgelhaaGreat
open Go.RowKit
set_option linter.unusedVariables false
set_option maxRecDepth 100000
variable {w : World}
set_option maxHeartbeats 4000000 in
theorem valid_root (nodes bytes : Int) (lb : Nat) (hlb : w.heap[lb]? = some (.cells rootC 58)) : Calls Tryz.prog 21 #[.agg #[.int .i64 nodes, .int .i64 bytes, .int .i64 2, .slice (some ⟨lb, 0, none⟩) 1 1]] w fun e w' => e = .returned (.bool (newOk nodes bytes)) ∧ Nw w w' := by
  obtain ⟨P, hP⟩ : ∃ P : Ending → World → Prop, P = fun e w' => e = .returned (.bool (newOk nodes bytes)) ∧ Nw w w' := ⟨_, rfl⟩
  rw [← hP]
  have HF : Hid (∀ V, Nw w V → P (.returned (.bool (newOk nodes bytes))) V) := fun V hV => by rw [hP]; exact ⟨rfl, hV⟩
  clear hP
  obtain ⟨V, hV⟩ : ∃ V, V = w.alloc (.cells #[.int .i64 nodes, .int .i64 bytes, .int .i64 2, .slice (some ⟨lb, 0, none⟩) 1 1] 37) := ⟨_, rfl⟩
  have hN : Nw w V := by rw [hV]; exact (Fr.refl _ _).alloc _
  have HL : Hid (∀ W, Nw V W → W.cell? ⟨w.heap.size, 0, none⟩ = some (.int .i64 nodes) ∧ W.cell? ⟨w.heap.size, 1, none⟩ = some (.int .i64 bytes) ∧ W.cell? ⟨w.heap.size, 2, none⟩ = some (.int .i64 2) ∧ W.cell? ⟨w.heap.size, 3, none⟩ = some (.slice (some ⟨lb, 0, none⟩) 1 1)) := fun W hW => by
    refine ⟨hW.cell ?_, hW.cell ?_, hW.cell ?_, hW.cell ?_⟩
    · rw [hV]; exact (rc (nh w _) 0 _ rfl).1
    · rw [hV]; exact (rc (nh w _) 1 _ rfl).1
    · rw [hV]; exact (rc (nh w _) 2 _ rfl).1
    · rw [hV]; exact (rc (nh w _) 3 _ rfl).1
  have HB : Hid (∀ W, Nw V W → Calls Tryz.prog 70 #[.agg #[.int .i64 nodes, .int .i64 bytes, .int .i64 2, .slice (some ⟨lb, 0, none⟩) 1 1]] W fun e w' => e = .returned (.bool (newOk nodes bytes)) ∧ Hid (Nw V w')) := fun W hW => (bounds_root nodes bytes lb W).mono (fun e w' hh => ⟨hh.1, hW.trans hh.2⟩)
  have HI : Hid (∀ W, Nw V W → Calls Tryz.prog 71 #[.agg #[.int .i64 nodes, .int .i64 bytes, .int .i64 2, .slice (some ⟨lb, 0, none⟩) 1 1]] W fun e w' => e = .returned (.bool (decide (0 ≤ bytes))) ∧ Hid (Nw V w')) := fun W hW => (inodes_root nodes bytes lb ((hN.trans hW).heap hlb)).mono (fun e w' hh => ⟨hh.1, hW.trans hh.2⟩)
  have HT : Hid (∀ W, Nw V W → Calls Tryz.prog 72 #[.slice (some ⟨lb, 0, none⟩) 1 1] W fun e w' => e = .returned (.bool true) ∧ Hid (Nw V w')) := fun W hW => (tree_root lb ((hN.trans hW).heap hlb)).mono (fun e w' hh => ⟨hh.1, hW.trans hh.2⟩)
  have HW := tHid hV
  have HNW := tHid hN
  clear hV hlb hN
  obtain ⟨i0, i1, i2, i3⟩ := HL.out V (Fr.refl _ _)
  have HB0 := tHid (HB.out V (Fr.refl _ _))
  clear HB
  by_cases hok : newOk nodes bytes = true
  · rw [hok] at HF HB0
    have hb0 : 0 ≤ bytes := by
      unfold newOk at hok
      simp only [Bool.and_eq_true, decide_eq_true_eq] at hok
      exact hok.1.2
    rw [decide_eq_true hb0] at HI
    clear hok hb0
    go_enter Tryz.func21, Tryz.ntmps21
    go_upto_region 1 with fail
    rw [← HW.out]
    clear HW
    go_cut [2] (fun v wr => v = .bool true ∧ Hid (Nw V wr))
    case first =>
      have HI1 : Hid (∀ W, Hid (Nw V W) → Calls Tryz.prog 71 #[.agg #[.int .i64 nodes, .int .i64 bytes, .int .i64 2, .slice (some ⟨lb, 0, none⟩) 1 1]] W fun e w' => e = .returned (.bool true) ∧ Hid (Nw V w') ∧ w'.cell? ⟨w.heap.size, 3, none⟩ = some (.slice (some ⟨lb, 0, none⟩) 1 1)) := fun W hW => (HI.out W hW.out).mono (fun e w' hh => ⟨hh.1, hh.2, (HL.out w' hh.2.out).2.2.2⟩)
      have HB1 : Hid (Calls Tryz.prog 70 #[.agg #[.int .i64 nodes, .int .i64 bytes, .int .i64 2, .slice (some ⟨lb, 0, none⟩) 1 1]] V fun e w' => e = .returned (.bool true) ∧ Hid (Nw V w') ∧ (w'.cell? ⟨w.heap.size, 0, none⟩ = some (.int .i64 nodes) ∧ w'.cell? ⟨w.heap.size, 1, none⟩ = some (.int .i64 bytes) ∧ w'.cell? ⟨w.heap.size, 2, none⟩ = some (.int .i64 2) ∧ w'.cell? ⟨w.heap.size, 3, none⟩ = some (.slice (some ⟨lb, 0, none⟩) 1 1))) := HB0.out.mono (fun e w' hh => ⟨hh.1, hh.2, HL.out w' hh.2.out⟩)
      clear HI HB0 HL HF
      go_wp2_with (first | (go_at_call 70; with_reducible refine HB1.out.mono ?_; rintro e w2 ⟨rfl, H2, j0, j1, j2, j3⟩) | (go_at_call 71; with_reducible refine (HI1.out _ H2).mono ?_; rintro e w3 ⟨rfl, H3, k3⟩) | (go_at_call 72; with_reducible refine (HT.out _ H3.out).mono ?_; rintro e w4 ⟨rfl, H4⟩))
      go_meet
      exact ⟨rfl, H4⟩
    case rest =>
    obtain ⟨rfl, HX⟩ := hcut
    have HF2 := tHid (HF.out _ (HNW.out.trans HX.out))
    clear HF HI HT HL HB0
    go_wp2_with fail
    exact HF2.out
  · have hok2 : newOk nodes bytes = false := by simpa using hok
    rw [hok2] at HF HB0
    clear hok hok2 HI HT HL
    go_enter Tryz.func21, Tryz.ntmps21
    go_upto_region 1 with fail
    rw [← HW.out]
    clear HW
    go_wp2_with (first | (go_at_call 70; with_reducible refine HB0.out.mono ?_; rintro e w2 ⟨rfl, H2⟩))
    exact HF.out _ (HNW.out.trans H2.out)
set_option maxHeartbeats 4000000 in
theorem bcl_nil (w : World) : Calls Tryz.prog 68 #[.slice none 0 0] w fun e w' => e = .returned (.slice none 0 0) ∧ w = w' := by
  obtain ⟨P, hP⟩ : ∃ P : Ending → World → Prop, P = fun e w' => e = .returned (.slice none 0 0) ∧ w = w' := ⟨_, rfl⟩
  rw [← hP]
  have HF : Hid (P (.returned (.slice none 0 0)) w) := by rw [hP]; exact ⟨rfl, rfl⟩
  have hnil : ∀ w, (binOp BinOp.eql 34 (.slice none 0 0) (.slice none 0 0)).run Tryz.prog w = .ok (.bool true) w := fun _ => by kernel_rfl
  clear hP
  go_enter Tryz.func68, Tryz.ntmps68
  go_wp2_with fail
  exact HF.out
/-! ### build, of the root alone -/
abbrev rtN (ev : Value) (lk up : Int) : Array Value := #[.int .i64 1, .int .u32 0, .int .u32 0, .int .u32 0, .int .i64 0, .int .i32 0, .slice none 0 0, .string ⟨#[]⟩, ev, .int .i64 lk, .int .i64 up]
abbrev rtH (mb : Nat) (nodes bytes : Int) : Array Value := #[.map (some mb), .int .i64 nodes, .int .i64 bytes, .int .i64 0, .int .i64 2, .slice none 0 0]
/-- The inode's number in the map. -/
def rtI (ib : Nat) (k : Int) : Option Nat := if k = 1 then some ib else none
structure BR (fb mb ib : Nat) (nodes bytes : Int) (ev : Value) (lk up : Int) (w : World) : Prop where
  hd : w.heap[fb]? = some (.cells (rtH mb nodes bytes) 100)
  mp : Mp MI mb (rtI ib) 1 w
  nd : w.heap[ib]? = some (.cells (rtN ev lk up) 104)
theorem BR.nw {fb mb ib : Nat} {nodes bytes : Int} {ev : Value} {lk up : Int} {w w' : World} (h : BR fb mb ib nodes bytes ev lk up w) (f : Nw w w') : BR fb mb ib nodes bytes ev lk up w' := ⟨f.heap h.hd, h.mp.nw f, f.heap h.nd⟩
theorem BR.look {fb mb ib : Nat} {nodes bytes : Int} {ev : Value} {lk up : Int} {w : World} (h : BR fb mb ib nodes bytes ev lk up w) : (Instr.lookup 98 (.map (some mb)) (.int .i64 1) false).run Tryz.prog w = .ok (.pointer (some ⟨ib, 0, none⟩)) w := h.mp.look1 miOk 1 ⟨by omega, by omega⟩
/-- The root, put into the map. -/
theorem BR.made {fb mb : Nat} {nodes bytes : Int} {w : World} (h1 : w.heap[fb]? = some (.cells (rtH mb nodes bytes) 100)) (h2 : Mp MI mb (fun _ => none) 0 w) :
    ∃ W, (Instr.mapUpdate 98 (.map (some mb)) (.int .i64 1) (.pointer (some ⟨w.heap.size, 0, none⟩))).run Tryz.prog (w.alloc (.cells (rtN (.map none) 0 0) 104)) = .ok () W ∧ BR fb mb w.heap.size nodes bytes (.map none) 0 0 W ∧ Fr (fun k => k = mb) w W := by
  have hN : Nw w (w.alloc (.cells (rtN (.map none) 0 0) 104)) := (Fr.refl _ _).alloc _
  obtain ⟨W, r1, r2, r3⟩ := (h2.nw hN).store miOk 1 ⟨by omega, by omega⟩ w.heap.size trivial (by omega)
  have hmb := h2.lt
  refine ⟨W, r1, ⟨r3.heap (hN.heap h1) (fun e => ?_), r2 _ (fun x _ => rfl), r3.heap (nh w _) (by omega)⟩, hN.any.trans r3⟩
  have t1 := h2.tg
  rw [← e, tg_cells h1] at t1; cases t1
end Go.Proofs.YtcogkhcfpgelhaaGreat

namespace Go.Proofs.YtcogkhcfpgelhaaGreat
open Go.RowKit
set_option linter.unusedVariables false
set_option maxRecDepth 100000
variable {w : World}
abbrev rootP : Pn := ⟨1, ⟨0, 0, 0, 0, 0⟩, [], [], fun _ => none, 0, 1, 1⟩
def rootQ (k : Int) : Option Pn := if k = 1 then some rootP else none
/-- A file system that is new. -/
def NewFs (nodes bytes : Int) (w : World) (fb mb : Nat) (w' : World) : Prop := ∃ L, FsH fb mb none L ⟨nodes, bytes, 0, 2⟩ rootQ 1 [] w' ∧ Nw w w' ∧ ∀ k, Bk fb mb none L rootQ k → w.heap.size ≤ k
/-- How build's first loop stands. -/
def Bl1 (V2 : World) (fb mb : Nat) (nodes bytes : Int) (I : Nat) (wr : World) : Prop := match I with
  | 0 => Nw V2 wr
  | _ => ∃ ib, BR fb mb ib nodes bytes (.map none) 0 0 wr ∧ Fr (fun k => k = mb ∨ k = fb) V2 wr ∧ V2.heap.size ≤ ib
/-- How its second loop stands. -/
def Bl2 (V2 : World) (fb mb ib : Nat) (nodes bytes : Int) (I : Nat) (wr : World) : Prop := match I with
  | 0 => BR fb mb ib nodes bytes (.map none) 0 0 wr ∧ Fr (fun k => k = mb ∨ k = fb ∨ k = ib) V2 wr
  | _ => ∃ eb, BR fb mb ib nodes bytes (.map (some eb)) 1 1 wr ∧ Mp ME eb (fun _ => none) 0 wr ∧ V2.heap.size ≤ eb ∧ Fr (fun k => k = mb ∨ k = fb ∨ k = ib) V2 wr
theorem BR.setI {fb mb ib : Nat} {nodes bytes : Int} {ev : Value} {lk up : Int} {w : World} (h : BR fb mb ib nodes bytes ev lk up w) {ev' : Value} {lk' up' : Int} (j : Nat) (v : Value) (hs : (rtN ev lk up).setIfInBounds j v = rtN ev' lk' up') : BR fb mb ib nodes bytes ev' lk' up' (w.setCell ⟨ib, j, none⟩ v) ∧ Fr (fun k => k = ib) w (w.setCell ⟨ib, j, none⟩ v) := by
  have f : Fr (fun k => k = ib) w (w.setCell ⟨ib, j, none⟩ v) := (Fr.refl (fun k => k = ib) w).setCell ⟨ib, j, none⟩ _ (.inl rfl)
  have t1 := tg_cells h.nd
  refine ⟨⟨f.heap h.hd (fun e => ?_), h.mp.kept f (fun e => ?_), ?_⟩, f⟩
  · rw [← e, tg_cells h.hd] at t1; cases t1
  · rw [← e, h.mp.tg] at t1; cases t1
  · have := rset h.nd j v
    rw [hs] at this
    exact this
theorem br_fs {fb mb ib eb : Nat} {nodes bytes : Int} (h : BR fb mb ib nodes bytes (.map (some eb)) 1 1 w) (hE : Mp ME eb (fun _ => none) 0 w) (hne : eb ≠ mb) : FsH fb mb none (fun _ => ⟨ib, eb, none⟩) ⟨nodes, bytes, 0, 2⟩ rootQ 1 [] w := by
  have hq : ∀ k p, rootQ k = some p → k = 1 ∧ p = rootP := fun k p hp => by
    unfold rootQ at hp
    split at hp
    · injection hp with hp; exact ⟨by assumption, hp.symm⟩
    · cases hp
  refine ⟨⟨.slice none 0 0, h.hd, ⟨rfl, rfl⟩⟩, h.mp.cong (fun k _ => ?_), fun k p hp => ?_, fun k k' p p' hp hp' hkk => ?_, fun k p hp hk => hne⟩
  · unfold rootQ rtI
    by_cases hk : k = 1 <;> simp [hk]
  · obtain ⟨rfl, rfl⟩ := hq k p hp
    exact ⟨.slice none 0 0, .map (some eb), h.nd, ⟨rfl, rfl⟩, fun _ => ⟨rfl, hE⟩, fun hk => absurd rfl hk⟩
  · exact absurd ((hq k p hp).1.trans (hq k' p' hp').1.symm) hkk
set_option maxHeartbeats 16000000 in
theorem build_root (nodes bytes : Int) (lb : Nat) (hlb : w.heap[lb]? = some (.cells rootC 58)) : Calls Tryz.prog 81 #[.agg #[.int .i64 nodes, .int .i64 bytes, .int .i64 2, .slice (some ⟨lb, 0, none⟩) 1 1]] w fun e w' => ∃ fb mb, e = .returned (.pointer (some ⟨fb, 0, none⟩)) ∧ NewFs nodes bytes w fb mb w' := by
  obtain ⟨P, hP⟩ : ∃ P : Ending → World → Prop, P = fun e w' => ∃ fb mb, e = .returned (.pointer (some ⟨fb, 0, none⟩)) ∧ NewFs nodes bytes w fb mb w' := ⟨_, rfl⟩
  rw [← hP]
  obtain ⟨V, hV⟩ : ∃ V, V = w.alloc (.cells #[.int .i64 nodes, .int .i64 bytes, .int .i64 2, .slice (some ⟨lb, 0, none⟩) 1 1] 37) := ⟨_, rfl⟩
  have hN : Nw w V := by rw [hV]; exact (Fr.refl _ _).alloc _
  have hm1 : (Instr.makeMap 98 (some (.int .i64 1))).run Tryz.prog V.drew = .ok (.map (some V.heap.size)) (V.alloc (.map #[] 0)).drew := mkMap_hint miOk 1 V.drew
  have hI : V.heap[w.heap.size]? = some (.cells #[.int .i64 nodes, .int .i64 bytes, .int .i64 2, .slice (some ⟨lb, 0, none⟩) 1 1] 37) := by rw [hV]; exact nh _ _
  have i0 := (rc hI 0 _ rfl).1
  have i1 := (rc hI 1 _ rfl).1
  have i2 := (rc hI 2 _ rfl).1
  have i3 := (rc hI 3 _ rfl).1
  have hsz : w.heap.size < V.heap.size := by rw [hV]; simp
  have hne : ¬ w.heap.size = V.heap.size := by omega
  obtain ⟨V2, hV2⟩ : ∃ V2, V2 = ((V.alloc (.map #[] 0)).alloc (.cells #[.map (some V.heap.size), .int .i64 nodes, .int .i64 bytes, .int .i64 0, .int .i64 2, .slice none 0 0] 100)).drew := ⟨_, rfl⟩
  obtain ⟨mb, hmb⟩ : ∃ mb, mb = V.heap.size := ⟨_, rfl⟩
  obtain ⟨fb, hfb⟩ : ∃ fb, fb = V.heap.size + 1 := ⟨_, rfl⟩
  have hN2 : Nw V V2 := by rw [hV2]; exact (((Fr.refl _ _).alloc _).alloc _).drew
  have hH : V2.heap[fb]? = some (.cells (rtH mb nodes bytes) 100) := by
    rw [hV2, hfb, hmb]
    have e : (V.alloc (.map #[] 0)).heap.size = V.heap.size + 1 := by simp
    rw [← e]
    exact nh (V.alloc (.map #[] 0)) (.cells (rtH V.heap.size nodes bytes) 100)
  have hM : Mp MI mb (fun _ => none) 0 V2 := by
    rw [hV2, hmb]
    exact (Mp.made V).nw (((Fr.refl _ _).alloc _).drew)
  have hs2 : V2.heap.size = V.heap.size + 2 := by rw [hV2]; simp
  have HIm : Hid (∀ W, Fr (fun k => mb ≤ k) V2 W → W.cell? ⟨w.heap.size, 3, none⟩ = some (.slice (some ⟨lb, 0, none⟩) 1 1) ∧ ∀ j v, rootC[j]? = some v → W.cell? ⟨lb, j, none⟩ = some v) := fun W hW => by
    have hlw := blt hlb
    refine ⟨hW.cellv (hN2.cell i3) (by show ¬ mb ≤ w.heap.size; omega), fun j v hv => ?_⟩
    exact (rc (hW.heap (hN2.heap (hN.heap hlb)) (by omega)) j v hv).1
  have HH := tHid hH
  have HM := tHid hM
  have HLo : Hid (w.heap.size < mb ∧ mb < fb ∧ fb < V2.heap.size) := by
    show _ ∧ _
    omega
  have HFin : Hid (∀ ib eb wr, BR fb mb ib nodes bytes (.map (some eb)) 1 1 wr → Mp ME eb (fun _ => none) 0 wr → V2.heap.size ≤ eb → V2.heap.size ≤ ib → Fr (fun k => k = mb ∨ k = fb ∨ k = ib) V2 wr → P (.returned (.pointer (some ⟨fb, 0, none⟩))) wr) := fun ib eb wr h1 h2 h3 h4 h5 => by
    rw [hP]
    refine ⟨fb, mb, rfl, _, br_fs h1 h2 (by omega), (hN.trans hN2).then h5 (fun i hi => .inr (by omega)), fun k hk => ?_⟩
    rcases hk with rfl | rfl | hk | ⟨n, p, hp, hk⟩
    · omega
    · omega
    · cases hk
    · rcases hk with e | ⟨_, e⟩ | hk
      · have e : k = ib := e
        omega
      · have e : k = eb := e
        omega
      · cases hk
  have HB : Hid (∀ W, Calls Tryz.prog 68 #[.slice none 0 0] W fun e w' => e = .returned (.slice none 0 0) ∧ W = w') := bcl_nil
  have HW := tHid hV
  have HW2 := tHid hV2
  have HW3 := tHid hmb
  have HW4 := tHid hfb
  clear hV hV2 hmb hfb hP hH hM hlb hI hN hN2 hs2
  go_enter Tryz.func81, Tryz.ntmps81
  go_upto_region 1 with fail
  rw [← HW.out]
  clear HW
  go_region
  rw [← HW2.out, ← HW4.out, ← HW3.out]
  clear hm1 i0 i1 i2 i3 HW2 HW3 HW4 hsz hne
  generalize w.heap.size = im at *
  have j3 := (HIm.out V2 (Fr.refl _ _)).1
  go_wp2_with fail
  clear j3
  go_loopg [25] 1 (fun kx i wr => ∃ I : Nat, I ≤ 1 ∧ 1 - I ≤ kx ∧ i = .int .i64 I ∧ Hid (Bl1 V2 fb mb nodes bytes I wr))
  case atStart => exact ⟨0, by omega, by omega, rfl, Fr.refl _ _⟩
  case round =>
    obtain ⟨I, hI, hkx, rfl, HR⟩ := hrel
    by_cases hI0 : I = 0
    · subst hI0
      have hNr : Nw V2 wr := HR.out
      obtain ⟨i3, hc⟩ := HIm.out wr hNr.any
      have c0 := hc 0 _ rfl
      have c1 := hc 1 _ rfl
      have c2 := hc 2 _ rfl
      have c3 := hc 3 _ rfl
      have c4 := hc 4 _ rfl
      have c5 := hc 5 _ rfl
      have c6 := hc 6 _ rfl
      have c7 := hc 7 _ rfl
      have c8 := hc 8 _ rfl
      have c9 := hc 9 _ rfl
      obtain ⟨V3, hV3⟩ : ∃ V3, V3 = wr.alloc (.cells rootC 58) := ⟨_, rfl⟩
      have hN3 : Nw wr V3 := by rw [hV3]; exact (Fr.refl _ _).alloc _
      have hn3 : V3.heap[wr.heap.size]? = some (.cells rootC 58) := by rw [hV3]; exact nh _ _
      obtain ⟨nb, hnb⟩ : ∃ nb, nb = wr.heap.size := ⟨_, rfl⟩
      rw [← hnb] at hn3
      have hH3 := (hNr.trans hN3).heap HH.out
      obtain ⟨W, r1, r2, r3⟩ := BR.made (w := V3.drew) hH3 ((HM.out.nw hNr).nw hN3.drew)
      have r1' : (Instr.mapUpdate 98 (.map (some mb)) (.int .i64 1) (.pointer (some ⟨V3.heap.size, 0, none⟩))).run Tryz.prog (V3.alloc (.cells (rtN (.map none) 0 0) 104)).drew = .ok () W := r1
      obtain ⟨SS, hSS⟩ : ∃ SS : World → Prop, SS = fun U => U.cell? ⟨fb, 0, none⟩ = some (.map (some mb)) ∧ U.cell? ⟨nb, 0, none⟩ = some (.int .i64 1) ∧ U.cell? ⟨nb, 1, none⟩ = some (.int .i64 1) ∧ U.cell? ⟨nb, 2, none⟩ = some (.int .u32 0) ∧ U.cell? ⟨nb, 3, none⟩ = some (.int .u32 0) ∧ U.cell? ⟨nb, 4, none⟩ = some (.int .u32 0) ∧ U.cell? ⟨nb, 5, none⟩ = some (.int .i64 0) ∧ U.cell? ⟨nb, 6, none⟩ = some (.int .i32 0) ∧ U.cell? ⟨nb, 7, none⟩ = some (.slice none 0 0) ∧ U.cell? ⟨nb, 8, none⟩ = some (.string ⟨#[]⟩) := ⟨_, rfl⟩
      have hSof : ∀ U, U.heap[fb]? = some (.cells (rtH mb nodes bytes) 100) → U.heap[nb]? = some (.cells rootC 58) → SS U := fun U h1 h2 => by
        rw [hSS]
        exact ⟨(rc h1 0 _ rfl).1, (rc h2 0 _ rfl).1, (rc h2 1 _ rfl).1, (rc h2 2 _ rfl).1, (rc h2 3 _ rfl).1, (rc h2 4 _ rfl).1, (rc h2 5 _ rfl).1, (rc h2 6 _ rfl).1, (rc h2 7 _ rfl).1, (rc h2 8 _ rfl).1⟩
      have hnmb : nb ≠ mb := by have := HLo.out; have := hNr.size; omega
      have hnW : W.heap[nb]? = some (.cells rootC 58) := r3.heap hn3 hnmb
      have HSA : Hid (SS V3) := hSof V3 hH3 hn3
      have HSB : Hid (SS V3.drew) := hSof V3.drew hH3 hn3
      have HSC : Hid (∀ o, SS (V3.alloc o).drew) := fun o => hSof _ (Nw.heap ((Fr.refl _ _).alloc o) hH3) (Nw.heap ((Fr.refl _ _).alloc o) hn3)
      have HSD : Hid (SS W) := hSof W r2.hd hnW
      rw [hSS] at HSA HSB HSC HSD
      have y3 := (rc r2.hd 3 _ rfl).1
      have g3 := (rc r2.hd 3 (.int .i64 0) rfl).2
      have y7 := (rc hnW 7 _ rfl).1
      obtain ⟨W6, hW6⟩ : ∃ W6, W.drew.setCell ⟨fb, 3, none⟩ (.int .i64 0) = W6 := ⟨_, rfl⟩
      have HN6 : Hid (Bl1 V2 fb mb nodes bytes 1 W6) := by
        show ∃ ib, _
        have f6 : Fr (fun k => k = fb) W W6 := by rw [← hW6]; exact ((Fr.refl (fun k => k = fb) W).drew).setCell ⟨fb, 3, none⟩ _ (.inl rfl)
        have t1 := tg_cells r2.hd
        have e3 : V3.drew.heap.size = V3.heap.size := rfl
        have hs3 := hN3.size
        have hsr := hNr.size
        refine ⟨V3.heap.size, ⟨?_, r2.mp.kept f6 (fun e => ?_), f6.heap r2.nd (fun e => ?_)⟩, ?_, by omega⟩
        · rw [← hW6]
          have := rset (w := W.drew) r2.hd 3 (.int .i64 0)
          rw [this]; rfl
        · rw [← e, r2.mp.tg] at t1; cases t1
        · have h9 := tg_cells r2.nd
          rw [show V3.drew.heap.size = fb from e, t1] at h9; cases h9
        · have fa : Fr (fun k => k = mb ∨ k = fb) V2 V3.drew := (hNr.any.trans hN3.any).trans (Fr.refl _ _).drew
          exact (fa.trans (r3.mono (fun i e => .inl (.inl e)))).trans (f6.mono (fun i e => .inl (.inr e)))
      have HW3 := tHid hV3
      have HW4 := tHid hnb
      clear hc hSS hSof r1 r2 r3 hV3 hN3 hn3 hH3 hnW HR hNr HH HM HIm HFin hnb
      clear SS
      unfold rootC at HW3
      unfold rtN at r1'
      go_upto_region 5 with fail
      rw [← HW3.out, ← HW4.out]
      clear HW3 HW4 c0 c1 c2 c3 c4 c5 c6 c7 c8 c9 i3
      go_region_held3 (fun U => U.cell? ⟨fb, 0, none⟩ = some (.map (some mb)) ∧ U.cell? ⟨nb, 0, none⟩ = some (.int .i64 1) ∧ U.cell? ⟨nb, 1, none⟩ = some (.int .i64 1) ∧ U.cell? ⟨nb, 2, none⟩ = some (.int .u32 0) ∧ U.cell? ⟨nb, 3, none⟩ = some (.int .u32 0) ∧ U.cell? ⟨nb, 4, none⟩ = some (.int .u32 0) ∧ U.cell? ⟨nb, 5, none⟩ = some (.int .i64 0) ∧ U.cell? ⟨nb, 6, none⟩ = some (.int .i32 0) ∧ U.cell? ⟨nb, 7, none⟩ = some (.slice none 0 0) ∧ U.cell? ⟨nb, 8, none⟩ = some (.string ⟨#[]⟩))
        (first | exact HSA.out | exact HSB.out | exact HSC.out _ | exact HSD.out)
        (first | (go_at_call 68; with_reducible refine (HB.out _).mono ?_; rintro e w5 ⟨rfl, rfl⟩))
      go_wp2_with fail
      go_region
      go_wp2_with fail
      go_roundg 0
      case measure => omega
      case rel => exact ⟨1, by omega, by omega, by first | rfl | (congr 1), HN6⟩
    · obtain rfl : I = 1 := by omega
      obtain ⟨ib, hB1, hF1, hib⟩ := (HR.out : ∃ ib, _)
      have HB2 : Hid (Bl2 V2 fb mb ib nodes bytes 0 wr) := ⟨hB1, hF1.mono (fun i e => .inl (e.imp id .inl))⟩
      have HIb := tHid hib
      have j3 := (HIm.out wr (hF1.mono (fun i e => .inl (by have := HLo.out; omega)))).1
      clear HR hB1 hF1 HB HH HM hib hkx hI0
      go_wp2_with fail
      clear j3
      go_loopg [60] 1 (fun kx i wr => ∃ I : Nat, I ≤ 1 ∧ 1 - I ≤ kx ∧ i = .int .i64 I ∧ Hid (Bl2 V2 fb mb ib nodes bytes I wr))
      case atStart => exact ⟨0, by omega, by omega, rfl, HB2⟩
      case round =>
        clear HB2 hI
        obtain ⟨I, hI, hkx, rfl, HR⟩ := hrel
        by_cases hI0 : I = 0
        · subst hI0
          obtain ⟨hB1, hF1⟩ := (HR.out : _ ∧ _)
          obtain ⟨i3, hc⟩ := HIm.out _ (hF1.mono (fun i e => .inl (by have := HLo.out; have := HIb.out; omega)))
          have c0 := hc 0 _ rfl
          have c1 := hc 1 _ rfl
          have c2 := hc 2 _ rfl
          have c3 := hc 3 _ rfl
          have c4 := hc 4 _ rfl
          have c5 := hc 5 _ rfl
          have c6 := hc 6 _ rfl
          have c7 := hc 7 _ rfl
          have c8 := hc 8 _ rfl
          have c9 := hc 9 _ rfl
          obtain ⟨V4, hV4⟩ : ∃ V4, V4 = wr.alloc (.cells rootC 58) := ⟨_, rfl⟩
          have hN4 : Nw wr V4 := by rw [hV4]; exact (Fr.refl _ _).alloc _
          have hn4 : V4.heap[wr.heap.size]? = some (.cells rootC 58) := by rw [hV4]; exact nh _ _
          obtain ⟨nb, hnb⟩ : ∃ nb, nb = wr.heap.size := ⟨_, rfl⟩
          rw [← hnb] at hn4
          have hB4 := hB1.nw hN4
          have f0 := (rc hB4.hd 0 _ rfl).1
          have n0 := (rc hn4 0 _ rfl).1
          have n1 := (rc hn4 1 _ rfl).1
          have n9 := (rc hn4 9 _ rfl).1
          have hm4 : (Instr.makeMap 102 (some (.int .i64 0))).run Tryz.prog V4.drew = .ok (.map (some V4.heap.size)) (V4.alloc (.map #[] 0)).drew := mkMap_hint meOk 0 V4.drew
          have l4 : (Instr.lookup 98 (.map (some mb)) (.int .i64 1) false).run Tryz.prog V4.drew = .ok (.pointer (some ⟨ib, 0, none⟩)) V4.drew := (hB4.nw ((Fr.refl _ _).drew)).look
          have hN5 : Nw V4 (V4.alloc (.map #[] 0)).drew := ((Fr.refl _ _).alloc _).drew
          have hB5 := hB4.nw hN5
          have l5 := hB5.look
          have hE5 : Mp ME V4.heap.size (fun _ => none) 0 (V4.alloc (.map #[] 0)).drew := (Mp.made V4).nw ((Fr.refl _ _).drew)
          have hn5 := hN5.heap hn4
          obtain ⟨V5, hV5⟩ : ∃ V5, V5 = (V4.alloc (.map #[] 0)).drew := ⟨_, rfl⟩
          rw [← hV5] at hm4 hB5 l5 hE5 hn5
          have f05 := (rc hB5.hd 0 _ rfl).1
          have n05 := (rc hn5 0 _ rfl).1
          have n95 := (rc hn5 9 _ rfl).1
          have x8 := (rc hB5.nd 8 _ rfl).1
          have g8 := (rc hB5.nd 8 (.map none) rfl).2
          obtain ⟨hB6, hF6⟩ := hB5.setI (ev' := .map (some V4.heap.size)) (lk' := 0) (up' := 0) 8 (.map (some V4.heap.size)) rfl
          obtain ⟨W5, hW5⟩ : ∃ W5, V5.setCell ⟨ib, 8, none⟩ (.map (some V4.heap.size)) = W5 := ⟨_, rfl⟩
          rw [hW5] at hB6 hF6
          have hibl := blt hB1.nd
          have hn6 := hF6.heap hn5 (by omega)
          have o0 := (rc hn6 0 _ rfl).1
          have o9 := (rc hn6 9 _ rfl).1
          have p0 := (rc hB6.hd 0 _ rfl).1
          have l6 : (Instr.lookup 98 (.map (some mb)) (.int .i64 1) false).run Tryz.prog W5.drew = .ok (.pointer (some ⟨ib, 0, none⟩)) W5.drew := (hB6.nw ((Fr.refl _ _).drew)).look
          have q9 := (rc hB6.nd 9 _ rfl).1
          have r9 := (rc hB6.nd 9 (.int .i64 0) rfl).2
          have qa := (rc hB6.nd 10 _ rfl).1
          have ra := (rc hB6.nd 10 (.int .i64 0) rfl).2
          obtain ⟨hB7, hF7⟩ := (hB6.nw ((Fr.refl _ W5).drew)).setI (ev' := .map (some V4.heap.size)) (lk' := 1) (up' := 0) 9 (.int .i64 1) rfl
          obtain ⟨W7, hW7⟩ : ∃ W7, W5.drew.setCell ⟨ib, 9, none⟩ (.int .i64 1) = W7 := ⟨_, rfl⟩
          rw [hW7] at hB7 hF7
          have sa := (rc hB7.nd 10 _ rfl).1
          have ta := (rc hB7.nd 10 (.int .i64 0) rfl).2
          obtain ⟨hB8, hF8⟩ := hB7.setI (ev' := .map (some V4.heap.size)) (lk' := 1) (up' := 1) 10 (.int .i64 1) rfl
          obtain ⟨W8, hW8⟩ : ∃ W8, W7.setCell ⟨ib, 10, none⟩ (.int .i64 1) = W8 := ⟨_, rfl⟩
          rw [hW8] at hB8 hF8
          have HN8 : Hid (Bl2 V2 fb mb ib nodes bytes 1 W8) := by
            show ∃ eb, _
            have hs4 := hN4.size
            have hs1 := hF1.size
            have hne : V4.heap.size ≠ ib := by omega
            refine ⟨V4.heap.size, hB8, ((hE5.kept hF6 hne).nw ((Fr.refl _ _).drew) |>.kept hF7 hne).kept hF8 hne, by omega, ?_⟩
            have fa : Fr (fun k => k = mb ∨ k = fb ∨ k = ib) V2 V5 := by rw [hV5]; exact (hF1.trans hN4.any).trans hN5.any
            exact (((fa.trans (hF6.mono (fun i e => .inl (.inr (.inr e))))).trans (Fr.refl _ _).drew).trans (hF7.mono (fun i e => .inl (.inr (.inr e))))).trans (hF8.mono (fun i e => .inl (.inr (.inr e))))
          have HS4 : Hid (V4.cell? ⟨fb, 0, none⟩ = some (.map (some mb)) ∧ V4.cell? ⟨nb, 0, none⟩ = some (.int .i64 1) ∧ V4.cell? ⟨nb, 9, none⟩ = some (.slice none 0 0) ∧ (Instr.lookup 98 (.map (some mb)) (.int .i64 1) false).run Tryz.prog V4 = .ok (.pointer (some ⟨ib, 0, none⟩)) V4) := ⟨f0, n0, n9, hB4.look⟩
          have HS4d : Hid (V4.drew.cell? ⟨fb, 0, none⟩ = some (.map (some mb)) ∧ V4.drew.cell? ⟨nb, 0, none⟩ = some (.int .i64 1) ∧ V4.drew.cell? ⟨nb, 9, none⟩ = some (.slice none 0 0) ∧ (Instr.lookup 98 (.map (some mb)) (.int .i64 1) false).run Tryz.prog V4.drew = .ok (.pointer (some ⟨ib, 0, none⟩)) V4.drew) := ⟨f0, n0, n9, l4⟩
          have HS5 : Hid (V5.cell? ⟨fb, 0, none⟩ = some (.map (some mb)) ∧ V5.cell? ⟨nb, 0, none⟩ = some (.int .i64 1) ∧ V5.cell? ⟨nb, 9, none⟩ = some (.slice none 0 0) ∧ (Instr.lookup 98 (.map (some mb)) (.int .i64 1) false).run Tryz.prog V5 = .ok (.pointer (some ⟨ib, 0, none⟩)) V5) := ⟨f05, n05, n95, l5⟩
          have HS6 : Hid (W5.cell? ⟨fb, 0, none⟩ = some (.map (some mb)) ∧ W5.cell? ⟨nb, 0, none⟩ = some (.int .i64 1) ∧ W5.cell? ⟨nb, 9, none⟩ = some (.slice none 0 0) ∧ (Instr.lookup 98 (.map (some mb)) (.int .i64 1) false).run Tryz.prog W5 = .ok (.pointer (some ⟨ib, 0, none⟩)) W5) := ⟨p0, o0, o9, hB6.look⟩
          have HT5 : Hid (W5.cell? ⟨fb, 0, none⟩ = some (.map (some mb)) ∧ (Instr.lookup 98 (.map (some mb)) (.int .i64 1) false).run Tryz.prog W5 = .ok (.pointer (some ⟨ib, 0, none⟩)) W5) := ⟨p0, hB6.look⟩
          have HT5d : Hid (W5.drew.cell? ⟨fb, 0, none⟩ = some (.map (some mb)) ∧ (Instr.lookup 98 (.map (some mb)) (.int .i64 1) false).run Tryz.prog W5.drew = .ok (.pointer (some ⟨ib, 0, none⟩)) W5.drew) := ⟨p0, l6⟩
          have HT7 : Hid (W7.cell? ⟨fb, 0, none⟩ = some (.map (some mb)) ∧ (Instr.lookup 98 (.map (some mb)) (.int .i64 1) false).run Tryz.prog W7 = .ok (.pointer (some ⟨ib, 0, none⟩)) W7) := ⟨(rc hB7.hd 0 _ rfl).1, hB7.look⟩
          have HT8 : Hid (W8.cell? ⟨fb, 0, none⟩ = some (.map (some mb)) ∧ (Instr.lookup 98 (.map (some mb)) (.int .i64 1) false).run Tryz.prog W8 = .ok (.pointer (some ⟨ib, 0, none⟩)) W8) := ⟨(rc hB8.hd 0 _ rfl).1, hB8.look⟩
          have HV4 := tHid hV4
          have HNB := tHid hnb
          have hV5' := hV5.symm
          have hnib : ¬ nb = ib := by omega
          have hnib2 : ¬ ib = nb := by omega
          have hnl : ¬ nb = V4.heap.size := by have := blt hn4; omega
          have hnf : ¬ fb = V4.heap.size := by have := blt hB4.hd; omega
          have hni : ¬ ib = V4.heap.size := by have := blt hB4.nd; omega
          clear hc hV4 hN4 hn4 hnb hB4 hN5 hB5 hE5 hn5 hV5 hB6 hF6 hibl hn6 hB7 hF7 hB8 hF8 HR hB1 hF1 HIm HFin
          unfold rootC at HV4
          go_upto_region 11 with fail
          rw [← HV4.out, ← HNB.out]
          clear HV4 HNB c0 c1 c2 c3 c4 c5 c6 c7 c8 c9 i3
          go_upto_region 12 with fail
          go_cut [79] (fun v wx => W5 = wx)
          case first =>
            clear HLo HIb hkx hI hnib hnib2 hnl hnf hni hW7 hW8 HN8 o0 o9 p0 l6 q9 r9 qa ra sa ta
            go_region_held3 (fun U => U.cell? ⟨fb, 0, none⟩ = some (.map (some mb)) ∧ U.cell? ⟨nb, 0, none⟩ = some (.int .i64 1) ∧ U.cell? ⟨nb, 9, none⟩ = some (.slice none 0 0) ∧ (Instr.lookup 98 (.map (some mb)) (.int .i64 1) false).run Tryz.prog U = .ok (.pointer (some ⟨ib, 0, none⟩)) U)
              (first | exact HS4.out | exact HS4d.out | exact HS5.out | exact HS6.out)
              (fail)
            all_goals go_wp2_with fail
            all_goals go_meet
            all_goals rfl
          case rest =>
          obtain rfl := hcut
          clear f0 n0 n1 n9 hm4 l4 l5 hV5' x8 g8 hW5 f05 n05 n95 HS4 HS4d HS5 HS6
          go_wp2_with fail
          go_loopg [83] 0 (fun kx i wx => i = .int .i64 0 ∧ wx = W5)
          case atStart => exact ⟨rfl, rfl⟩
          case round =>
            obtain ⟨rfl, rfl⟩ := hrel
            go_upto_region 19 with fail
            clear HLo HIb hI hnib hnib2 hnl hnf hni o0 o9
            go_region_held3 (fun U => U.cell? ⟨fb, 0, none⟩ = some (.map (some mb)) ∧ (Instr.lookup 98 (.map (some mb)) (.int .i64 1) false).run Tryz.prog U = .ok (.pointer (some ⟨ib, 0, none⟩)) U)
              (first | exact HT5.out | exact HT5d.out | exact HT7.out | exact HT8.out)
              (fail)
            all_goals go_wp2_with fail
            all_goals go_roundg 0
            all_goals first
              | exact ⟨1, by omega, by omega, by first | rfl | (congr 1), HN8⟩
              | omega
        · obtain rfl : I = 1 := by omega
          obtain ⟨eb, h1, h2, h3, h4⟩ := (HR.out : ∃ eb, _)
          have HF := tHid (HFin.out ib eb _ h1 h2 h3 HIb.out h4)
          clear HR h1 h2 h3 h4 HFin HIm
          go_wp2_with fail
          exact HF.out
end Go.Proofs.YtcogkhcfpgelhaaGreat

namespace Go.Proofs.YtcogkhcfpgelhaaGreat
open Go.RowKit
set_option linter.unusedVariables false
set_option maxRecDepth 100000
variable {w : World}
set_option maxHeartbeats 4000000 in
theorem load_root (nodes bytes : Int) (lb : Nat) (hlb : w.heap[lb]? = some (.cells rootC 58)) : Calls Tryz.prog 45 #[.agg #[.int .i64 nodes, .int .i64 bytes, .int .i64 2, .slice (some ⟨lb, 0, none⟩) 1 1]] w fun e w' => (newOk nodes bytes = false ∧ e = .returned (.tuple #[.pointer none, .int .i64 3]) ∧ Nw w w') ∨ (newOk nodes bytes = true ∧ ∃ fb mb, e = .returned (.tuple #[.pointer (some ⟨fb, 0, none⟩), .int .i64 0]) ∧ NewFs nodes bytes w fb mb w') := by
  obtain ⟨P, hP⟩ : ∃ P : Ending → World → Prop, P = fun e w' => (newOk nodes bytes = false ∧ e = .returned (.tuple #[.pointer none, .int .i64 3]) ∧ Nw w w') ∨ (newOk nodes bytes = true ∧ ∃ fb mb, e = .returned (.tuple #[.pointer (some ⟨fb, 0, none⟩), .int .i64 0]) ∧ NewFs nodes bytes w fb mb w') := ⟨_, rfl⟩
  rw [← hP]
  obtain ⟨V, hV⟩ : ∃ V, V = w.alloc (.cells #[.int .i64 nodes, .int .i64 bytes, .int .i64 2, .slice (some ⟨lb, 0, none⟩) 1 1] 37) := ⟨_, rfl⟩
  have hN : Nw w V := by rw [hV]; exact (Fr.refl _ _).alloc _
  have HL : Hid (∀ W, Nw V W → W.cell? ⟨w.heap.size, 0, none⟩ = some (.int .i64 nodes) ∧ W.cell? ⟨w.heap.size, 1, none⟩ = some (.int .i64 bytes) ∧ W.cell? ⟨w.heap.size, 2, none⟩ = some (.int .i64 2) ∧ W.cell? ⟨w.heap.size, 3, none⟩ = some (.slice (some ⟨lb, 0, none⟩) 1 1)) := fun W hW => by
    refine ⟨hW.cell ?_, hW.cell ?_, hW.cell ?_, hW.cell ?_⟩
    · rw [hV]; exact (rc (nh w _) 0 _ rfl).1
    · rw [hV]; exact (rc (nh w _) 1 _ rfl).1
    · rw [hV]; exact (rc (nh w _) 2 _ rfl).1
    · rw [hV]; exact (rc (nh w _) 3 _ rfl).1
  have HVl : Hid (Calls Tryz.prog 21 #[.agg #[.int .i64 nodes, .int .i64 bytes, .int .i64 2, .slice (some ⟨lb, 0, none⟩) 1 1]] V fun e w' => e = .returned (.bool (newOk nodes bytes)) ∧ Hid (Nw V w') ∧ w'.cell? ⟨w.heap.size, 0, none⟩ = some (.int .i64 nodes) ∧ w'.cell? ⟨w.heap.size, 1, none⟩ = some (.int .i64 bytes) ∧ w'.cell? ⟨w.heap.size, 2, none⟩ = some (.int .i64 2) ∧ w'.cell? ⟨w.heap.size, 3, none⟩ = some (.slice (some ⟨lb, 0, none⟩) 1 1)) := (valid_root nodes bytes lb (hN.heap hlb)).mono (fun e w' hh => ⟨hh.1, hh.2, HL.out w' hh.2⟩)
  have HBd : Hid (∀ W, Nw V W → Calls Tryz.prog 81 #[.agg #[.int .i64 nodes, .int .i64 bytes, .int .i64 2, .slice (some ⟨lb, 0, none⟩) 1 1]] W fun e w' => ∃ fb mb, e = .returned (.pointer (some ⟨fb, 0, none⟩)) ∧ Hid (NewFs nodes bytes w fb mb w')) := fun W hW => by
    refine Calls.mono (build_root nodes bytes lb ((hN.trans hW).heap hlb)) ?_
    rintro e w' ⟨fb, mb, rfl, L, h1, h2, h3⟩
    have hs := (hN.trans hW).size
    exact ⟨fb, mb, rfl, L, h1, (hN.trans hW).trans h2, fun k hk => by have := h3 k hk; omega⟩
  have HW := tHid hV
  have HNW := tHid hN
  obtain ⟨i0, i1, i2, i3⟩ := HL.out V (Fr.refl _ _)
  clear hV hlb hN HL
  by_cases hok : newOk nodes bytes = true
  · have HF : Hid (∀ fb mb W, NewFs nodes bytes w fb mb W → P (.returned (.tuple #[.pointer (some ⟨fb, 0, none⟩), .int .i64 0])) W) := fun fb mb W h => by rw [hP]; exact .inr ⟨hok, fb, mb, rfl, h⟩
    rw [hok] at HVl
    clear hok hP
    go_enter Tryz.func45, Tryz.ntmps45
    go_upto_region 1 with fail
    rw [← HW.out]
    clear HW
    go_wp2_with (first | (go_at_call 21; with_reducible refine HVl.out.mono ?_; rintro e w2 ⟨rfl, H2, j0, j1, j2, j3⟩) | (go_at_call 81; with_reducible refine (HBd.out _ H2.out).mono ?_; rintro e w3 ⟨fb, mb, rfl, H3⟩))
    exact HF.out _ _ _ H3.out
  · have hok2 : newOk nodes bytes = false := by simpa using hok
    have HF : Hid (∀ W, Nw w W → P (.returned (.tuple #[.pointer none, .int .i64 3])) W) := fun W h => by rw [hP]; exact .inl ⟨hok2, rfl, h⟩
    rw [hok2] at HVl
    clear hok hok2 hP HBd
    go_enter Tryz.func45, Tryz.ntmps45
    go_upto_region 1 with fail
    rw [← HW.out]
    clear HW
    go_wp2_with (first | (go_at_call 21; with_reducible refine HVl.out.mono ?_; rintro e w2 ⟨rfl, H2, j0, j1, j2, j3⟩))
    exact HF.out _ (HNW.out.trans H2.out)
set_option maxHeartbeats 4000000 in
theorem new_any (nodes bytes : Int) (w : World) : Calls Tryz.prog 26 #[.int .i64 nodes, .int .i64 bytes] w fun e w' => (newOk nodes bytes = false ∧ e = .returned (.tuple #[.pointer none, .int .i64 1]) ∧ Nw w w') ∨ (newOk nodes bytes = true ∧ ∃ fb mb, e = .returned (.tuple #[.pointer (some ⟨fb, 0, none⟩), .int .i64 0]) ∧ NewFs nodes bytes w fb mb w') := by
  obtain ⟨P, hP⟩ : ∃ P : Ending → World → Prop, P = fun e w' => (newOk nodes bytes = false ∧ e = .returned (.tuple #[.pointer none, .int .i64 1]) ∧ Nw w w') ∨ (newOk nodes bytes = true ∧ ∃ fb mb, e = .returned (.tuple #[.pointer (some ⟨fb, 0, none⟩), .int .i64 0]) ∧ NewFs nodes bytes w fb mb w') := ⟨_, rfl⟩
  rw [← hP]
  obtain ⟨V, hV⟩ : ∃ V, V = w.alloc (.cells rootC 58) := ⟨_, rfl⟩
  have hN : Nw w V := by rw [hV]; exact (Fr.refl _ _).alloc _
  have hlb : V.heap[w.heap.size]? = some (.cells rootC 58) := by rw [hV]; exact nh _ _
  have HLd : Hid (Calls Tryz.prog 45 #[.agg #[.int .i64 nodes, .int .i64 bytes, .int .i64 2, .slice (some ⟨w.heap.size, 0, none⟩) 1 1]] V fun e w' => (e = .returned (.tuple #[.pointer none, .int .i64 3]) ∧ Hid (P (.returned (.tuple #[.pointer none, .int .i64 1])) w')) ∨ (∃ fb, e = .returned (.tuple #[.pointer (some ⟨fb, 0, none⟩), .int .i64 0]) ∧ Hid (P (.returned (.tuple #[.pointer (some ⟨fb, 0, none⟩), .int .i64 0])) w'))) := by
    refine Calls.mono (load_root nodes bytes w.heap.size hlb) ?_
    rintro e w' (⟨h1, rfl, h2⟩ | ⟨h1, fb, mb, rfl, L, h2, h3, h4⟩)
    · exact .inl ⟨rfl, by show P _ _; rw [hP]; exact .inl ⟨h1, rfl, hN.trans h2⟩⟩
    · have hs := hN.size
      exact .inr ⟨fb, rfl, by show P _ _; rw [hP]; exact .inr ⟨h1, fb, mb, rfl, L, h2, hN.trans h3, fun k hk => by have := h4 k hk; omega⟩⟩
  have HW := tHid hV
  clear hV hlb hN hP
  unfold rootC at HW
  go_enter Tryz.func26, Tryz.ntmps26
  go_upto_region 2 with fail
  rw [← HW.out]
  clear HW
  go_wp2_with fail
  go_at_call 45
  with_reducible refine HLd.out.mono ?_
  rintro e w2 (⟨rfl, HF⟩ | ⟨fb, rfl, HF⟩)
  · go_wp2_with fail
    exact HF.out
  · go_wp2_with fail
    exact HF.out
/-! ### A file system among others' blocks -/
/-- A file system made since D, that has none of the blocks of X. -/
def FsD (D : World) (X : Nat → Prop) (fb mb : Nat) (h : Hx) (q : Int → Option Pn) (cnt : Nat) (T : List Ac) (w : World) : Prop := ∃ ot L, FsH fb mb ot L h q cnt T w ∧ (∀ k, Bk fb mb ot L q k → D.heap.size ≤ k ∧ ¬ X k) ∧ Nw D w ∧ ∀ k, X k → k < w.heap.size
/-- What a call may turn. -/
abbrev FrD (D : World) (X : Nat → Prop) (w w' : World) : Prop := Fr (fun k => D.heap.size ≤ k ∧ ¬ X k) w w'
variable {D w' : World} {X : Nat → Prop} {fb mb : Nat} {h h' : Hx} {q q' : Int → Option Pn} {cnt cnt' : Nat} {T T' : List Ac}
theorem FsD.nw (H : FsD D X fb mb h q cnt T w) (f : Nw w w') : FsD D X fb mb h q cnt T w' := by
  obtain ⟨ot, L, h1, h2, h3, h4⟩ := H
  exact ⟨ot, L, h1.nw f, h2, h3.trans f, fun k hk => Nat.lt_of_lt_of_le (h4 k hk) f.size⟩
/-- Others' blocks were written. -/
theorem FsD.other (H : FsD D X fb mb h q cnt T w) {Y : Nat → Prop} (f : Fr Y w w') (hY : ∀ k, Y k → X k ∧ D.heap.size ≤ k) : FsD D X fb mb h q cnt T w' := by
  obtain ⟨ot, L, h1, h2, h3, h4⟩ := H
  exact ⟨ot, L, h1.kept f (fun k hk hb => (h2 k hb).2 (hY k hk).1), h2, h3.then f (fun i hi => .inr (hY i hi).2), fun k hk => Nat.lt_of_lt_of_le (h4 k hk) f.size⟩
/-- More blocks of others, which came since. -/
theorem FsD.more (H : FsD D X fb mb h q cnt T w) (f : Nw w w') {Y : Nat → Prop} (hY : ∀ k, Y k → X k ∨ w.heap.size ≤ k ∧ k < w'.heap.size) : FsD D Y fb mb h q cnt T w' := by
  obtain ⟨ot, L, h1, h2, h3, h4⟩ := H
  refine ⟨ot, L, h1.nw f, fun k hk => ⟨(h2 k hk).1, fun hy => ?_⟩, h3.trans f, fun k hk => ?_⟩
  · rcases hY k hy with e | e
    · exact (h2 k hk).2 e
    · have := h1.lt k hk; omega
  · rcases hY k hk with e | e
    · exact Nat.lt_of_lt_of_le (h4 k e) f.size
    · exact e.2
theorem FsD.of_new {nodes bytes : Int} (hX : ∀ k, ¬ X k) (h : NewFs nodes bytes w fb mb w') : FsD w X fb mb ⟨nodes, bytes, 0, 2⟩ rootQ 1 [] w' := by
  obtain ⟨L, h1, h2, h3⟩ := h
  exact ⟨none, L, h1, fun k hk => ⟨h3 k hk, hX k⟩, h2, fun k hk => absurd hk (hX k)⟩
/-- What a call that changes something leaves. -/
theorem mut_D {ot : Option Nat} {L : Int → Lay} (h1 : FsH fb mb ot L h q cnt T w) (h2 : ∀ k, Bk fb mb ot L q k → D.heap.size ≤ k ∧ ¬ X k) (h3 : Nw D w) (h4 : ∀ k, X k → k < w.heap.size) (hM : MutO fb mb ot L q h' q' cnt' T' w w') : FsD D X fb mb h' q' cnt' T' w' ∧ FrD D X w w' := by
  obtain ⟨ot', L', m1, m2, m3⟩ := hM
  have hs := h3.size
  refine ⟨⟨ot', L', m1, fun k hk => ?_, h3.then m2 (fun i hi => .inr (h2 i hi).1), fun k hk => Nat.lt_of_lt_of_le (h4 k hk) m2.size⟩, m2.mono (fun i hi => .inl (h2 i hi))⟩
  rcases m3 k hk with e | e
  · exact h2 k e
  · exact ⟨by omega, fun hx => by have := h4 k hx; omega⟩
end Go.Proofs.YtcogkhcfpgelhaaGreat

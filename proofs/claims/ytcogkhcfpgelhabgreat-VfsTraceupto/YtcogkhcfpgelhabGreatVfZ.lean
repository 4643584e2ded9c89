import Derived.Test.YtcogkhcfpgelhabGreatVfY
namespace Go.Proofs.YtcogkhcfpgelhabGreat
open Go.RowKit
set_option linter.unusedVariables false
set_option maxRecDepth 100000
variable {w : World}
theorem root_vals : ∀ i : Nat, ([Value.agg rootC] : List Value)[i]? ≠ some nodeZ := fun i h => by
  cases i with
  | zero =>
    simp only [List.getElem?_cons_zero, Option.some.injEq] at h
    injection h with h
    have := congrArg (fun a : Array Value => a[0]?) h
    simp at this
  | succ i => simp at h
def rtM (I : Nat) (k : Int) : Option Value := if I = 1 ∧ k = 1 then some (.agg rootC) else none
set_option maxHeartbeats 8000000 in
theorem tree_root (lb : Nat) (hlb : w.heap[lb]? = some (.cells rootC 44)) : Calls Tryz.prog 60 #[.slice (some ⟨lb, 0, none⟩) 1 1] w fun e w' => e = .returned (.bool true) ∧ Nw w w' := by
  obtain ⟨P, hP⟩ : ∃ P : Ending → World → Prop, P = fun e w' => e = .returned (.bool true) ∧ Nw w w' := ⟨_, rfl⟩
  rw [← hP]
  have HF : Hid (∀ V, Nw w V → P (.returned (.bool true)) V) := fun V hV => by rw [hP]; exact ⟨rfl, hV⟩
  clear hP
  have hmn := mnOk [Value.agg rootC] root_vals
  have hm1 : (Instr.makeMap 138 (some (.int .i64 1))).run Tryz.prog w = .ok (.map (some w.heap.size)) (w.alloc (.map #[] 0)) := mkMap_hint hmn 1 w
  obtain ⟨V, hV⟩ : ∃ V, w.alloc (.map #[] 0) = V := ⟨_, rfl⟩
  obtain ⟨nm, hnm⟩ : ∃ nm, w.heap.size = nm := ⟨_, rfl⟩
  have hN : Nw w V := by rw [← hV]; exact (Fr.refl _ _).alloc _
  have hM0 : Mp (MN [Value.agg rootC]) nm (fun _ => none) 0 V := by rw [← hV, ← hnm]; exact Mp.made w
  have hltb := blt hlb
  have hln : ¬ lb = nm := by omega
  have HL : Hid (∀ W, Fr (fun k => k = nm) V W → ∀ j v, rootC[j]? = some v → W.cell? ⟨lb, j, none⟩ = some v) := fun W hW j v hv => (rc (hW.heap (hN.heap hlb) hln) j v hv).1
  have HNw : Hid (∀ W, Fr (fun k => k = nm) V W → Nw w W) := fun W hW => hN.then hW (fun i hi => .inr (by omega))
  rw [hV, hnm] at hm1
  have HM0 : Hid (Fr (fun k => k = nm) V V ∧ Mp (MN [Value.agg rootC]) nm (rtM 0) 0 V) := ⟨Fr.refl _ _, hM0.cong (fun k _ => by simp [rtM])⟩
  clear hV hM0 hN hlb hltb hnm
  go_enter Tryz.func60, Tryz.ntmps60
  go_wp2_with fail
  clear hm1
  go_loopg [18] 1 (fun kx i wr => ∃ I : Nat, I ≤ 1 ∧ 1 - I ≤ kx ∧ i = .int .i64 I ∧ Hid (Fr (fun k => k = nm) V wr ∧ Mp (MN [Value.agg rootC]) nm (rtM I) I wr))
  case atStart => exact ⟨0, by omega, by omega, rfl, HM0⟩
  case round =>
    clear HM0
    obtain ⟨I, hI, hkx, rfl, HR⟩ := hrel
    have hc := HL.out wr HR.out.1
    have c0 := hc 0 _ rfl
    have c1 := hc 1 _ rfl
    have c2 := hc 2 _ rfl
    have c3 := hc 3 _ rfl
    have c4 := hc 4 _ rfl
    have c5 := hc 5 _ rfl
    have c6 := hc 6 _ rfl
    have c7 := hc 7 _ rfl
    have c8 := hc 8 _ rfl
    have c9 := hc 9 _ rfl
    clear hc
    by_cases hI0 : I = 0
    · subst hI0
      obtain ⟨V3, hV3⟩ : ∃ V3, V3 = wr.alloc (.cells rootC 44) := ⟨_, rfl⟩
      have hN3 : Nw wr V3 := by rw [hV3]; exact (Fr.refl _ _).alloc _
      have hy : ∀ j v, rootC[j]? = some v → V3.cell? ⟨wr.heap.size, j, none⟩ = some v := fun j v hv => by rw [hV3]; exact (rc (nh wr _) j v hv).1
      have y0 := hy 0 _ rfl
      have y1 := hy 1 _ rfl
      have y2 := hy 2 _ rfl
      have y3 := hy 3 _ rfl
      have y4 := hy 4 _ rfl
      have y5 := hy 5 _ rfl
      have y6 := hy 6 _ rfl
      have y7 := hy 7 _ rfl
      have y8 := hy 8 _ rfl
      have y9 := hy 9 _ rfl
      obtain ⟨W, r1, r2, r3⟩ := (HR.out.2.nw hN3).store hmn 1 ⟨by omega, by omega⟩ (.agg rootC) ⟨0, rfl⟩ (by omega)
      have r1' : (Instr.mapUpdate 138 (.map (some nm)) (.int .i64 1) (.agg #[.int .i64 1, .int .i64 1, .int .u32 0, .int .u32 0, .int .u32 0, .int .i64 0, .int .i32 0, .slice none 0 0, .string ⟨#[]⟩, .slice none 0 0])).run Tryz.prog V3 = .ok () W := r1
      have HN : Hid (Fr (fun k => k = nm) V W ∧ Mp (MN [Value.agg rootC]) nm (rtM 1) 1 W) := by
        refine ⟨(HR.out.1.trans hN3.any).trans r3, ?_⟩
        have := r2 (rtM 1) (fun x _ => by by_cases hx : x = 1 <;> simp [hx, rtM])
        exact this
      have HW3 := tHid hV3
      clear hy hV3 r1 r2 r3 hN3 HL HR HNw hmn
      unfold rootC at HW3
      go_upto_region 5 with fail
      rw [← HW3.out]
      clear HW3 c0 c1 c2 c3 c4 c5 c6 c7 c8 c9
      go_wp2_with fail
      go_roundg 0
      case measure => omega
      case rel => exact ⟨1, by omega, by omega, by first | rfl | (congr 1), HN⟩
    · obtain rfl : I = 1 := by omega
      clear c0 c1 c2 c3 c4 c5 c6 c7 c8 c9 hI hkx hI0
      have hm2 : (Instr.makeMap 59 none).run Tryz.prog wr = .ok (.map (some wr.heap.size)) (wr.alloc (.map #[] 0)) := run_makeMap 59 wr
      obtain ⟨W1, s1, s2, s3⟩ := (Mp.made (M := MC) wr).store mcOk 1 ⟨by omega, by omega⟩ 1 trivial (by omega)
      have s1' : (Instr.mapUpdate 59 (.map (some wr.heap.size)) (.int .i64 1) (.int .i64 1)).run Tryz.prog (wr.alloc (.map #[] 0)) = .ok () W1 := s1
      have hS := s2 (fun k => if k = 1 then some 1 else none) (fun x _ => rfl)
      simp only [Option.isSome_none, Bool.false_eq_true, if_false] at hS
      have fW : Nw wr W1 := Fr.then ((Fr.refl _ wr).alloc _) s3 (fun i hi => .inr (by omega))
      have HS : Hid (∀ W, Nw W1 W → (Instr.lookup 138 (.map (some nm)) (.int .i64 1) false).run Tryz.prog W = .ok (.agg #[.int .i64 1, .int .i64 1, .int .u32 0, .int .u32 0, .int .u32 0, .int .i64 0, .int .i32 0, .slice none 0 0, .string ⟨#[]⟩, .slice none 0 0]) W ∧ (∀ ty, (Builtin.len_ #[59] ty #[.map (some wr.heap.size)]).run Tryz.prog W = .ok (.int .i64 1) W) ∧ Nw w W) := fun W hW => by
        refine ⟨?_, (hS.nw hW).len mcOk, (HNw.out _ HR.out.1).trans (fW.trans hW)⟩
        have := ((HR.out.2.nw fW).nw hW).look1 hmn 1 ⟨by omega, by omega⟩
        exact this
      obtain ⟨W2, hW2⟩ : ∃ W2, W1.alloc (.cells #[.int .i64 1] 3) = W2 := ⟨_, rfl⟩
      obtain ⟨tb, htb⟩ : ∃ tb, W1.heap.size = tb := ⟨_, rfl⟩
      have hN2 : Nw W1 W2 := by rw [← hW2]; exact (Fr.refl _ _).alloc _
      have t0 : W2.cell? ⟨tb, 0, none⟩ = some (.int .i64 1) := by rw [← hW2, ← htb]; exact (rc (nh W1 _) 0 _ rfl).1
      have HN2 := tHid hN2
      generalize wr.heap.size = nb at *
      clear hN2 s1 s2 s3 hS fW HL HR HNw hmn
      go_wp2_with fail
      clear hm2 s1' hW2 htb
      go_loopg [7] 1 (fun kx v wr2 => Hid (Nw W1 wr2 ∧ wr2.cell? ⟨tb, 0, none⟩ = some (.int .i64 1)) ∧ (kx = 1 ∧ v = .slice (some ⟨tb, 0, none⟩) 1 1 ∨ v = .slice (some ⟨tb, 0, none⟩) 0 1))
      case atStart => exact ⟨⟨HN2.out, t0⟩, .inl ⟨rfl, rfl⟩⟩
      case round =>
        clear HN2 t0
        obtain ⟨HQ, (⟨rfl, rfl⟩ | rfl)⟩ := hrel
        · obtain ⟨l1, _, _⟩ := HS.out _ HQ.out.1
          have t0 := HQ.out.2
          have hfd : ∀ W, (Instr.field 44 (.agg #[.int .i64 1, .int .i64 1, .int .u32 0, .int .u32 0, .int .u32 0, .int .i64 0, .int .i32 0, .slice none 0 0, .string ⟨#[]⟩, .slice none 0 0]) 5).run Tryz.prog W = .ok (.slice none 0 0) W := fun W => by kernel_rfl
          go_wp2_with fail
          go_loopg [7, 49] 0 (fun kx v7 i wr3 => v7 = .slice (some ⟨tb, 0, none⟩) 0 1 ∧ i = .int .i64 0 ∧ Hid (Nw W1 wr3 ∧ wr3.cell? ⟨tb, 0, none⟩ = some (.int .i64 1)))
          case atStart => exact ⟨rfl, rfl, HQ⟩
          case round =>
            obtain ⟨rfl, rfl, HQ3⟩ := hrel
            clear l1 t0 HQ
            go_wp2_with fail
            go_roundg 0
            case measure => omega
            case rel => exact ⟨HQ3, .inr rfl⟩
        · obtain ⟨_, l2, hw⟩ := HS.out _ HQ.out.1
          have HF2 := tHid (HF.out _ hw)
          clear hw HQ HS HF
          go_wp2_with fail
          exact HF2.out
end Go.Proofs.YtcogkhcfpgelhabGreat

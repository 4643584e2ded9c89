import Derived.Test.YtcogkhcfpgelhabGreatVfX
namespace Go.Proofs.YtcogkhcfpgelhabGreat
open Go.RowKit
set_option linter.unusedVariables false
set_option maxRecDepth 100000
/-! ### Maps of whole inodes, and of numbers -/
abbrev nodeZ : Value := .agg #[.int .i64 0, .int .i64 0, .int .u32 0, .int .u32 0, .int .u32 0, .int .i64 0, .int .i32 0, .slice none 0 0, .string ⟨#[]⟩, .slice none 0 0]
open Classical in
noncomputable def codeV (vals : List Value) (u : Value) : Nat := if hx : ∃ i : Nat, vals[i]? = some u then hx.choose else 0
theorem codeV_eq {vals : List Value} {u : Value} (hx : ∃ i : Nat, vals[i]? = some u) : vals[codeV vals u]? = some u := by
  unfold codeV
  rw [dif_pos hx]
  exact hx.choose_spec
open Classical in
noncomputable def Rnode (vals : List Value) (u : Value) : Option (DataW Unit × List MemPlace) := if ∃ i : Nat, vals[i]? = some u then some (.lit (.int .i64 (codeV vals u)), []) else if u = nodeZ then some (.lit (.bool false), []) else none
noncomputable def MN (vals : List Value) : MT Int Value := { kt := 3, et := 44, mt := 138, kv := fun k => .int .i64 k, kl := fun k => .int .i64 k, kok := I64, ev := fun v => v, ed := fun v => .lit (.int .i64 (codeV vals v)), eok := fun v => ∃ i : Nat, vals[i]? = some v, zv := nodeZ, zd := .lit (.bool false), R := Rnode vals }
theorem mnOk (vals : List Value) (hz : ∀ i : Nat, vals[i]? ≠ some nodeZ) : (MN vals).Ok where
  keyed := Maps.int_keyed Tryz.underlying3
  und := Tryz.underlying138
  keq := fun k hk => Maps.keyOf_int_mk Tryz.underlying3 (i64wf hk.1 hk.2)
  kinj := fun k k' _ _ h => by simp only [MN] at h; injection h
  eR := fun v hv => by
    have hv : ∃ i : Nat, vals[i]? = some v := hv
    show Rnode vals v = _
    unfold Rnode
    rw [if_pos hv]; rfl
  einv := fun u v ps hv h => by
    have h : Rnode vals u = some (.lit (.int .i64 (codeV vals v)), ps) := h
    show u = v
    unfold Rnode at h
    split at h
    · rename_i hu
      simp only [Option.some.injEq, Prod.mk.injEq] at h
      obtain ⟨h, _⟩ := h
      injection h with h
      injection h with _ h
      have e := Int.ofNat.inj h
      have h1 := codeV_eq hu
      have h2 := codeV_eq hv
      rw [e, h2] at h1
      injection h1 with h1
      exact h1.symm
    · split at h
      · simp only [Option.some.injEq, Prod.mk.injEq] at h
        obtain ⟨h, _⟩ := h
        injection h with h
        cases h
      · cases h
  zR := by
    show Rnode vals nodeZ = _
    unfold Rnode
    rw [if_neg (fun ⟨i, hi⟩ => hz i hi), if_pos rfl]; rfl
  zinv := fun u ps h => by
    have h : Rnode vals u = some (.lit (.bool false), ps) := h
    show u = nodeZ
    unfold Rnode at h
    split at h
    · simp only [Option.some.injEq, Prod.mk.injEq] at h
      obtain ⟨h, _⟩ := h
      injection h with h
      cases h
    · split at h
      · rename_i e; exact e
      · cases h
  zero := fun w => by kernel_rfl
def MC : MT Int Int := { kt := 3, et := 3, mt := 59, kv := fun k => .int .i64 k, kl := fun k => .int .i64 k, kok := I64, ev := fun g => .int .i64 g, ed := fun g => .lit (.int .i64 g), eok := fun _ => True, zv := .int .i64 0, zd := .lit (.int .i64 0), R := Rint }
theorem mcOk : MC.Ok where
  keyed := Maps.int_keyed Tryz.underlying3
  und := Tryz.underlying59
  keq := fun k hk => Maps.keyOf_int_mk Tryz.underlying3 (i64wf hk.1 hk.2)
  kinj := fun k k' _ _ h => by simp only [MC] at h; injection h
  eR := fun v hv => rfl
  einv := fun u v ps _ h => Rint_inv h
  zR := rfl
  zinv := fun u ps h => Rint_inv h
  zero := fun w => by kernel_rfl
theorem mkMap_hint {κ ν : Type} {M : MT κ ν} (hM : M.Ok) (n : Nat) (w : World) : (Instr.makeMap M.mt (some (.int .i64 n))).run Tryz.prog w = .ok (.map (some w.heap.size)) (w.alloc (.map #[] 0)) := by
  simp [Instr.makeMap, run_underlying hM.und, asInt, asIntOf]
variable {w : World}
set_option maxHeartbeats 8000000 in
theorem inodes_root (nodes bytes : Int) (lb : Nat) (hlb : w.heap[lb]? = some (.cells rootC 44)) : Calls Tryz.prog 59 #[.agg #[.int .i64 nodes, .int .i64 bytes, .int .i64 2, .slice (some ⟨lb, 0, none⟩) 1 1]] w fun e w' => e = .returned (.bool (decide (0 ≤ bytes))) ∧ Nw w w' := by
  obtain ⟨P, hP⟩ : ∃ P : Ending → World → Prop, P = fun e w' => e = .returned (.bool (decide (0 ≤ bytes))) ∧ Nw w w' := ⟨_, rfl⟩
  rw [← hP]
  have HF : Hid (∀ V, Nw w V → P (.returned (.bool (decide (0 ≤ bytes)))) V) := fun V hV => by rw [hP]; exact ⟨rfl, hV⟩
  clear hP
  obtain ⟨V, hV⟩ : ∃ V, V = w.alloc (.cells #[.int .i64 nodes, .int .i64 bytes, .int .i64 2, .slice (some ⟨lb, 0, none⟩) 1 1] 24) := ⟨_, rfl⟩
  have hN : Nw w V := by rw [hV]; exact (Fr.refl _ _).alloc _
  have HL : Hid (∀ W, Nw V W → (∀ j v, rootC[j]? = some v → W.cell? ⟨lb, j, none⟩ = some v) ∧ W.cell? ⟨w.heap.size, 1, none⟩ = some (.int .i64 bytes) ∧ W.cell? ⟨w.heap.size, 2, none⟩ = some (.int .i64 2) ∧ W.cell? ⟨w.heap.size, 3, none⟩ = some (.slice (some ⟨lb, 0, none⟩) 1 1)) := fun W hW => by
    refine ⟨fun j v hv => (rc ((hN.trans hW).heap hlb) j v hv).1, hW.cell ?_, hW.cell ?_, hW.cell ?_⟩
    · rw [hV]; exact (rc (nh w _) 1 _ rfl).1
    · rw [hV]; exact (rc (nh w _) 2 _ rfl).1
    · rw [hV]; exact (rc (nh w _) 3 _ rfl).1
  have HI : Hid (∀ W, Calls Tryz.prog 78 #[.agg #[.int .i64 1, .int .i64 1, .int .u32 0, .int .u32 0, .int .u32 0, .int .i64 0, .int .i32 0, .slice none 0 0, .string ⟨#[]⟩, .slice none 0 0]] W fun e w' => e = .returned (.bool true) ∧ Hid (Nw W w')) := fun W => inode_root W
  have HW := tHid hV
  have HNW := tHid hN
  have hlt := blt hlb
  clear hV hlb hN
  obtain ⟨hc, i1, i2, i3⟩ := HL.out V (Fr.refl _ _)
  have c0 := hc 0 _ rfl
  have c1 := hc 1 _ rfl
  have c2 := hc 2 _ rfl
  have c3 := hc 3 _ rfl
  have c4 := hc 4 _ rfl
  have c5 := hc 5 _ rfl
  have c6 := hc 6 _ rfl
  have c7 := hc 7 _ rfl
  have c8 := hc 8 _ rfl
  have c9 := hc 9 _ rfl
  clear hc
  obtain ⟨V2, hV2⟩ : ∃ V2, V2 = V.alloc (.cells rootC 44) := ⟨_, rfl⟩
  have hN2 : Nw V V2 := by rw [hV2]; exact (Fr.refl _ _).alloc _
  have HN2 := tHid hN2
  have HW2 := tHid hV2
  obtain ⟨hd, j1, j2, j3⟩ := HL.out V2 hN2
  have y0 : V2.cell? ⟨V.heap.size, 0, none⟩ = some (.int .i64 1) := by rw [hV2]; exact (rc (nh V _) 0 _ rfl).1
  have y1 : V2.cell? ⟨V.heap.size, 1, none⟩ = some (.int .i64 1) := by rw [hV2]; exact (rc (nh V _) 1 _ rfl).1
  clear hd hN2 hV2
  unfold rootC at HW2
  go_enter Tryz.func59, Tryz.ntmps59
  go_upto_region 1 with fail
  rw [← HW.out]
  clear HW
  go_upto_region 2 with fail
  rw [← HW2.out]
  clear HW2 c0 c1 c2 c3 c4 c5 c6 c7 c8 c9 i1 i2 i3
  go_wp2_with fail
  go_loopg [4, 5, 23] 1 (fun kx l hh i wr => ∃ I : Nat, I ≤ 1 ∧ 1 - I ≤ kx ∧ l = .int .i64 I ∧ hh = .int .i64 0 ∧ i = .int .i64 I ∧ Hid (Nw V wr))
  case atStart => exact ⟨0, by omega, by omega, rfl, rfl, rfl, HN2.out⟩
  case round =>
    clear y0 y1 j1 j2 j3
    obtain ⟨I, hI, hkx, rfl, rfl, rfl, HR⟩ := hrel
    obtain ⟨hc, i1, i2, i3⟩ := HL.out wr HR.out
    have c0 := hc 0 _ rfl
    have c1 := hc 1 _ rfl
    have c2 := hc 2 _ rfl
    have c3 := hc 3 _ rfl
    have c4 := hc 4 _ rfl
    have c5 := hc 5 _ rfl
    have c6 := hc 6 _ rfl
    have c7 := hc 7 _ rfl
    have c8 := hc 8 _ rfl
    have c9 := hc 9 _ rfl
    clear hc
    by_cases hI0 : I = 0
    · subst hI0
      obtain ⟨V3, hV3⟩ : ∃ V3, V3 = wr.alloc (.cells rootC 44) := ⟨_, rfl⟩
      have hN3 : Nw wr V3 := by rw [hV3]; exact (Fr.refl _ _).alloc _
      obtain ⟨_, k1, k2, k3⟩ := HL.out V3 (HR.out.trans hN3)
      have HY : Hid (∀ W, Nw V3 W → ∀ j v, rootC[j]? = some v → W.cell? ⟨wr.heap.size, j, none⟩ = some v) := fun W hW j v hv => hW.cell (by rw [hV3]; exact (rc (nh wr _) j v hv).1)
      have hy := HY.out V3 (Fr.refl _ _)
      have y0 := hy 0 _ rfl
      have y1 := hy 1 _ rfl
      have y2 := hy 2 _ rfl
      have y3 := hy 3 _ rfl
      have y4 := hy 4 _ rfl
      have y5 := hy 5 _ rfl
      have y6 := hy 6 _ rfl
      have y7 := hy 7 _ rfl
      have y8 := hy 8 _ rfl
      have y9 := hy 9 _ rfl
      have HN3 := tHid (HR.out.trans hN3)
      have HW3 := tHid hV3
      clear hy hN3 hV3 HL HN2 HNW HR
      unfold rootC at HW3
      go_upto_region 8 with fail
      rw [← HW3.out]
      clear HW3 c0 c1 c2 c3 c4 c5 c6 c7 c8 c9 i1 i2 i3
      go_upto_region 10 with (first | (go_at_call 78; with_reducible refine (HI.out _).mono ?_; rintro e w4 ⟨rfl, H4⟩))
      have z0 := HY.out w4 H4.out 0 _ rfl
      have z7 := HY.out w4 H4.out 7 _ rfl
      go_wp2_with fail
      go_roundg 0
      case measure => omega
      case rel => exact ⟨1, by omega, by omega, by first | rfl | (congr 1), by first | rfl | (congr 1), by first | rfl | (congr 1), HN3.out.trans H4.out⟩
    · obtain rfl : I = 1 := by omega
      have HF2 := tHid (HF.out wr (HNW.out.trans HR.out))
      clear HL HN2 HNW HR HF HI
      go_wp2_with fail
      exact HF2.out
end Go.Proofs.YtcogkhcfpgelhabGreat

import Derived.Test.YtkpkiajehclbhaaBiB
namespace Go.Proofs.Ytkpkiajehclbhaa
open Go.RowKit
set_option linter.unusedVariables false
/-- Bits as a byte's. -/
theorem byte_next (v J K : Nat) (hK : K < 8) : v / 256 ^ J % 2 ^ (K + 1) = v / 256 ^ J % 2 ^ K + 2 ^ K * (v / 2 ^ (8 * J + K) % 2) := by
  rw [Nat.pow_add 2 (8 * J), ← Nat.div_div_eq_div_mul, ← pow256, Nat.pow_succ, Nat.mod_mul]
set_option maxHeartbeats 8000000 in
set_option maxRecDepth 100000 in
theorem sBytes_any (w : World) (vb : Value) (v n : Nat) (hv : v < 2 ^ n) (hb : Sl (fun _ => False) vb (bl v n) w) (hbl : n ≤ 35184372088832) : Calls Try.prog 30 #[vb] w (Own (lows v ((n + 7) / 8)) w) := by
  obtain ⟨P, hP⟩ : ∃ P, P = Own (lows v ((n + 7) / 8)) w := ⟨_, rfl⟩
  rw [← hP]
  have HP : Hid (P = Own (lows v ((n + 7) / 8)) w) := hP
  clear hP
  obtain ⟨a, c, rfl, hi⟩ := hb.in' (by rw [bl_length]; omega)
  have HI : Hid (In a c (bl v n) w) := hi
  have k1 := hi.1
  have k2 := hi.2.1
  clear hb hi
  rw [bl_length] at k1 ⊢
  have HI0 : Hid (Gr w (lows v 0) w.heap.size 0 0 (w.alloc (.cells #[] 5))) := Gr.start w w (Fr.refl _ _)
  have HV : Hid (v < 2 ^ n) := hv
  clear hv
  go_enter Try.func30, Try.ntmps30
  go_wp2
  go_loopg [3, 4] n (fun kx l i wr => ∃ (I J g c ln : Nat), I = 8 * J ∧ I < n + 8 ∧ n - I ≤ kx ∧ l = .slice (some ⟨g, 0, none⟩) ln c ∧ i = .int .i64 I ∧ Hid (Gr w (lows v J) g ln c wr))
  case atStart => exact ⟨0, 0, w.heap.size, 0, 0, by omega, by omega, by omega, rfl, rfl, HI0⟩
  case round =>
    obtain ⟨I, J, g, c1, ln, hIJ, hI, hkx, rfl, rfl, HG⟩ := hrel
    clear HI0
    by_cases hlt : I < n
    · have hz1 : (I : Int) < (n : Int) := by omega
      have hIJ' : Hid (I = 8 * J) := hIJ
      clear HP hIJ
      go_wp2
      go_loopg [5, 6, 7] 8 (fun kx xx ww k wr => ∃ (x y k' K : Nat), K ≤ 8 ∧ 8 - K ≤ kx ∧ k' = I + K ∧ xx = .int .u8 x ∧ ww = .int .u8 y ∧ k = .int .i64 k' ∧ x ≤ 255 ∧ y ≤ 255 ∧ Hid (x = v / 256 ^ J % 2 ^ K ∧ (K < 8 → y = 2 ^ K) ∧ Gr w (lows v J) g ln c1 wr))
      case atStart => exact ⟨0, 1, I, 0, by omega, by omega, by omega, rfl, rfl, rfl, by omega, by omega, by simp [Nat.mod_one], fun _ => rfl, HG.out⟩
      case round =>
        obtain ⟨x, y, k', K, hK, hkx4, hk', rfl, rfl, rfl, hx255, hy255, HK⟩ := hrel
        clear HG
        by_cases hlt8 : K < 8
        · obtain ⟨hx1, hy0, hG⟩ := HK.out
          have hy1 := hy0 hlt8
          clear hy0
          have hk2 : Hid (k' = I + K) := hk'
          have hbn := byte_next v J K hlt8
          rw [← hIJ'.out, ← hk', ← hx1, ← hy1] at hbn
          have hyy : y * 2 = 2 ^ (K + 1) := by rw [hy1, Nat.pow_succ]
          have hlim : 2 ^ (K + 1) ≤ 256 := by
            have : 2 ^ (K + 1) ≤ 2 ^ 8 := Nat.pow_le_pow_right (by decide) (by omega)
            exact this
          have hxlt : v / 256 ^ J % 2 ^ (K + 1) < 2 ^ (K + 1) := Nat.mod_lt _ (Nat.pow_pos (by decide))
          obtain ⟨y', hy'⟩ : ∃ y', y' = y * 2 % 256 := ⟨_, rfl⟩
          have hyw : IntKind.u8.wrap ((y : Int) * 2) = (y' : Int) := by rw [IntKind.wrap_u8]; omega
          have HY : Hid (K + 1 < 8 → y' = 2 ^ (K + 1)) := fun h => by
            have : 2 ^ (K + 1) ≤ 2 ^ 7 := Nat.pow_le_pow_right (by decide) (by omega)
            rw [hy', hyy]; omega
          have hy'255 : y' ≤ 255 := by omega
          have hz2 : (k' : Int) < (I : Int) + 8 := by omega
          have hk'b : k' ≤ 35184372088840 := by omega
          clear hk'
          by_cases hkn : k' < n
          · have hcell := (HI.out.nw hG.2.2.2.2.2).at k' (by rw [bl_length]; exact hkn)
            obtain ⟨g2, o2, rfl, hcell⟩ := hcell
            have hbit : (bl v n)[k']'(by rw [bl_length]; exact hkn) = BitVec.ofNat 8 (v / 2 ^ k' % 2) := by
              have := bl_at v n k' hkn
              rw [List.getElem?_eq_getElem (by rw [bl_length]; exact hkn)] at this
              injection this
            have hz3 : (k' : Int) < (n : Int) := by omega
            rw [hbit, BitVec.toNat_ofNat] at hcell
            have hm2 : v / 2 ^ k' % 2 < 2 := Nat.mod_lt _ (by decide)
            generalize v / 2 ^ k' % 2 = t at *
            have : t = 0 ∨ t = 1 := by omega
            rcases this with rfl | rfl
            · have HN : ∀ V, Nw wr V → Hid (x = v / 256 ^ J % 2 ^ (K + 1) ∧ (K + 1 < 8 → y' = 2 ^ (K + 1)) ∧ Gr w (lows v J) g ln c1 V) := fun V hV => ⟨by rw [hbn]; omega, HY.out, hG.nw hV⟩
              have HN' : Hid (∀ V, Nw wr V → Hid (x = v / 256 ^ J % 2 ^ (K + 1) ∧ (K + 1 < 8 → y' = 2 ^ (K + 1)) ∧ Gr w (lows v J) g ln c1 V)) := HN
              replace hcell : wr.cell? ⟨g2, o2 + k', none⟩ = some (.int .u8 0) := hcell
              clear HN HK HY hG hx1 hy1 hbn hyy hlim hxlt hy' HI HV hm2 hbit
              go_wp2
              go_roundg (8 - (K + 1))
              case measure => omega
              case rel => exact ⟨x, y', k' + 1, K + 1, by omega, by omega, by have := hk2.out; omega, rfl, rfl, by first | rfl | (congr 1), hx255, hy'255, HN'.out _ (by first | exact Fr.refl _ _ | exact (Fr.refl _ _).drewN _)⟩
            · obtain ⟨x', hx'⟩ : ∃ x', x' = x + y := ⟨_, rfl⟩
              have hx'w : (x : Int) + (y : Int) = (x' : Int) := by omega
              have hx'255 : x' ≤ 255 := by omega
              have HN' : Hid (∀ V, Nw wr V → Hid (x' = v / 256 ^ J % 2 ^ (K + 1) ∧ (K + 1 < 8 → y' = 2 ^ (K + 1)) ∧ Gr w (lows v J) g ln c1 V)) := fun V hV => ⟨by rw [hbn]; omega, HY.out, hG.nw hV⟩
              replace hcell : wr.cell? ⟨g2, o2 + k', none⟩ = some (.int .u8 1) := hcell
              clear HK HY hG hx1 hy1 hbn hyy hlim hxlt hy' HI HV hm2 hbit hx'
              go_wp2
              go_roundg (8 - (K + 1))
              case measure => omega
              case rel => exact ⟨x', y', k' + 1, K + 1, by omega, by omega, by have := hk2.out; omega, rfl, rfl, by first | rfl | (congr 1), hx'255, hy'255, HN'.out _ (by first | exact Fr.refl _ _ | exact (Fr.refl _ _).drewN _)⟩
          · have hz3 : ¬ (k' : Int) < (n : Int) := by omega
            have hzero : v / 2 ^ k' % 2 = 0 := by
              rw [Nat.div_eq_of_lt (Nat.lt_of_lt_of_le HV.out (Nat.pow_le_pow_right (by decide) (by omega)))]
            have HN' : Hid (∀ V, Nw wr V → Hid (x = v / 256 ^ J % 2 ^ (K + 1) ∧ (K + 1 < 8 → y' = 2 ^ (K + 1)) ∧ Gr w (lows v J) g ln c1 V)) := fun V hV => ⟨by rw [hbn, hzero]; omega, HY.out, hG.nw hV⟩
            clear HK HY hG hx1 hy1 hbn hyy hlim hxlt hy' HI HV hzero
            go_wp2
            go_roundg (8 - (K + 1))
            case measure => omega
            case rel => exact ⟨x, y', k' + 1, K + 1, by omega, by omega, by have := hk2.out; omega, rfl, rfl, by first | rfl | (congr 1), hx255, hy'255, HN'.out _ (by first | exact Fr.refl _ _ | exact (Fr.refl _ _).drewN _)⟩
        · obtain rfl : K = 8 := by omega
          obtain ⟨hx1, _, hG⟩ := HK.out
          have hs : ln ≤ 150000000000000 := by have := hG.1; rw [lows_length] at this; have := hIJ'.out; omega
          obtain ⟨g5, c5, W, HAP, HG5⟩ := hG.step hs (BitVec.ofNat 8 x) (x : Int) (by rw [BitVec.toNat_ofNat]; omega)
          have HN : Hid (Gr w (lows v (J + 1)) g5 (ln + 1) c5 W) := by
            have h5 := HG5.out
            have e : BitVec.ofNat 8 x = BitVec.ofNat 8 (v / 256 ^ J) := by
              apply BitVec.eq_of_toNat_eq
              rw [BitVec.toNat_ofNat, BitVec.toNat_ofNat, hx1]
              omega
            rw [e, ← lows_succ] at h5
            exact h5
          have hz2 : ¬ (k' : Int) < (I : Int) + 8 := by omega
          clear hk'
          have hIb : I + 8 ≤ 35184372088840 := by omega
          clear HK HG5 hG hx1 HI HV
          go_wp2_with (first
            | (at_builtin; refine Lib.wpList_append_run _ rfl _ _ 22 22 rfl (.slice (some ⟨g, 0, none⟩) ln c1) (.slice (some ⟨_, 0, none⟩) 1 1) (by simp [Act.eval]) (by simp [Act.eval]) _ _ (HAP.out _) ?_))
          go_roundg (n - (I + 8))
          case measure => omega
          case rel => exact ⟨I + 8, J + 1, g5, c5, ln + 1, by have := hIJ'.out; omega, by omega, by omega, rfl, by first | rfl | (congr 1), HN⟩
    · have HF : Hid (P (.returned (.slice (some ⟨g, 0, none⟩) ln c1)) wr) := by
        show P _ _
        rw [HP.out, show (n + 7) / 8 = J by omega]
        exact HG.out.own
      have hz1 : ¬ (I : Int) < (n : Int) := by omega
      clear HP HG HI HV
      go_wp2_with fail
      exact HF.out
end Go.Proofs.Ytkpkiajehclbhaa

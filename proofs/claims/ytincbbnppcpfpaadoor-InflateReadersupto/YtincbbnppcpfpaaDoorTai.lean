import Derived.Test.YtincbbnppcpfpaaDoorTaf
namespace Go.Proofs.YtincbbnppcpfpaaDoor
open Go.RowKit
set_option linter.unusedVariables false
/-- A list of the call's own, and nothing else turned. -/
def Own (l : List By) (w : World) (e : Ending) (w' : World) : Prop :=
  ∃ g c, e = .returned (.slice (some ⟨g, 0, none⟩) l.length c) ∧ w.heap.size ≤ g ∧ Ow g (.slice (some ⟨g, 0, none⟩) l.length c) l w' ∧ Nw w w'
/-- How a list of one's own stands that grows byte by byte. -/
def Gr (w : World) (l : List By) (g ln c : Nat) (wr : World) : Prop := ln = l.length ∧ ln ≤ c ∧ c < 9223372036854775808 ∧ Ow g (.slice (some ⟨g, 0, none⟩) ln c) l wr ∧ w.heap.size ≤ g ∧ Nw w wr
theorem Gr.start (w V : World) (hV : Nw w V) : Gr w [] V.heap.size 0 0 (V.alloc (.cells #[] 5)) :=
  ⟨rfl, Nat.le_refl _, by decide, Ow.empty V, hV.size, hV.trans ((Fr.refl _ _).alloc _)⟩
theorem Gr.step {w wr : World} {l : List By} {g ln c : Nat} (h : Gr w l g ln c wr) (hs : ln ≤ 150000000000000) (x : By) (z : Int) (hz : z = x.toNat) :
    ∃ g' c' W, Hid (∀ ty, (Builtin.append_ #[22, 22] ty #[.slice (some ⟨g, 0, none⟩) ln c, .slice (some ⟨wr.heap.size, 0, none⟩) 1 1]).run Tryd.prog (wr.alloc (.cells #[.int .u8 z] 5)) = .ok (.slice (some ⟨g', 0, none⟩) (ln + 1) c') W) ∧ Hid (Gr w (l ++ [x]) g' (ln + 1) c' W) := by
  obtain ⟨rfl, h1, h2, h3, h4, h5⟩ := h
  obtain ⟨g', c', W, HAP, HN⟩ := own_step g l wr c h3 hs x z hz
  refine ⟨g', c', W, HAP, ?_⟩
  obtain ⟨k1, k2, k3⟩ := HN.out
  have k1' := k1
  obtain ⟨xs, e1, _, x3, x4, _⟩ := k1'
  injection e1 with _ _ e3
  have hg : w.heap.size ≤ g' := by have := h5.size; rcases k3 with h | h <;> omega
  exact ⟨by simp, by simp at x3; omega, by omega, k1, hg, Fr.then h5 k2 (fun i hi => .inr (by omega))⟩
theorem Gr.nw {w wr W : World} {l : List By} {g ln c : Nat} (h : Gr w l g ln c wr) (hN : Nw wr W) : Gr w l g ln c W := by
  obtain ⟨h0, h1, h2, h3, h4, h5⟩ := h
  exact ⟨h0, h1, h2, h3.nw hN, h4, h5.trans hN⟩
theorem Gr.own {w wr : World} {l : List By} {g ln c : Nat} (h : Gr w l g ln c wr) : Own l w (.returned (.slice (some ⟨g, 0, none⟩) ln c)) wr := by
  obtain ⟨rfl, h1, h2, h3, h4, h5⟩ := h
  exact ⟨g, c, rfl, h4, h3, h5⟩
theorem bits_next (b : List By) (I K : Nat) (hI : I < b.length) (hK : K < 8) : b[I].toNat / 2 ^ K % 2 = le b / 2 ^ (8 * I + K) % 2 := by
  rw [le_at b I hI, Nat.pow_add, ← Nat.div_div_eq_div_mul, pow256]
  have e : 256 = 2 ^ K * (2 * 2 ^ (7 - K)) := by
    rw [← Nat.pow_succ', ← Nat.pow_add]; rw [show K + (7 - K).succ = 8 by omega]
  rw [e, Nat.mod_mul_right_div_self, Nat.mod_mul_right_mod]
set_option maxHeartbeats 8000000 in
set_option maxRecDepth 100000 in
theorem sBits_any (w : World) (vb : Value) (b : List By) (hb : Sl (fun _ => False) vb b w) (hbl : b.length ≤ 1099511627776) : Calls Tryd.prog 35 #[vb] w (Own (bl (le b) (8 * b.length)) w) := by
  obtain ⟨P, hP⟩ : ∃ P, P = Own (bl (le b) (8 * b.length)) w := ⟨_, rfl⟩
  rw [← hP]
  have HP : Hid (P = Own (bl (le b) (8 * b.length)) w) := hP
  clear hP
  obtain ⟨a, c, rfl, hi⟩ := hb.in' (by omega)
  have HI : Hid (In a c b w) := hi
  have k1 := hi.1
  have k2 := hi.2.1
  clear hb hi
  have HI0 : Hid (Gr w (bl (le b) 0) w.heap.size 0 0 (w.alloc (.cells #[] 5))) := Gr.start w w (Fr.refl _ _)
  generalize hL : b.length = L at *
  have hL' : Hid (b.length = L) := hL
  clear hL
  go_enter Tryd.func35, Tryd.ntmps35
  go_wp2
  go_loopg [3, 4] L (fun kx l i wr => ∃ (I g c ln : Nat), I ≤ L ∧ L - I ≤ kx ∧ l = .slice (some ⟨g, 0, none⟩) ln c ∧ i = .int .i64 I ∧ Hid (Gr w (bl (le b) (8 * I)) g ln c wr))
  case atStart => exact ⟨0, w.heap.size, 0, 0, by omega, by omega, rfl, rfl, HI0⟩
  case round =>
    obtain ⟨I, g, c1, ln, hI, hkx, rfl, rfl, HG⟩ := hrel
    clear HI0
    by_cases hlt : I < L
    · obtain ⟨g2, o2, rfl, hcell⟩ := (HI.out.nw HG.out.2.2.2.2.2).at I (by rw [hL'.out]; exact hlt)
      have hz1 : (I : Int) < (L : Int) := by omega
      have hx := (b[I]'(by rw [hL'.out]; exact hlt)).isLt
      have HX : Hid (∀ K, K < 8 → (b[I]'(by rw [hL'.out]; exact hlt)).toNat / 2 ^ K % 2 = le b / 2 ^ (8 * I + K) % 2) := fun K hK => bits_next b I K _ hK
      have HG0 : Hid (Gr w (bl (le b) (8 * I + 0)) g ln c1 wr) := HG.out
      have hb1 : 8 * I ≤ 8796093022208 := by omega
      clear HP HG HI
      generalize (b[I]'(by rw [hL'.out]; exact hlt)).toNat = x0 at *
      go_wp2
      go_loopg [3, 5, 6] 8 (fun kx l xx k wr => ∃ (K g c ln x : Nat), K ≤ 8 ∧ 8 - K ≤ kx ∧ l = .slice (some ⟨g, 0, none⟩) ln c ∧ xx = .int .u8 x ∧ k = .int .i64 K ∧ x ≤ 255 ∧ Hid (x = x0 / 2 ^ K ∧ Gr w (bl (le b) (8 * I + K)) g ln c wr))
      case atStart => exact ⟨0, g, c1, ln, x0, by omega, by omega, rfl, rfl, rfl, by omega, by simp, HG0⟩
      case round =>
        obtain ⟨K, g4, c4, ln4, x, hK, hkx4, rfl, rfl, rfl, hx255, HK⟩ := hrel
        clear HG0
        by_cases hlt8 : K < 8
        · obtain ⟨hx1, hG⟩ := HK.out
          have hs : ln4 ≤ 150000000000000 := by have := hG.1; rw [bl_length] at this; omega
          obtain ⟨z, hz⟩ : ∃ z, z = x % 2 := ⟨_, rfl⟩
          obtain ⟨y, hy⟩ : ∃ y, y = x / 2 := ⟨_, rfl⟩
          obtain ⟨g5, c5, W, HAP, HG5⟩ := hG.step hs (BitVec.ofNat 8 z) (z : Int) (by rw [BitVec.toNat_ofNat]; omega)
          have HN : Hid (y = x0 / 2 ^ (K + 1) ∧ Gr w (bl (le b) (8 * I + (K + 1))) g5 (ln4 + 1) c5 W) := by
            refine ⟨by rw [hy, hx1, Nat.div_div_eq_div_mul, Nat.pow_succ], ?_⟩
            have h5 := HG5.out
            rw [hz, hx1, HX.out K hlt8, ← bl_succ] at h5
            exact h5
          have hzm : (x : Int) % 2 = (z : Int) := by omega
          have hzd : (x : Int) / 2 = (y : Int) := by omega
          have hy255 : y ≤ 255 := by omega
          clear HK HX HG5 hG hx1 hz hy
          go_wp2_with (first
            | (at_builtin; refine Lib.wpList_append_run _ rfl _ _ 22 22 rfl (.slice (some ⟨g4, 0, none⟩) ln4 c4) (.slice (some ⟨_, 0, none⟩) 1 1) (by simp [Act.eval]) (by simp [Act.eval]) _ _ (HAP.out _) ?_))
          go_roundg (8 - (K + 1))
          case measure => omega
          case rel => exact ⟨K + 1, g5, c5, ln4 + 1, y, by omega, by omega, rfl, rfl, by first | rfl | (congr 1), hy255, HN⟩
        · obtain rfl : K = 8 := by omega
          have HG6 : Hid (Gr w (bl (le b) (8 * (I + 1))) g4 ln4 c4 wr) := HK.out.2
          clear HK HX
          go_wp2_with fail
          go_roundg (L - (I + 1))
          case measure => omega
          case rel => exact ⟨I + 1, g4, c4, ln4, by omega, by omega, rfl, by first | rfl | (congr 1), HG6⟩
    · obtain rfl : I = L := by omega
      have HF : Hid (P (.returned (.slice (some ⟨g, 0, none⟩) ln c1)) wr) := by
        show P _ _
        rw [HP.out]
        exact HG.out.own
      clear HP HG HI
      go_wp2_with fail
      exact HF.out
end Go.Proofs.YtincbbnppcpfpaaDoor

namespace Go.Proofs.YtincbbnppcpfpaaDoor
open Go.RowKit
set_option linter.unusedVariables false
/-- Bits as a byte's. -/
theorem byte_next (v J K : Nat) (hK : K < 8) : v / 256 ^ J % 2 ^ (K + 1) = v / 256 ^ J % 2 ^ K + 2 ^ K * (v / 2 ^ (8 * J + K) % 2) := by
  rw [Nat.pow_add 2 (8 * J), ← Nat.div_div_eq_div_mul, ← pow256, Nat.pow_succ, Nat.mod_mul]
end Go.Proofs.YtincbbnppcpfpaaDoor

import Derived.Test.YtkpkiajehclbhabBiA
namespace Go.Proofs.Ytkpkiajehclbhab
open Go.RowKit
set_option linter.unusedVariables false
/-- A list of the call's own, and nothing else turned. -/
def Own (l : List By) (w : World) (e : Ending) (w' : World) : Prop :=
  ∃ g c, e = .returned (.slice (some ⟨g, 0, none⟩) l.length c) ∧ w.heap.size ≤ g ∧ Ow g (.slice (some ⟨g, 0, none⟩) l.length c) l w' ∧ Nw w w'
/-- How a list of one's own stands that grows byte by byte. -/
def Gr (w : World) (l : List By) (g ln c : Nat) (wr : World) : Prop := ln = l.length ∧ ln ≤ c ∧ c < 9223372036854775808 ∧ Ow g (.slice (some ⟨g, 0, none⟩) ln c) l wr ∧ w.heap.size ≤ g ∧ Nw w wr
theorem Gr.start (w V : World) (hV : Nw w V) : Gr w [] V.heap.size 0 0 (V.alloc (.cells #[] 5)) :=
  ⟨rfl, Nat.le_refl _, by decide, Ow.empty V, hV.size, hV.trans ((Fr.refl _ _).alloc _)⟩
theorem Gr.step {w wr : World} {l : List By} {g ln c : Nat} (h : Gr w l g ln c wr) (hs : ln ≤ 150000000000000) (x : By) (z : Int) (hz : z = x.toNat) :
    ∃ g' c' W, Hid (∀ ty, (Builtin.append_ #[31, 31] ty #[.slice (some ⟨g, 0, none⟩) ln c, .slice (some ⟨wr.heap.size, 0, none⟩) 1 1]).run Try.prog (wr.alloc (.cells #[.int .u8 z] 5)) = .ok (.slice (some ⟨g', 0, none⟩) (ln + 1) c') W) ∧ Hid (Gr w (l ++ [x]) g' (ln + 1) c' W) := by
  obtain ⟨rfl, h1, h2, h3, h4, h5⟩ := h
  obtain ⟨g', c', W, HAP, HN⟩ := own_step g l wr c h3 hs x z hz
  refine ⟨g', c', W, HAP, ?_⟩
  obtain ⟨k1, k2, k3⟩ := HN.out
  have k1' := k1
  obtain ⟨xs, e1, _, x3, x4, _⟩ := k1'
  injection e1 with _ _ e3
  have hg : w.heap.size ≤ g' := by have := h5.size; rcases k3 with h | h <;> omega
  exact ⟨by simp, by simp at x3; omega, by omega, k1, hg, Fr.then h5 k2 (fun i hi => .inr (by omega))⟩
theorem Gr.nw {w wr W : World} {l : List By} {g ln c : Nat} (h : Gr w l g ln c wr) (hN : Nw wr W) : Gr w l g ln c W := by
  obtain ⟨h0, h1, h2, h3, h4, h5⟩ := h
  exact ⟨h0, h1, h2, h3.nw hN, h4, h5.trans hN⟩
theorem Gr.own {w wr : World} {l : List By} {g ln c : Nat} (h : Gr w l g ln c wr) : Own l w (.returned (.slice (some ⟨g, 0, none⟩) ln c)) wr := by
  obtain ⟨rfl, h1, h2, h3, h4, h5⟩ := h
  exact ⟨g, c, rfl, h4, h3, h5⟩
theorem bits_next (b : List By) (I K : Nat) (hI : I < b.length) (hK : K < 8) : b[I].toNat / 2 ^ K % 2 = le b / 2 ^ (8 * I + K) % 2 := by
  rw [le_at b I hI, Nat.pow_add, ← Nat.div_div_eq_div_mul, pow256]
  have e : 256 = 2 ^ K * (2 * 2 ^ (7 - K)) := by
    rw [← Nat.pow_succ', ← Nat.pow_add]; rw [show K + (7 - K).succ = 8 by omega]
  rw [e, Nat.mod_mul_right_div_self, Nat.mod_mul_right_mod]
end Go.Proofs.Ytkpkiajehclbhab

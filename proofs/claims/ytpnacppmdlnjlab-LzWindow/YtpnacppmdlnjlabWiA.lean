import Derived.Test.YtpnacppmdlnjlabEnJ
import Derived.Test.YtpnacppmdlnjlabLzX
import Derived.Test.YtpnacppmdlnjlabLzQ
import Derived.Deep.RegionHeld3
namespace Go.Proofs.Ytpnacppmdlnjlab
open Go.RowKit
set_option linter.unusedVariables false
theorem win_of (ahead : List By) (h : ahead.length ≤ 65535) : win ahead = ahead := by
  unfold win
  rw [show ahead.length - 65535 = 0 by omega]; rfl
theorem win_app (far D : List By) (h : D.length = 65535) : win (far ++ D) = D := by
  unfold win
  rw [List.length_append, h, show far.length + 65535 - 65535 = far.length by omega, List.drop_left]
theorem EncOf.win {p ahead ahead' b : List By} (h : EncOf p ahead b) (hw : win ahead = win ahead') : EncOf p ahead' b := by
  unfold EncOf at h ⊢
  rw [hw] at h
  exact h
theorem madeW (w : World) (n : Nat) (hn : n ≤ 100000000) : ∃ W, (Instr.makeSlice 22 (.int .i64 n) (.int .i64 n)).run Try.prog w = .ok (.slice (some ⟨w.heap.size, 0, none⟩) n n) W ∧ Ow w.heap.size (.slice (some ⟨w.heap.size, 0, none⟩) n n) (List.replicate n 0#8) W ∧ Nw w W := by
  obtain ⟨i, hi, hz, hs, hby⟩ := infoB
  have h := run_make (P := Try.prog) w 22 5 i _ Try.underlying22 hi hz .i64 .i64 n n (by omega) (by omega) (by rw [hby]; omega) (by omega)
  simp only [Int.toNat_natCast, hs, Nat.mul_one, madeB] at h
  refine ⟨_, h, ⟨List.replicate n 0#8, by simp, by simp, by simp, by simp; omega, ?_⟩, (Fr.refl _ _).alloc _⟩
  exact new_heap _ _
/-- A copy of bytes in new memory. -/
theorem copyW (w : World) (x : Value) (p : List By) (hx : Sl (fun k => w.heap.size ≤ k) x p w) (hl : p.length ≤ 200000000000000) :
    ∃ a c W, Hid (∀ ty, (Builtin.append_ #[22, 22] ty #[.slice (some ⟨w.heap.size, 0, none⟩) 0 0, x]).run Try.prog (w.alloc (.cells #[] 5)) = .ok (.slice a p.length c) W) ∧ Mine (fun k => k < w.heap.size) (.slice a p.length c) p W ∧ Nw w W := by
  have hA : Nw w (w.alloc (.cells #[] 5)) := (Fr.refl _ _).alloc _
  obtain ⟨v', g', W, k1, k2, k3, k4⟩ := app_any (w.alloc (.cells #[] 5)) w.heap.size _ [] (Ow.empty w) x p ((hx.nw hA).mono (fun _ h => h.elim)) (by simp; omega)
  rw [List.nil_append] at k2
  have k2' := k2
  obtain ⟨xs, rfl, _⟩ := k2'
  refine ⟨_, _, W, k1, .inr ⟨g', ?_, k2⟩, Fr.then hA k3 (fun i hi => .inr (by omega))⟩
  rcases k4 with h | h
  · omega
  · simp at h; omega
end Go.Proofs.Ytpnacppmdlnjlab

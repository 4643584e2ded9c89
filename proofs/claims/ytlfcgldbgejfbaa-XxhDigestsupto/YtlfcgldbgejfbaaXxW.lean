import Derived.Test.YtlfcgldbgejfbaaXxN
import Derived.Test.YtlfcgldbgejfbaaXxU
import Derived.Test.YtlfcgldbgejfbaaXxS
import Derived.Lib.SlBytesConst
namespace Go.Proofs.Ytlfcgldbgejfbaa
open Go.RowKit
set_option linter.unusedVariables false
theorem Sl.later {w V : World} {v : Value} {b : List By} (h : Old w v b) (hV : Nw w V) : Old V v b := by
  have h1 := h.nw hV
  exact h1.mono (fun g hg => Nat.le_trans hV.size hg)
theorem sumf32_at (w : World) (v : Value) (b : List By) (hv : Old w v b) (s : BitVec 32) (z : Int) (hz : z = s.toNat) (V : World) (hV : Nw w V) : Calls Try.prog 9 #[.int .u32 z, v] V fun e w' => e = .returned (.int .u32 (s32 s b).toNat) ∧ Nw w w' := by
  subst hz; exact cbase hV (sumf32_any s v b V (Sl.later hv hV))
theorem sumf64_at (w : World) (v : Value) (b : List By) (hv : Old w v b) (s : BitVec 64) (z : Int) (hz : z = s.toNat) (V : World) (hV : Nw w V) : Calls Try.prog 10 #[.int .u64 z, v] V fun e w' => e = .returned (.int .u64 (s64 s b).toNat) ∧ Nw w w' := by
  subst hz; exact cbase hV (sumf64_any s v b V (Sl.later hv hV))
theorem known1 : s32 0#32 [] = 46947589#32 := by decide +kernel
theorem known2 : s32 0#32 [97#8, 98#8, 99#8] = 852579327#32 := by decide +kernel
theorem known3 : s64 0#64 [] = 17241709254077376921#64 := by decide +kernel
theorem known4 : s64 0#64 [97#8, 98#8, 99#8] = 4952883123889572249#64 := by decide +kernel
theorem abc_old (w : World) : Old (w.alloc (.cells #[.int .u8 97, .int .u8 98, .int .u8 99] 5 (3, 4))) (.slice (some ⟨w.heap.size, 0, none⟩) 3 3) [97#8, 98#8, 99#8] := by
  have e : (w.alloc (.cells #[.int .u8 97, .int .u8 98, .int .u8 99] 5 (3, 4))).heap[w.heap.size]? = some (.cells #[.int .u8 97, .int .u8 98, .int .u8 99] 5 (3, 4)) := by
    show (w.heap.push _)[w.heap.size]? = _
    simp
  have hs : w.heap.size < (w.alloc (.cells #[.int .u8 97, .int .u8 98, .int .u8 99] 5 (3, 4))).heap.size := (Array.getElem?_eq_some_iff.1 e).1
  generalize (w.alloc (.cells #[.int .u8 97, .int .u8 98, .int .u8 99] 5 (3, 4))) = W at *
  refine .inr ⟨w.heap.size, by omega, 0, 3, rfl, by decide, by decide, ?_⟩
  intro k hk
  have hk' : k < 3 := hk
  obtain rfl | rfl | rfl : k = 0 ∨ k = 1 ∨ k = 2 := by omega
  all_goals simp [World.cell?, e]
set_option maxHeartbeats 4000000 in
theorem lives_any (w : World) : Calls Try.prog 19 #[] w fun e w' => e = .returned (.bool true) ∧ Nw w w' := by
  have n1 : Hid (∀ V, Nw w V → Calls Try.prog 9 #[.int .u32 0, .slice none 0 0] V fun e w' => e = .returned (.int .u32 46947589) ∧ Nw w w') := by
    intro V hV
    have := sumf32_at V (.slice none 0 0) [] (.inl ⟨none, rfl, rfl⟩) 0#32 0 rfl V (Fr.refl _ _)
    rw [known1] at this
    exact cbase hV this
  have n3 : Hid (∀ V, Nw w V → Calls Try.prog 10 #[.int .u64 0, .slice none 0 0] V fun e w' => e = .returned (.int .u64 17241709254077376921) ∧ Nw w w') := by
    intro V hV
    have := sumf64_at V (.slice none 0 0) [] (.inl ⟨none, rfl, rfl⟩) 0#64 0 rfl V (Fr.refl _ _)
    rw [known3] at this
    exact cbase hV this
  have n2 : Hid (∀ V, Nw w V → Calls Try.prog 9 #[.int .u32 0, .slice (some ⟨V.heap.size, 0, none⟩) 3 3] (V.alloc (.cells #[.int .u8 97, .int .u8 98, .int .u8 99] 5 (3, 4))) fun e w' => e = .returned (.int .u32 852579327) ∧ Nw w w') := by
    intro V hV
    have := sumf32_at _ _ _ (abc_old V) 0#32 0 rfl _ (Fr.refl _ _)
    rw [known2] at this
    exact cbase (hV.alloc _) this
  have n4 : Hid (∀ V, Nw w V → Calls Try.prog 10 #[.int .u64 0, .slice (some ⟨V.heap.size, 0, none⟩) 3 3] (V.alloc (.cells #[.int .u8 97, .int .u8 98, .int .u8 99] 5 (3, 4))) fun e w' => e = .returned (.int .u64 4952883123889572249) ∧ Nw w w') := by
    intro V hV
    have := sumf64_at _ _ _ (abc_old V) 0#64 0 rfl _ (Fr.refl _ _)
    rw [known4] at this
    exact cbase (hV.alloc _) this
  have hcv : ∀ (w : World), (convert 24 24 (.slice (some ⟨w.heap.size, 0, none⟩) 3 3)).run Try.prog (w.alloc (.cells #[.int .u8 97, .int .u8 98, .int .u8 99] 5)) = .ok (.slice (some ⟨w.heap.size, 0, none⟩) 3 3) (w.alloc (.cells #[.int .u8 97, .int .u8 98, .int .u8 99] 5 (3, 4))) := fun w => Lib.run_convert_bytes_const w 24 5 _ 3 3 Try.underlying24 Try.underlying5
  go_enter Try.func19, Try.ntmps19
  go_wp2_with (first
    | (go_at_call 9; with_reducible refine (n1.out _ ?_).mono ?_; (first | assumption | exact Fr.refl _ _); rintro e w1 ⟨rfl, hN1⟩)
    | (go_at_call 9; with_reducible refine (n2.out _ ?_).mono ?_; (first | assumption | exact Fr.refl _ _); rintro e w2 ⟨rfl, hN2⟩)
    | (go_at_call 10; with_reducible refine (n3.out _ ?_).mono ?_; (first | assumption | exact Fr.refl _ _); rintro e w3 ⟨rfl, hN3⟩)
    | (go_at_call 10; with_reducible refine (n4.out _ ?_).mono ?_; (first | assumption | exact Fr.refl _ _); rintro e w4 ⟨rfl, hN4⟩))
  go_ret
  exact ⟨rfl, by assumption⟩
end Go.Proofs.Ytlfcgldbgejfbaa

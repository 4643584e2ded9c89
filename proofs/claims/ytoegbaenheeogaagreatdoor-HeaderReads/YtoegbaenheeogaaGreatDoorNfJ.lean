import Derived.Test.YtoegbaenheeogaaGreatDoorNfI
import Derived.BigRegion
import Derived.OwnWalk
import Derived.Lib.SlBytesConst
namespace Go.Proofs.YtoegbaenheeogaaGreatDoor
open Go.RowKit
set_option linter.unusedVariables false
set_option maxHeartbeats 4000000 in
set_option maxRecDepth 100000 in
theorem bcut_any {X : Nat → Prop} (w : World) (a : Option Addr) (n c : Nat) (l : List By) (hl : Sl X (.slice a n c) l w) (sg sc : Nat) (hs : w.cell? ⟨sg, 0, none⟩ = some (.int .u8 0)) :
    Calls Tryz.prog 37 #[.slice a n c, .slice (some ⟨sg, 0, none⟩) 1 sc] w fun e w' => ∃ a' n' c' v2 v3, e = .returned (.tuple #[.slice a' n' c', v2, v3]) ∧ Hid (Sl X (.slice a' n' c') (txt l) w' ∧ Nw w w') := by
  obtain ⟨P, hP⟩ : ∃ P : Ending → World → Prop, P = fun e w' => ∃ a' n' c' v2 v3, e = .returned (.tuple #[.slice a' n' c', v2, v3]) ∧ Hid (Sl X (.slice a' n' c') (txt l) w' ∧ Nw w w') := ⟨_, rfl⟩
  rw [← hP]
  have HF : Hid (∀ a' n' c' v2 v3 W, Sl X (.slice a' n' c') (txt l) w → Nw w W → P (.returned (.tuple #[.slice a' n' c', v2, v3])) W) := fun a' n' c' v2 v3 W h1 h2 => by rw [hP]; exact ⟨a', n', c', v2, v3, rfl, h1.nw h2, h2⟩
  have HI := tHid (bindex_any w a n c l hl sg sc hs)
  clear hP
  obtain ⟨hn, k1, k2⟩ := sl_len hl
  rcases ixz_txt l with ⟨e1, e2⟩ | ⟨k, e1, e2, e3⟩
  · rw [e1] at HI
    rw [e2] at HF
    have HF2 := tHid (HF.out a n c (.slice none 0 0) (.bool false) w hl (Fr.refl _ _))
    clear hl HF e1 e2
    go_enter Tryz.func37, Tryz.ntmps37
    go_wp2_with (first | (go_at_call 60; with_reducible refine HI.out.mono ?_; rintro e w1 ⟨rfl, rfl⟩))
    go_ret3
    exact HF2.out
  · rw [e1] at HI
    have hS := sl_take hl k (by omega)
    rw [← e3] at hS
    have HF2 := tHid (fun v2 v3 W => HF.out a k c v2 v3 W hS)
    have z1 : (k : Int) ≤ (n : Int) := by omega
    have z2 : (k : Int) ≤ (c : Int) := by omega
    have z3 : (k : Int) + 1 ≤ (n : Int) := by omega
    have z4 : (n : Int) ≤ (c : Int) := by omega
    have z5 : (0 : Int) ≤ (k : Int) := by omega
    obtain ⟨A, hA⟩ : ∃ A, a = some A := by
      cases a with
      | none =>
        rcases hl with ⟨_, e, rfl⟩ | ⟨g, _, o, c', e, _⟩
        · simp at e2
        · cases e
      | some A => exact ⟨A, rfl⟩
    have hkn : k + 1 ≤ n := by omega
    clear hl HF e1 e2 e3 hS hn
    subst hA
    by_cases hc : c ≤ k + 1
    · obtain rfl : c = k + 1 := by omega
      go_enter Tryz.func37, Tryz.ntmps37
      go_upto_region 3 with (first | (go_at_call 60; with_reducible refine HI.out.mono ?_; rintro e w1 ⟨rfl, rfl⟩))
      go_region
      go_wp2_with fail
      go_ret3
      exact HF2.out _ _ _ ((Fr.refl _ _).drew)
    · have hc2 : k + 1 < c := by omega
      have hc3 : ¬ c = k + 1 := by omega
      go_enter Tryz.func37, Tryz.ntmps37
      go_upto_region 3 with (first | (go_at_call 60; with_reducible refine HI.out.mono ?_; rintro e w1 ⟨rfl, rfl⟩))
      go_region
      go_wp2_with fail
      go_ret3
      exact HF2.out _ _ _ ((Fr.refl _ _).drew)
theorem lit0 (w : World) : (w.alloc (.cells #[.int .u8 0] 5 (1, 2))).cell? ⟨w.heap.size, 0, none⟩ = some (.int .u8 0) := by
  have : (w.alloc (.cells #[.int .u8 0] 5 (1, 2))).heap[w.heap.size]? = some (.cells #[.int .u8 0] 5 (1, 2)) := newHeap _ _
  unfold World.cell?
  rw [this]
  rfl
set_option maxHeartbeats 4000000 in
set_option maxRecDepth 100000 in
theorem text_any {X : Nat → Prop} (w : World) (a : Option Addr) (n c : Nat) (l : List By) (hl : Sl X (.slice a n c) l w) :
    Calls Tryz.prog 15 #[.slice a n c] w fun e w' => e = .returned (.string (str (txt l))) ∧ Nw w w' := by
  obtain ⟨P, hP⟩ : ∃ P : Ending → World → Prop, P = fun e w' => e = .returned (.string (str (txt l))) ∧ Nw w w' := ⟨_, rfl⟩
  rw [← hP]
  have HF : Hid (∀ W, Nw w W → P (.returned (.string (str (txt l)))) W) := fun W hW => by rw [hP]; exact ⟨rfl, hW⟩
  clear hP
  obtain ⟨hn, k1, k2⟩ := sl_len hl
  have hN1 : Nw w (w.alloc (.cells #[.int .u8 0] 5 (1, 2))) := (Fr.refl _ _).alloc _
  have hcv0 : (convert 22 22 (.slice (some ⟨w.heap.size, 0, none⟩) 1 1)).run Tryz.prog (w.alloc (.cells #[.int .u8 0] 5)) = .ok (.slice (some ⟨w.heap.size, 0, none⟩) 1 1) (w.alloc (.cells #[.int .u8 0] 5 (1, 2))) := Lib.run_convert_bytes_const w 22 5 _ 1 1 Tryz.underlying22 Tryz.underlying5
  have HC : Hid (Calls Tryz.prog 37 #[.slice a n c, .slice (some ⟨w.heap.size, 0, none⟩) 1 1] (w.alloc (.cells #[.int .u8 0] 5 (1, 2))) fun e w' => ∃ a' n' c' v2 v3, e = .returned (.tuple #[.slice a' n' c', v2, v3]) ∧ (convert 22 9 (.slice a' n' c')).run Tryz.prog w' = .ok (.string (str (txt l))) w' ∧ Hid (Nw w w')) := by
    refine (bcut_any _ a n c l (hl.nw hN1) w.heap.size 1 (lit0 w)).mono ?_
    rintro e w' ⟨a', n', c', v2, v3, rfl, H⟩
    exact ⟨a', n', c', v2, v3, rfl, conv_any H.out.1, hN1.trans H.out.2⟩
  clear hl hN1
  generalize str (txt l) = T at *
  go_enter Tryz.func15, Tryz.ntmps15
  go_wp2_with (first | (go_at_call 37; with_reducible refine HC.out.mono ?_; rintro e w1 ⟨a', n', c', v2, v3, rfl, hcv, H1⟩))
  first | exact HF.out _ H1.out | (go_ret; exact HF.out _ H1.out)
end Go.Proofs.YtoegbaenheeogaaGreatDoor

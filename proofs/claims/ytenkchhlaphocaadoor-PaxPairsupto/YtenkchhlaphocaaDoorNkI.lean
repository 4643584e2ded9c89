import Derived.Test.YtenkchhlaphocaaDoorNjX
import Derived.Test.YtenkchhlaphocaaDoorNjM
namespace Go.Proofs.YtenkchhlaphocaaDoor
open Go.RowKit
set_option linter.unusedVariables false
/-! ### The document's Decimal, Number, PutNumber -/
theorem lit1 (w : World) (n : Nat) (h : n < 10) : Sl (fun _ => False) (.slice (some ⟨w.heap.size, 0, none⟩) 1 1) (dec n) (w.alloc (.cells #[.int .u8 (48 + (n : Int))] 5)) := by
  rw [dec_small h]
  refine .inr ⟨w.heap.size, fun h => h, 0, 1, rfl, by simp, by decide, fun j hj => ?_⟩
  have hh := newHeap w (.cells #[.int .u8 (48 + (n : Int))] 5)
  have hj5 : j < 1 := hj
  obtain rfl : j = 0 := by omega
  unfold World.cell?
  rw [hh]
  have e : (Value.int .u8 (48 + (n : Int))) = bv (BitVec.ofNat 8 (48 + n)) := by
    unfold bv
    rw [(isD_of n h).2]
    congr 1
  show some (Value.int .u8 (48 + (n : Int))) = some (bv (BitVec.ofNat 8 (48 + n)))
  rw [e]
theorem dec_cut (n : Nat) (h : ¬ n < 10) : dec n = dec (n / 10) ++ dec (n % 10) := by
  rw [dec_big h, dec_small (show n % 10 < 10 by omega)]
set_option maxHeartbeats 4000000 in
set_option maxRecDepth 100000 in
theorem rdec_any (n : Nat) (h : n < 9223372036854775808) (w : World) : Calls Tryd.prog 32 #[.int .i64 n] w fun e w' => e = .returned (.string (str (dec n))) ∧ Nw w w' := by
  induction n using Nat.strongRecOn generalizing w with
  | _ n ih =>
    obtain ⟨P, hP⟩ : ∃ P : Ending → World → Prop, P = fun e w' => e = .returned (.string (str (dec n))) ∧ Nw w w' := ⟨_, rfl⟩
    rw [← hP]
    have HF : Hid (∀ s V, str (dec n) = s → Nw w V → P (.returned (.string s)) V) := fun s V hs hV => by rw [hP, hs]; exact ⟨rfl, hV⟩
    clear hP
    by_cases hn : n < 10
    · have cv := conv_any (lit1 w n hn)
      have HF2 := tHid (HF.out _ (w.alloc (.cells #[.int .u8 (48 + (n : Int))] 5)) rfl ((Fr.refl _ _).alloc _))
      have hni : (n : Int) < 10 := by omega
      clear HF ih
      generalize str (dec n) = s at *
      go_enter Tryd.func32, Tryd.ntmps32
      go_wp2_with fail
      first | exact HF2.out | (go_ret; exact HF2.out)
    · have H1 := tHid (fun V => ih (n / 10) (by omega) (by omega) V)
      have H2 := tHid (fun V => ih (n % 10) (by omega) (by omega) V)
      have hc := str_app (dec (n / 10)) (dec (n % 10))
      rw [← dec_cut n hn] at hc
      have hni : decide ((n : Int) < 10) = false := decide_eq_false (by omega)
      have z1 : (str (dec (n / 10))).size ≤ 22 := by rw [str_size]; exact dec_short _ (by omega)
      have z2 : (str (dec (n % 10))).size ≤ 22 := by rw [str_size]; exact dec_short _ (by omega)
      have HF2 := tHid (fun V hV => HF.out (str (dec n)) V rfl hV)
      have hq : Int.tdiv (n : Int) 10 = ((n / 10 : Nat) : Int) := by rw [Int.tdiv_eq_ediv_of_nonneg (by omega)]; omega
      have hqb : n / 10 ≤ 922337203685477580 := by omega
      have hr : Int.tmod (n : Int) 10 = ((n % 10 : Nat) : Int) := by rw [Int.tmod_eq_emod_of_nonneg (by omega)]; omega
      have hrb : n % 10 ≤ 9 := by omega
      clear HF ih
      generalize str (dec n) = s at *
      generalize str (dec (n / 10)) = s1 at *
      generalize str (dec (n % 10)) = s2 at *
      generalize n / 10 = q at *
      generalize n % 10 = r at *
      go_enter Tryd.func32, Tryd.ntmps32
      go_wp2_with (first
        | (go_at_call 32; first
            | (with_reducible refine (H1.out _).mono ?_; rintro e w1 ⟨rfl, K1⟩; have K1 := tHid K1)
            | (with_reducible refine (H2.out _).mono ?_; rintro e w2 ⟨rfl, K2⟩; have K2 := tHid K2)))
      first | exact HF2.out _ (K1.out.trans K2.out) | (go_ret; exact HF2.out _ (K1.out.trans K2.out))
end Go.Proofs.YtenkchhlaphocaaDoor

import Derived.Test.YtenkchhlaphocaaGreatDoorNjC
import Derived.Test.YtenkchhlaphocaaGreatDoorGnA
import Derived.BigRegion
import Derived.OwnWalk
import Derived.Lib.SlBytesConst
import Derived.Handy
import Derived.Test.YtenkchhlaphocaaGreatDoorThA
namespace Go.Proofs.YtenkchhlaphocaaGreatDoor
open Go.RowKit
set_option linter.unusedVariables false
theorem sl_len {X : Nat → Prop} {a : Option Addr} {n c : Nat} {l : List By} {w : World} (h : Sl X (.slice a n c) l w) : l.length = n ∧ n ≤ c ∧ c < 9223372036854775808 := by
  obtain ⟨a', c', e, q1, q2⟩ := h.form
  generalize hq : l.length = q at e q1
  cases e
  exact ⟨rfl, q1, q2⟩
theorem sl_cell {X : Nat → Prop} {a : Option Addr} {n c : Nat} {l : List By} {w : World} (h : Sl X (.slice a n c) l w) (I : Nat) (hI : I < l.length) : ∃ g o, a = some ⟨g, o, none⟩ ∧ w.cell? ⟨g, o + I, none⟩ = some (.int .u8 (l[I]'hI).toNat) := by
  rcases h with ⟨_, e, e2⟩ | ⟨g, _, o, _, e, e1, e2, hr⟩
  · rw [e2] at hI; simp at hI
  · injection e with e _ ec
    exact ⟨g, o, e, hr I hI⟩
/-- What lengthAhead answers. -/
def laV (b : Bs) : Value := .tuple #[.int .i64 ((la 0 0 b).1 : Nat), .int .i64 ((la 0 0 b).2.1 : Nat), .int .i64 ((la 0 0 b).2.2 : Nat)]
theorem laV_of (b : Bs) (x : Nat × Nat × Nat) (h : la 0 0 b = x) : laV b = .tuple #[.int .i64 (x.1 : Nat), .int .i64 (x.2.1 : Nat), .int .i64 (x.2.2 : Nat)] := by unfold laV; rw [h]
set_option maxHeartbeats 8000000 in
set_option maxRecDepth 100000 in
theorem ahead_any {X : Nat → Prop} (w : World) (a : Option Addr) (n c : Nat) (b : List By) (hb : Sl X (.slice a n c) b w) :
    Calls Tryz.prog 36 #[.slice a n c] w fun e w' => e = .returned (laV b) ∧ w = w' := by
  obtain ⟨P, hP⟩ : ∃ P : Ending → World → Prop, P = fun e w' => e = .returned (laV b) ∧ w = w' := ⟨_, rfl⟩
  rw [← hP]
  have HF : Hid (∀ x, la 0 0 b = x → P (.returned (.tuple #[.int .i64 (x.1 : Nat), .int .i64 (x.2.1 : Nat), .int .i64 (x.2.2 : Nat)])) w) := fun x hx => by rw [hP]; exact ⟨by rw [laV_of b x hx], rfl⟩
  clear hP
  obtain ⟨hbn, k1, k2⟩ := sl_len hb
  have HB := tHid (And.intro hbn hb)
  clear hb hbn
  go_enter Tryz.func36, Tryz.ntmps36
  go_wp2_with fail
  go_loopg [5, 10] n (fun kx v i wr => ∃ (I N : Nat), I ≤ n ∧ n - I ≤ kx ∧ I ≤ 7 ∧ i = .int .i64 I ∧ v = .int .i64 N ∧ N ≤ 10000000 ∧ wr = w ∧ Hid (la 0 0 b = la I N (b.drop I) ∧ N < 10 ^ I))
  case atStart => exact ⟨0, 0, by omega, by omega, by omega, rfl, rfl, by omega, rfl, rfl, by decide⟩
  case round =>
    obtain ⟨I, N, hI, hkx, hI7, rfl, rfl, hN, hw, HV⟩ := hrel
    have hw' := hw.symm
    subst hw'
    clear hw
    obtain ⟨hbn, hS⟩ := HB.out
    obtain ⟨hv, hNI⟩ := HV.out
    by_cases hlt : I < n
    · have hlt' : I < b.length := by omega
      obtain ⟨g, o, rfl, hcell⟩ := sl_cell hS I hlt'
      rw [List.drop_eq_getElem_cons hlt'] at hv
      generalize b[I] = x at *
      rw [la] at hv
      have hx256 := x.isLt
      obtain ⟨y, hy⟩ : ∃ y, x.toNat = y := ⟨_, rfl⟩
      have hx32 : x = 32#8 ↔ y = 32 := ⟨fun h => by rw [← hy, h]; rfl, fun h => BitVec.eq_of_toNat_eq (by rw [hy, h]; rfl)⟩
      have hx48 : x = 48#8 ↔ y = 48 := ⟨fun h => by rw [← hy, h]; rfl, fun h => BitVec.eq_of_toNat_eq (by rw [hy, h]; rfl)⟩
      simp only [hx32, hx48, hy] at hv
      rw [hy] at hcell hx256
      clear hx32 hx48 HB hbn hS HV hy hlt'
      by_cases c1 : y = 32 ∧ 0 < I
      · rw [if_pos c1] at hv
        have HF2 := tHid (HF.out _ hv)
        obtain ⟨rfl, h0⟩ := c1
        have h0' : (0 : Int) < (I : Int) := by omega
        clear HF hv hNI
        go_wp2_with fail
        exact HF2.out
      · rw [if_neg c1] at hv
        by_cases c2 : y < 48 ∨ 57 < y ∨ (I = 0 ∧ y = 48) ∨ I = 7
        · rw [if_pos c2] at hv
          have HF2 := tHid (HF.out _ hv)
          clear HF hv hNI
          by_cases h32 : y = 32
          · obtain rfl : I = 0 := by omega
            subst h32
            rw [Nat.add_zero] at hcell
            clear c1 c2
            go_wp2_with fail
            exact HF2.out
          · have n32 : ¬ ((y : Int) = 32) := by omega
            by_cases d1 : y < 48
            · have d1' : (y : Int) < 48 := by omega
              clear c1 c2
              go_wp2_with fail
              exact HF2.out
            · have d1' : ¬ ((y : Int) < 48) := by omega
              by_cases d2 : 57 < y
              · have d2' : (57 : Int) < (y : Int) := by omega
                clear c1 c2
                go_wp2_with fail
                exact HF2.out
              · have d2' : ¬ ((57 : Int) < (y : Int)) := by omega
                by_cases d3 : I = 0
                · subst d3
                  rw [Nat.add_zero] at hcell
                  obtain rfl : y = 48 := by omega
                  clear c1 c2 n32 d1 d1' d2 d2'
                  go_wp2_with fail
                  exact HF2.out
                · obtain rfl : I = 7 := by omega
                  clear c1 c2
                  go_wp2_with fail
                  exact HF2.out
        · rw [if_neg c2] at hv
          have n32 : ¬ ((y : Int) = 32) := by omega
          have d1' : ¬ ((y : Int) < 48) := by omega
          have d2' : ¬ ((57 : Int) < (y : Int)) := by omega
          have d4 : ¬ ((I : Int) = 7) := by omega
          obtain ⟨z, hz⟩ : ∃ z, y = 48 + z := ⟨y - 48, by omega⟩
          rw [show y - 48 = z by omega] at hv
          have hyz : (y : Int) - 48 = (z : Int) := by omega
          have hz9 : z ≤ 9 := by omega
          have hp : 10 ^ (I + 1) = 10 * 10 ^ I := by rw [Nat.pow_succ, Nat.mul_comm]
          have hp7 : 10 ^ (I + 1) ≤ 10 ^ 7 := Nat.pow_le_pow_right (by decide) (by omega)
          have hp7' : (10 : Nat) ^ 7 = 10000000 := rfl
          obtain ⟨M, hM⟩ : ∃ M, N * 10 + z = M := ⟨_, rfl⟩
          rw [hM] at hv
          have hMi : (N : Int) * 10 + (z : Int) = (M : Int) := by omega
          have hM7 : M ≤ 10000000 := by omega
          have HV2 := tHid (And.intro hv (show M < 10 ^ (I + 1) by omega))
          have hN6 : N ≤ 1000000 := by omega
          have hI6 : I < 7 := by omega
          have hc3 : ¬ (I = 0 ∧ y = 48) := by omega
          have b7 : ((I : Int) == 7) = false := by rw [beq_eq_false_iff_ne]; omega
          have d48 : I = 0 → ¬ ((y : Int) = 48) := by omega
          clear HF hv hNI hp hp7 hp7' hM c1 c2 hN hz
          by_cases d3 : I = 0
          · have d5 := d48 d3
            have b48 : ((y : Int) == 48) = false := by rw [beq_eq_false_iff_ne]; exact d5
            clear d48
            subst d3
            rw [Nat.add_zero] at hcell
            clear hc3
            go_wp2_with fail
            go_roundg (n - (0 + 1))
            case measure => omega
            case rel => exact ⟨0 + 1, M, by omega, by omega, by omega, by first | rfl | (congr 1), by first | rfl | (rw [hyz, hMi]) | (congr 1; omega), hM7, rfl, HV2⟩
          · have d3' : ¬ ((I : Int) = 0) := by omega
            have b0 : ((I : Int) == 0) = false := by rw [beq_eq_false_iff_ne]; exact d3'
            clear d48 hc3
            go_wp2_with fail
            go_roundg (n - (I + 1))
            case measure => omega
            case rel => exact ⟨I + 1, M, by omega, by omega, by omega, by first | rfl | (congr 1), by first | rfl | (rw [hyz, hMi]) | (congr 1; omega), hM7, rfl, HV2⟩
    · obtain rfl : I = n := by omega
      rw [List.drop_eq_nil_of_le (by omega)] at hv
      have HF2 := tHid (HF.out _ hv)
      clear HF hv hNI HV HB hS hbn
      go_wp2_with fail
      exact HF2.out
end Go.Proofs.YtenkchhlaphocaaGreatDoor

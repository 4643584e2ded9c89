import Derived.Test.YtpjnbhflnbhnoaaGreatDoorWba
import Derived.Test.YtpjnbhflnbhnoaaGreatDoorWbi
namespace Go.Proofs.YtpjnbhflnbhnoaaGreatDoor
open Go.RowKit
set_option linter.unusedVariables false
/-- What stands behind a stream of plain bytes. -/
def chkZ (b pl : List By) : Nat := if b.length < 8 then 4 else if le (b.take 4) ≠ sumS pl then 83 else if le ((b.drop 4).take 4) ≠ pl.length then 84 else 0
set_option maxHeartbeats 8000000 in
set_option maxRecDepth 100000 in
theorem zcheck_any {X X2 : Nat → Prop} (w : World) (a : Option Addr) (c : Nat) (b : List By) (hb : Sl X (.slice a b.length c) b w) (pa : Option Addr) (pc : Nat) (pl : List By) (hp : Sl X2 (.slice pa pl.length pc) pl w) (hpl : pl.length ≤ 4194304) (hT : TabT w) :
    Calls Tryz.prog 41 #[.slice a b.length c, .slice pa pl.length pc] w fun e w' => e = .returned (.int .i64 (chkZ b pl : Nat)) ∧ w = w' := by
  obtain ⟨P, hP⟩ : ∃ P : Ending → World → Prop, P = fun e w' => e = .returned (.int .i64 (chkZ b pl : Nat)) ∧ w = w' := ⟨_, rfl⟩
  rw [← hP]
  have HF : Hid (∀ y : Int, y = (chkZ b pl : Nat) → P (.returned (.int .i64 y)) w) := fun y hy => by rw [hP, hy]; exact ⟨rfl, rfl⟩
  clear hP
  by_cases h8 : b.length < 8
  · have HF2 := toHid2 (HF.out 4 (by unfold chkZ; rw [if_pos h8]; rfl))
    have hz : (b.length : Int) < 8 := by omega
    clear HF hb hp hT
    generalize b.length = L at *
    generalize pl.length = N at *
    go_enter Tryz.func41, Tryz.ntmps41
    go_wp2
    exact HF2.out
  · obtain ⟨g, o, rfl, h1, h2, h3⟩ := sl_part hb (by omega)
    have hz : ¬ (b.length : Int) < 8 := by omega
    have s1 := h3 0 4 (by omega)
    have s2 := h3 4 4 (by omega)
    rw [List.drop_zero, Nat.add_zero, Nat.sub_zero] at s1
    have l1 : (b.take 4).length = 4 := by rw [List.length_take]; omega
    have l2 : ((b.drop 4).take 4).length = 4 := by rw [List.length_take, List.length_drop]; omega
    have HN1 : Hid (Calls Tryz.prog 57 #[.slice (some ⟨g, o, none⟩) 4 c] w fun e w' => e = .returned (.int .u64 (le (b.take 4))) ∧ w' = w) := by
      rcases s1 with ⟨_, _, e⟩ | ⟨q, _, e⟩
      · rw [e] at l1; cases l1
      · exact lnumber_any q _ _ w e (by omega)
    have HN2 : Hid (Calls Tryz.prog 57 #[.slice (some ⟨g, o + 4, none⟩) 4 (c - 4)] w fun e w' => e = .returned (.int .u64 (le ((b.drop 4).take 4))) ∧ w' = w) := by
      rcases s2 with ⟨_, _, e⟩ | ⟨q, _, e⟩
      · rw [e] at l2; cases l2
      · exact lnumber_any q _ _ w e (by omega)
    have HS : Hid (Calls Tryz.prog 12 #[.slice pa pl.length pc] w fun e w' => e = .returned (.int .u32 (sumS pl : Nat)) ∧ w' = w) := zsum_any _ w _ pl hp hT (by omega)
    have hsl := sumS_lt pl
    have u1 : IntKind.u64.wrap ((sumS pl : Nat) : Int) = ((sumS pl : Nat) : Int) := by rw [IntKind.wrap_u64]; omega
    have u2 : IntKind.u64.wrap (pl.length : Int) = (pl.length : Int) := by rw [IntKind.wrap_u64]; omega
    have y1 : (8 : Int) ≤ (b.length : Int) := by omega
    have y2 : (4 : Int) ≤ (c : Int) := by omega
    have y3 : (8 : Int) ≤ (c : Int) := by omega
    have y4 : ¬ c ≤ 4 := by omega
    have y5 : ¬ c = 4 := by omega
    by_cases e1 : le (b.take 4) = sumS pl
    · by_cases e2 : le ((b.drop 4).take 4) = pl.length
      · have HF2 := toHid2 (HF.out 0 (by unfold chkZ; rw [if_neg h8, if_neg (by omega), if_neg (by omega)]; rfl))
        rw [e1] at HN1
        rw [e2] at HN2
        clear HF hb hp hT s1 s2 l1 l2 h3 e1 e2
        generalize sumS pl = sm at *
        generalize b.length = L at *
        generalize pl.length = N at *
        go_enter Tryz.func41, Tryz.ntmps41
        go_wp2_with (first
          | (go_at_call 57; with_reducible refine HN1.out.mono ?_; rintro e w1 ⟨rfl, rfl⟩)
          | (go_at_call 57; with_reducible refine HN2.out.mono ?_; rintro e w1 ⟨rfl, rfl⟩)
          | (go_at_call 12; with_reducible refine HS.out.mono ?_; rintro e w1 ⟨rfl, rfl⟩))
        exact HF2.out
      · have HF2 := toHid2 (HF.out 84 (by unfold chkZ; rw [if_neg h8, if_neg (by omega), if_pos e2]; rfl))
        have hne : (((le ((b.drop 4).take 4) : Nat) : Int) != (pl.length : Int)) = true := by simp only [bne_iff_ne, ne_eq]; omega
        rw [e1] at HN1
        clear HF hb hp hT s1 s2 l1 l2 h3 e1 e2
        generalize le ((b.drop 4).take 4) = q at *
        generalize sumS pl = sm at *
        generalize b.length = L at *
        generalize pl.length = N at *
        go_enter Tryz.func41, Tryz.ntmps41
        go_wp2_with (first
          | (go_at_call 57; with_reducible refine HN1.out.mono ?_; rintro e w1 ⟨rfl, rfl⟩)
          | (go_at_call 57; with_reducible refine HN2.out.mono ?_; rintro e w1 ⟨rfl, rfl⟩)
          | (go_at_call 12; with_reducible refine HS.out.mono ?_; rintro e w1 ⟨rfl, rfl⟩))
        exact HF2.out
    · have HF2 := toHid2 (HF.out 83 (by unfold chkZ; rw [if_neg h8, if_pos e1]; rfl))
      have hne : (((le (b.take 4) : Nat) : Int) != ((sumS pl : Nat) : Int)) = true := by simp only [bne_iff_ne, ne_eq]; omega
      clear HF hb hp hT s1 s2 l1 l2 h3 e1 HN2
      generalize le (b.take 4) = q at *
      generalize sumS pl = sm at *
      generalize b.length = L at *
      generalize pl.length = N at *
      go_enter Tryz.func41, Tryz.ntmps41
      go_wp2_with (first
        | (go_at_call 57; with_reducible refine HN1.out.mono ?_; rintro e w1 ⟨rfl, rfl⟩)
        | (go_at_call 12; with_reducible refine HS.out.mono ?_; rintro e w1 ⟨rfl, rfl⟩))
      exact HF2.out
end Go.Proofs.YtpjnbhflnbhnoaaGreatDoor

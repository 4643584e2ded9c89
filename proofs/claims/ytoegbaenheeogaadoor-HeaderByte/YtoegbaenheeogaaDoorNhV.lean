import Derived.Test.YtoegbaenheeogaaDoorNhU
namespace Go.Proofs.YtoegbaenheeogaaDoor
open Go.RowKit
set_option linter.unusedVariables false
/-! ### HeaderByte: signed, said -/
theorem ss_bound (l : List By) : -(128 * (l.length : Int)) ≤ ss l ∧ ss l ≤ 127 * l.length := by
  suffices h : ∀ (l : List By) (n : Int), n - 128 * (l.length : Int) ≤ l.foldl (fun n x => n + sx x) n ∧ l.foldl (fun n x => n + sx x) n ≤ n + 127 * l.length by
    have := h l 0
    unfold ss
    omega
  intro l
  induction l with
  | nil => intro n; simp
  | cons x l ih =>
    intro n
    rw [List.foldl_cons]
    have := ih (n + sx x)
    have hx : -128 ≤ sx x ∧ sx x ≤ 127 := by
      have := x.isLt
      unfold sx
      split <;> omega
    rw [List.length_cons]
    omega
theorem u8_ge (x : By) : ((128 : Int) ≤ (x.toNat : Int)) = (128 ≤ x.toNat) := by apply propext; omega
set_option maxHeartbeats 4000000 in
set_option maxRecDepth 100000 in
theorem signed_any (b : List By) (hb : b.length = 512) (w : World) : Calls Tryd.prog 7 #[.agg (rc b)] w fun e w' => e = .returned (.int .i64 (ss (blk b))) ∧ Nw w w' := by
  obtain ⟨P, hP⟩ : ∃ P : Ending → World → Prop, P = fun e w' => e = .returned (.int .i64 (ss (blk b))) ∧ Nw w w' := ⟨_, rfl⟩
  rw [← hP]
  have HF : Hid (∀ W, Nw w W → P (.returned (.int .i64 (ss (blk b)))) W) := fun W hW => by rw [hP]; exact ⟨rfl, hW⟩
  clear hP
  obtain ⟨W1, hW1⟩ : ∃ W1, w.alloc (.cells (rc b) 24) = W1 := ⟨_, rfl⟩
  have hR : RcH w.heap.size b W1 := by rw [← hW1]; exact newHeap _ _
  have hN : Nw w W1 := by rw [← hW1]; exact (Fr.refl _ _).alloc _
  have hbk := blk_length b hb
  have HR := tHid hR
  have HN := tHid hN
  have HW1 := tHid hW1
  clear hR hN hW1
  generalize hD : rc b = D at *
  clear hD
  go_enter Tryd.func7, Tryd.ntmps7
  go_upto_region 3 with fail
  rw [HW1.out]
  go_loopg [3, 4] 512 (fun kx v3 v4 wr => ∃ I : Nat, I ≤ 512 ∧ 512 ≤ I + kx ∧ v3 = .int .i64 (ss ((blk b).take I)) ∧ v4 = .int .i64 (I : Int) ∧ wr = W1)
  case atStart => exact ⟨0, by omega, by omega, by rw [List.take_zero]; rfl, rfl, rfl⟩
  case round =>
    obtain ⟨I, hI, hkx, rfl, rfl, hw⟩ := hrel
    have hw' := hw.symm
    subst hw'
    clear hw
    by_cases hlt : I < 512
    · have hltI : (I : Int) < 512 := by omega
      have hst := ss_take (blk b) I (by omega)
      have hbd := ss_bound ((blk b).take I)
      have hbd2 := ss_bound ((blk b).take (I + 1))
      have hl1 : ((blk b).take I).length = I := by rw [List.length_take]; omega
      have hl2 : ((blk b).take (I + 1)).length = I + 1 := by rw [List.length_take]; omega
      rw [hl1] at hbd
      rw [hl2] at hbd2
      rw [blk_at b hb I hlt (by omega)] at hst
      have hc := (HR.out.cell I (by omega)).1
      have hx := (b[I]'(by omega)).isLt
      generalize ss ((blk b).take I) = s0 at *
      generalize hs1 : ss ((blk b).take (I + 1)) = s1 at *
      generalize b[I]'(by omega) = x at *
      by_cases hin : 148 ≤ I ∧ I < 156
      · rw [if_pos hin] at hst
        have e32 : sx 32#8 = 32 := by decide
        rw [e32] at hst
        have h1 : (148 : Int) ≤ (I : Int) := by omega
        have h2 : (I : Int) < 156 := by omega
        go_wp2_with fail
        go_roundg (512 - (I + 1))
        case measure => omega
        case rel => exact ⟨I + 1, by omega, by omega, by rw [hs1] <;> (congr 1; omega), by first | rfl | (congr 1), rfl⟩
      · rw [if_neg hin] at hst
        by_cases hx8 : x.toNat < 128
        · have e1 : sx x = (x.toNat : Int) := by unfold sx; rw [if_pos hx8]
          rw [e1] at hst
          have h8 : ¬ (128 : Int) ≤ (x.toNat : Int) := by omega
          by_cases h1 : (148 : Int) ≤ (I : Int)
          · have h2 : ¬ (I : Int) < 156 := by omega
            go_wp2_with fail
            go_roundg (512 - (I + 1))
            case measure => omega
            case rel => exact ⟨I + 1, by omega, by omega, by rw [hs1] <;> (congr 1; omega), by first | rfl | (congr 1), rfl⟩
          · go_wp2_with fail
            go_roundg (512 - (I + 1))
            case measure => omega
            case rel => exact ⟨I + 1, by omega, by omega, by rw [hs1] <;> (congr 1; omega), by first | rfl | (congr 1), rfl⟩
        · have e1 : sx x = (x.toNat : Int) - 256 := by unfold sx; rw [if_neg hx8]
          rw [e1] at hst
          have h8 : (128 : Int) ≤ (x.toNat : Int) := by omega
          by_cases h1 : (148 : Int) ≤ (I : Int)
          · have h2 : ¬ (I : Int) < 156 := by omega
            go_wp2_with fail
            go_roundg (512 - (I + 1))
            case measure => omega
            case rel => exact ⟨I + 1, by omega, by omega, by rw [hs1] <;> (congr 1; omega), by first | rfl | (congr 1), rfl⟩
          · go_wp2_with fail
            go_roundg (512 - (I + 1))
            case measure => omega
            case rel => exact ⟨I + 1, by omega, by omega, by rw [hs1] <;> (congr 1; omega), by first | rfl | (congr 1), rfl⟩
    · have hltI : ¬ (I : Int) < 512 := by omega
      have e : (blk b).take I = blk b := List.take_of_length_le (by omega)
      rw [e]
      have HF2 := tHid (HF.out _ HN.out)
      clear e hbk HF
      generalize ss (blk b) = S at *
      go_wp2_with fail
      exact HF2.out
theorem sd_take (l : List By) (I : Nat) (h : I < l.length) : sd (l.take (I + 1)) = sd (l.take I) * 8 + (l[I].toNat : Int) - 48 := by rw [take_snoc l I h, sd_snoc]
theorem sd_bound (l : List By) (h : l.length ≤ 6) : -100000000 ≤ sd l ∧ sd l ≤ 100000000 := by
  have hx : ∀ x : By, x.toNat < 256 := fun x => x.isLt
  unfold sd
  match l, h with
  | [], _ => simp
  | [a], _ => have := hx a; simp only [List.foldl_cons, List.foldl_nil]; omega
  | [a, b], _ => have := hx a; have := hx b; simp only [List.foldl_cons, List.foldl_nil]; omega
  | [a, b, c], _ => have := hx a; have := hx b; have := hx c; simp only [List.foldl_cons, List.foldl_nil]; omega
  | [a, b, c, d], _ => have := hx a; have := hx b; have := hx c; have := hx d; simp only [List.foldl_cons, List.foldl_nil]; omega
  | [a, b, c, d, e], _ => have := hx a; have := hx b; have := hx c; have := hx d; have := hx e; simp only [List.foldl_cons, List.foldl_nil]; omega
  | [a, b, c, d, e, f], _ => have := hx a; have := hx b; have := hx c; have := hx d; have := hx e; have := hx f; simp only [List.foldl_cons, List.foldl_nil]; omega
set_option maxHeartbeats 4000000 in
set_option maxRecDepth 100000 in
theorem said_any (b : List By) (hb : b.length = 512) (w : World) : Calls Tryd.prog 8 #[.agg (rc b)] w fun e w' => e = .returned (.int .i64 (sd (fd b 148 6))) ∧ Nw w w' := by
  obtain ⟨P, hP⟩ : ∃ P : Ending → World → Prop, P = fun e w' => e = .returned (.int .i64 (sd (fd b 148 6))) ∧ Nw w w' := ⟨_, rfl⟩
  rw [← hP]
  have HF : Hid (∀ W, Nw w W → P (.returned (.int .i64 (sd (fd b 148 6)))) W) := fun W hW => by rw [hP]; exact ⟨rfl, hW⟩
  clear hP
  obtain ⟨W1, hW1⟩ : ∃ W1, w.alloc (.cells (rc b) 24) = W1 := ⟨_, rfl⟩
  have hR : RcH w.heap.size b W1 := by rw [← hW1]; exact newHeap _ _
  have hN : Nw w W1 := by rw [← hW1]; exact (Fr.refl _ _).alloc _
  have hfl : (fd b 148 6).length = 6 := by unfold fd; rw [List.length_take, List.length_drop]; omega
  have HR := tHid hR
  have HN := tHid hN
  have HW1 := tHid hW1
  clear hR hN hW1
  generalize hD : rc b = D at *
  clear hD
  go_enter Tryd.func8, Tryd.ntmps8
  go_upto_region 3 with fail
  rw [HW1.out]
  go_loopg [3, 4] 6 (fun kx v3 v4 wr => ∃ I : Nat, I ≤ 6 ∧ 6 ≤ I + kx ∧ v3 = .int .i64 (sd ((fd b 148 6).take I)) ∧ v4 = .int .i64 ((148 + I : Nat) : Int) ∧ wr = W1)
  case atStart => exact ⟨0, by omega, by omega, by rw [List.take_zero]; rfl, rfl, rfl⟩
  case round =>
    obtain ⟨I, hI, hkx, rfl, rfl, hw⟩ := hrel
    have hw' := hw.symm
    subst hw'
    clear hw
    by_cases hlt : I < 6
    · have hltI : ((148 + I : Nat) : Int) < 154 := by omega
      have hltJ : ((148 + I : Nat) : Int) < 512 := by omega
      have hst := sd_take (fd b 148 6) I (by omega)
      have hbd := sd_bound ((fd b 148 6).take I) (by rw [List.length_take]; omega)
      have hbd2 := sd_bound ((fd b 148 6).take (I + 1)) (by rw [List.length_take]; omega)
      have hat : (fd b 148 6)[I]'(by omega) = b[148 + I]'(by omega) := by
        unfold fd
        rw [List.getElem_take, List.getElem_drop]
      rw [hat] at hst
      have hc := (HR.out.cell (148 + I) (by omega)).1
      have hx := (b[148 + I]'(by omega)).isLt
      generalize sd ((fd b 148 6).take I) = s0 at *
      generalize hs1 : sd ((fd b 148 6).take (I + 1)) = s1 at *
      generalize b[148 + I]'(by omega) = x at *
      have hn : ((148 + I : Nat) : Int) + 1 = ((148 + (I + 1) : Nat) : Int) := by omega
      generalize hJ : 148 + I = J at *
      go_wp2_with fail
      go_roundg (6 - (I + 1))
      case measure => omega
      case rel => exact ⟨I + 1, by omega, by omega, by rw [hs1] <;> (congr 1; omega), by first | rfl | (congr 1; omega), rfl⟩
    · have hltI : ¬ ((148 + I : Nat) : Int) < 154 := by omega
      have e : (fd b 148 6).take I = fd b 148 6 := List.take_of_length_le (by omega)
      rw [e]
      have HF2 := tHid (HF.out _ HN.out)
      clear e HF
      generalize sd (fd b 148 6) = S at *
      generalize hJ : 148 + I = J at *
      go_wp2_with fail
      exact HF2.out
end Go.Proofs.YtoegbaenheeogaaDoor

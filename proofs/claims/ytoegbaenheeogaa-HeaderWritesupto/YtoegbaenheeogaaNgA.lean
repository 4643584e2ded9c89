import Derived.Test.YtoegbaenheeogaaNfZ
import Derived.Test.YtoegbaenheeogaaNfT
namespace Go.Proofs.Ytoegbaenheeogaa
open Go.RowKit
set_option linter.unusedVariables false
/-! ### The document's Sums -/
theorem blk_at (b : List By) (h : b.length = 512) (I : Nat) (hI : I < 512) (hI' : I < (blk b).length) : (blk b)[I] = if 148 ≤ I ∧ I < 156 then 32#8 else b[I]'(by omega) := by
  unfold blk at hI' ⊢
  by_cases h1 : I < 148
  · rw [List.getElem_append_left (by rw [List.length_take]; omega), if_neg (by omega), List.getElem_take]
  · rw [List.getElem_append_right (by rw [List.length_take]; omega)]
    by_cases h2 : I < 156
    · rw [List.getElem_append_left (by rw [List.length_replicate, List.length_take]; omega), if_pos (by omega), List.getElem_replicate]
    · rw [List.getElem_append_right (by rw [List.length_replicate, List.length_take]; omega), if_neg (by omega), List.getElem_drop]
      congr 1
      rw [List.length_replicate, List.length_take]; omega
set_option maxHeartbeats 8000000 in
set_option maxRecDepth 100000 in
theorem rsums_any (b : List By) (hb : b.length = 512) (w : World) :
    Calls Try.prog 45 #[.agg (rc b)] w fun e w' => e = .returned (.tuple #[.int .i64 (su (blk b)), .int .i64 (ss (blk b))]) ∧ Nw w w' := by
  obtain ⟨P, hP⟩ : ∃ P : Ending → World → Prop, P = fun e w' => e = .returned (.tuple #[.int .i64 (su (blk b)), .int .i64 (ss (blk b))]) ∧ Nw w w' := ⟨_, rfl⟩
  rw [← hP]
  have HF : Hid (P (.returned (.tuple #[.int .i64 (su (blk b)), .int .i64 (ss (blk b))])) (w.alloc (.cells (rc b) 24))) := by
    show P _ _
    rw [hP]; exact ⟨rfl, (Fr.refl _ _).alloc _⟩
  clear hP
  obtain ⟨W1, hW1⟩ : ∃ W1, w.alloc (.cells (rc b) 24) = W1 := ⟨_, rfl⟩
  have h1 : W1.heap[w.heap.size]? = some (.cells (rc b) 24) := by rw [← hW1]; exact rec_heap w b
  have HC : Hid (∀ I (h : I < 512), W1.cell? ⟨w.heap.size, I, none⟩ = some (.int .u8 (b[I]'(by omega)).toNat)) := fun I h => by
    have := rc_at b I (by omega)
    simp only [World.cell?, h1]
    simpa using this
  have HA : Hid (∀ I (h : I < 512), ∃ x : By, (blk b)[I]? = some x ∧ (148 ≤ I ∧ I < 156 → x = 32#8) ∧ (¬ (148 ≤ I ∧ I < 156) → x = b[I]'(by omega))) := fun I h => by
    have hl := blk_length b hb
    refine ⟨(blk b)[I]'(by omega), List.getElem?_eq_getElem (by omega), fun hq => ?_, fun hq => ?_⟩
    · rw [blk_at b hb I h, if_pos hq]
    · rw [blk_at b hb I h, if_neg hq]
  have HLN := tHid (blk_length b hb)
  rw [hW1] at HF
  generalize hq : blk b = q at *
  have HQ := tHid hq
  clear h1 hq
  generalize hCC : rc b = C at *
  clear hCC
  go_enter Try.func45, Try.ntmps45
  go_wp2_with fail
  go_loopg [4, 5, 6] 512 (fun kx v4 v5 v6 wr => ∃ (I : Nat) (A B : Int), I ≤ 512 ∧ 512 ≤ I + kx ∧ v6 = .int .i64 I ∧ v4 = .int .i64 A ∧ v5 = .int .i64 B ∧ 0 ≤ A ∧ A ≤ 255 * I ∧ -128 * I ≤ B ∧ B ≤ 127 * I ∧ wr = W1 ∧ Hid (A = su (q.take I) ∧ B = ss (q.take I)))
  case atStart => exact ⟨0, 0, 0, by omega, by omega, rfl, rfl, rfl, by omega, by omega, by omega, by omega, rfl, rfl, rfl⟩
  case round =>
    obtain ⟨I, A, B, hI, hkx, rfl, rfl, rfl, a1, a2, b1, b2, rfl, HS⟩ := hrel
    obtain ⟨eA, eB⟩ := HS.out
    have hq := HLN.out
    by_cases hlt : I < 512
    · have hlt' : I < q.length := by omega
      obtain ⟨x, hx1, hx2, hx3⟩ := HA.out I hlt
      have hxe : q[I] = x := by rw [List.getElem?_eq_getElem hlt'] at hx1; exact Option.some.inj hx1
      have hat := HC.out I hlt
      have s1 := su_take q I hlt'
      have s2 := ss_take q I hlt'
      rw [← eA, hxe] at s1
      rw [← eB, hxe] at s2
      have hx := x.isLt
      have hsx : sx x = if x.toNat < 128 then (x.toNat : Int) else (x.toNat : Int) - 256 := rfl
      obtain ⟨A2, hA2⟩ : ∃ A2, A + (x.toNat : Int) = A2 := ⟨_, rfl⟩
      obtain ⟨B2, hB2⟩ : ∃ B2, B + sx x = B2 := ⟨_, rfl⟩
      rw [hA2] at s1
      rw [hB2] at s2
      have HS2 : Hid (A2 = su (q.take (I + 1)) ∧ B2 = ss (q.take (I + 1))) := ⟨s1.symm, s2.symm⟩
      generalize sx x = y at *
      have hy : -128 ≤ y ∧ y ≤ 127 := by split at hsx <;> omega
      have hltI : (I : Int) < 512 := by omega
      have hz := (b[I]'(by omega)).isLt
      generalize hbz : (b[I]'(by omega)).toNat = z at *
      by_cases hin : 148 ≤ I ∧ I < 156
      · have hx32 : x.toNat = 32 := by rw [hx2 hin]; rfl
        rw [hx32] at hsx hA2
        rw [if_pos (by omega)] at hsx
        have hyy : y = 32 := hsx
        subst hyy
        obtain ⟨i1, i2⟩ := hin
        have j1 : (148 : Int) ≤ (I : Int) := by omega
        have j2 : (I : Int) < 156 := by omega
        have d1 : decide ((148 : Int) ≤ (I : Int)) = true := decide_eq_true j1
        have d2 : decide ((I : Int) < 156) = true := decide_eq_true j2
        have hA3 : A + 32 = A2 := hA2
        have c1 : 0 ≤ A2 := by omega
        have c2 : A2 ≤ 255 * ((I + 1 : Nat) : Int) := by omega
        have c3 : -128 * ((I + 1 : Nat) : Int) ≤ B2 := by omega
        have c4 : B2 ≤ 127 * ((I + 1 : Nat) : Int) := by omega
        clear HF HLN HC HA HQ HS eA eB hq s1 s2 hsx hx1 hx2 hx3 hxe hx32 hA2 hx hbz
        go_wp2_with fail
        go_roundg (512 - (I + 1))
        case measure => omega
        case rel => exact ⟨I + 1, A2, B2, by omega, by omega, by first | rfl | (congr 1), rfl, rfl, c1, c2, c3, c4, rfl, HS2⟩
      · have hxz : x.toNat = z := by rw [hx3 hin]; exact hbz
        rw [hxz] at hsx hA2
        have hw8 : IntKind.i8.wrap (z : Int) = y := by
          rw [hsx]; unfold IntKind.wrap; simp [IntKind.bits, IntKind.signed]; split <;> omega
        have c1 : 0 ≤ A2 := by omega
        have c2 : A2 ≤ 255 * ((I + 1 : Nat) : Int) := by omega
        have c3 : -128 * ((I + 1 : Nat) : Int) ≤ B2 := by omega
        have c4 : B2 ≤ 127 * ((I + 1 : Nat) : Int) := by omega
        obtain ⟨hy1, hy2⟩ := hy
        clear HF HLN HC HA HQ HS eA eB hq s1 s2 hsx hx1 hx2 hx3 hxe hxz hx hbz
        by_cases i1 : (148 : Int) ≤ (I : Int)
        · have i2 : ¬ (I : Int) < 156 := by omega
          have d1 : decide ((148 : Int) ≤ (I : Int)) = true := decide_eq_true i1
          have d2 : decide ((I : Int) < 156) = false := decide_eq_false i2
          clear hin
          go_wp2_with fail
          go_roundg (512 - (I + 1))
          case measure => omega
          case rel => exact ⟨I + 1, A2, B2, by omega, by omega, by first | rfl | (congr 1), rfl, rfl, c1, c2, c3, c4, rfl, HS2⟩
        · have d1 : decide ((148 : Int) ≤ (I : Int)) = false := decide_eq_false i1
          clear hin
          go_wp2_with fail
          go_roundg (512 - (I + 1))
          case measure => omega
          case rel => exact ⟨I + 1, A2, B2, by omega, by omega, by first | rfl | (congr 1), rfl, rfl, c1, c2, c3, c4, rfl, HS2⟩
    · obtain rfl : I = 512 := by omega
      rw [List.take_of_length_le (by omega)] at eA eB
      rw [← eA, ← eB] at HF
      clear HLN HC HA HQ HS eA eB hq
      go_wp2_with fail
      exact HF.out
/-! ### Check -/
/-- The sum's field. -/
def fld (b : List By) : List By := (b.drop 148).take 8
def chk (b : List By) : Bool := decide (octE (fld b) = 0) && (decide ((octN (fld b) : Int) = su (blk b)) || decide ((octN (fld b) : Int) = ss (blk b)))
theorem fld_sl (w : World) (g : Nat) (b : List By) (hb : b.length = 512) (h : w.heap[g]? = some (.cells (rc b) 24)) : Sl (fun _ => False) (.slice (some ⟨g, 148, none⟩) 8 364) (fld b) w := by
  have hl : (fld b).length = 8 := by unfold fld; rw [List.length_take, List.length_drop]; omega
  refine .inr ⟨g, fun h => h, 148, 364, by rw [hl], by rw [hl]; decide, by decide, ?_⟩
  have hr : Rd g 0 b w := fun j hj => by
    rw [Nat.zero_add]
    have := rc_at b j hj
    simp only [World.cell?, h]
    simpa using this
  exact (hr.drop 148).take 8
/-- Both checks: by what Sums and Octal answer. -/
theorem chk_walk (fC fS fO : FuncId) (b : List By) : chk b = chk b := rfl
end Go.Proofs.Ytoegbaenheeogaa

import Derived.Test.YtegabbfdnpjkkaaBudC
import Derived.Deep.RegionHeld3
import Derived.Deep.RegionWith
namespace Go.Proofs.Ytegabbfdnpjkkaa
open Go.RowKit Go.MuLone
set_option linter.unusedVariables false

theorem cell_only {b : Nat} {w w' : World} (h : Only b w w') {a : Addr} (ha : a.block ≠ b) : w'.cell? a = w.cell? a := World.cell?_of_block (w := w) (h.block a.block ha)
theorem Only.below {b B : Nat} {w0 w w' : World} (h : Below B w0 w) (o : Only b w w') (hb : B ≤ b) : Below B w0 w' :=
  h.trans ⟨o.os, o.tape, o.output, by rw [o.size]; exact Nat.le_refl _, fun k hk => o.block k (by omega)⟩

theorem spS_bd {T S n : Int} (h0 : 0 ≤ S) (h1 : S ≤ T) : 0 ≤ spS T S n ∧ spS T S n ≤ T := by
  unfold spS; split
  · omega
  · split <;> omega
theorem wr_ne (a : Int) (h : 0 ≤ a) (h' : a ≤ 9223372036854775807) : (a != IntKind.i64.wrap a) = false := by
  have : IntKind.i64.wrap a = a := by rw [IntKind.wrap_i64]; omega
  rw [this]; simp
theorem bkS_bd {T S n : Int} (h0 : 0 ≤ S) (h1 : S ≤ T) : 0 ≤ bkS S n ∧ bkS S n ≤ T := by
  unfold bkS; split
  · omega
  · split <;> omega
set_option maxRecDepth 100000 in
set_option maxHeartbeats 4000000 in
theorem bud_walk (T : Int) (lb lo len cap : Nat) (Bk : Nat → Bool) (Nn : Nat → Int) (w : World) (hT0 : 0 ≤ T) (hT : T ≤ 9223372036854775807) (hlen : len ≤ maxLen)
    (hc0 : ∀ i, i < len → w.cell? ⟨lb, lo + i * 2, none⟩ = some (.bool (Bk i))) (hc1 : ∀ i, i < len → w.cell? ⟨lb, lo + i * 2 + 1, none⟩ = some (.int .i64 (Nn i))) (hN : ∀ i, i < len → Nn i ≤ 9223372036854775807) (hlb : lb < w.heap.size) :
    Calls Try.prog 4 #[.int .i64 T, .slice (some ⟨lb, lo, none⟩) len cap] w fun e w' => e = .returned (.bool true) ∧ Below w.heap.size w w' := by
  unfold maxLen at hlen
  have hd : decide (T < 0) = false := by simp; omega
  have C0 : Hid _ := hc0
  have C1 : Hid _ := hc1
  have HN : Hid _ := hN
  clear hc0 hc1 hN
  go_enter Try.func4, Try.ntmps4
  go_wp2_with (go_at_call 15; refine (new_yes T _ hT0).mono ?_; rintro e w' ⟨rfl, rfl⟩)
  go_loopw [8] (fun i wr => ∃ (k : Nat) (S : Int), k ≤ len ∧ i = .int .i64 k ∧ 0 ≤ S ∧ S ≤ T ∧ BudB w.heap.size T S wr ∧ RefB (w.heap.size + 1) T S wr ∧ Below w.heap.size w wr) (fun i _ => len - (intOf i).toNat)
  case atStart =>
    refine ⟨0, 0, Nat.zero_le _, rfl, by omega, hT0, ?_, ?_, ?_⟩
    · show ((w.heap.push _).push _)[w.heap.size]? = _
      simp [Array.getElem?_push]
    · show ((w.heap.push _).push _)[w.heap.size + 1]? = _
      rw [Array.getElem?_push, if_pos (by simp)]
    · exact ((Below.refl _ _).alloc (Nat.le_refl _) _).alloc (by simp) _
  case round =>
    obtain ⟨k, S, hk, rfl, hS0, hST, hB, hR, hbel⟩ := hrel
    by_cases hlt : k < len
    · have g0 := (hbel.cell (p := ⟨lb, lo + k * 2, none⟩) hlb).trans (C0.out k hlt)
      have g1 := (hbel.cell (p := ⟨lb, lo + k * 2 + 1, none⟩) hlb).trans (C1.out k hlt)
      have hn := HN.out k hlt
      have KEY : Hid (∀ w', Below w.heap.size w w' → w'.cell? ⟨lb, lo + k * 2 + 1, none⟩ = some (.int .i64 (Nn k)) ∧ Below w.heap.size w w') := fun w' h => ⟨(h.cell (p := ⟨lb, lo + k * 2 + 1, none⟩) hlb).trans (C1.out k hlt), h⟩
      cases hbk : Bk k <;> rw [hbk] at g0
      · go_wp2_with fail
        go_region_held3 (fun w' => w'.cell? ⟨lb, lo + k * 2 + 1, none⟩ = some (.int .i64 (Nn k)) ∧ Below w.heap.size w w')
          (first | exact KEY.out _ hb1 | exact KEY.out _ hb2 | exact KEY.out _ hbel | exact KEY.out _ hbel.drew)
          (first
            | (go_at_call 18; refine (spend_any w.heap.size T S (Nn k) _ ?_ hS0 hST hT hn).mono ?_; (first | exact hB | exact BudB.kept (w := wr.drew) hB hO2 (by omega)); rintro e w1 ⟨rfl, hB1, hO1⟩; (first | have hb1 := Only.below hbel hO1 (Nat.le_refl _) | have hb1 := Only.below hbel.drew hO1 (Nat.le_refl _) | have hb1 := Only.below hb2 hO1 (Nat.le_refl _)))
            | (go_at_call 19; refine (rspend_any (w.heap.size + 1) T S (Nn k) _ ?_ hS0 hST hT hn).mono ?_; (first | exact hR | exact RefB.kept (w := wr.drew) hR hO1 (by omega)); rintro e w2 ⟨rfl, hR1, hO2⟩; (first | have hb2 := Only.below hbel hO2 (Nat.le_succ _) | have hb2 := Only.below hbel.drew hO2 (Nat.le_succ _) | have hb2 := Only.below hb1 hO2 (Nat.le_succ _))))
        go_wp2_with fail
        have hB2 := hB1.kept hO2 (by omega)
        obtain ⟨k0, k1⟩ := spS_bd (n := Nn k) hS0 hST
        generalize spS T S (Nn k) = S' at hB2 hR1 k0 k1 ⊢
        generalize spE T S (Nn k) = E'
        clear hB1 hO1 hb1 hO2 hB hR hbel g0 g1 KEY
        have hwr : (T - S' != IntKind.i64.wrap (T - S')) = false := wr_ne _ (by omega) (by omega)
        have KEY2 : Hid (∀ w', BudB w.heap.size T S' w' → RefB (w.heap.size + 1) T S' w' → Below w.heap.size w w' → w'.cell? ⟨w.heap.size + 1, 1, none⟩ = some (.int .i64 S') ∧ BudB w.heap.size T S' w' ∧ RefB (w.heap.size + 1) T S' w' ∧ Below w.heap.size w w') := fun w' h1 h2 h3 => ⟨h2.cell.2.1, h1, h2, h3⟩
        go_region_held3 (fun w' => w'.cell? ⟨w.heap.size + 1, 1, none⟩ = some (.int .i64 S') ∧ BudB w.heap.size T S' w' ∧ RefB (w.heap.size + 1) T S' w' ∧ Below w.heap.size w w')
          (first | exact KEY2.out _ hB4 hR4 hb4 | exact KEY2.out _ hB3 hR3 hb3 | exact KEY2.out w2.drew hB2 hR1 hb2.drew | exact KEY2.out w2 hB2 hR1 hb2)
          (first
            | (go_at_call 20; refine (spent_any w.heap.size T S' _ ?_).mono ?_; exact hB2; rintro e w3 ⟨rfl, hB3, hO3⟩; have hR3 := RefB.kept (w := w2.drew) hR1 hO3 (by omega); have hb3 := Only.below hb2.drew hO3 (Nat.le_refl _))
            | (go_at_call 21; refine (left_any w.heap.size T S' _ ?_ k0 k1 hT).mono ?_; exact hB3; rintro e w4 ⟨rfl, hB4, hO4⟩; have hR4 := RefB.kept hR3 hO4 (by omega); have hb4 := Only.below hb3 hO4 (Nat.le_refl _)))
        go_wp2
        go_roundw
        case rel => exact ⟨k + 1, S', by omega, by go_num, k0, k1, hB4, hR4, hb4⟩
        case measure => simp [intOf]; omega
      · go_wp2_with fail
        go_region_held3 (fun w' => w'.cell? ⟨lb, lo + k * 2 + 1, none⟩ = some (.int .i64 (Nn k)) ∧ Below w.heap.size w w')
          (first | exact KEY.out _ hb1 | exact KEY.out _ hb2 | exact KEY.out _ hbel | exact KEY.out _ hbel.drew)
          (first
            | (go_at_call 16; refine (back_any w.heap.size T S (Nn k) _ ?_ hS0 hST hT hn).mono ?_; (first | exact hB | exact BudB.kept (w := wr.drew) hB hO2 (by omega)); rintro e w1 ⟨rfl, hB1, hO1⟩; (first | have hb1 := Only.below hbel hO1 (Nat.le_refl _) | have hb1 := Only.below hbel.drew hO1 (Nat.le_refl _) | have hb1 := Only.below hb2 hO1 (Nat.le_refl _)))
            | (go_at_call 17; refine (rback_any (w.heap.size + 1) T S (Nn k) _ ?_ hS0 hST hT hn).mono ?_; (first | exact hR | exact RefB.kept (w := wr.drew) hR hO1 (by omega)); rintro e w2 ⟨rfl, hR1, hO2⟩; (first | have hb2 := Only.below hbel hO2 (Nat.le_succ _) | have hb2 := Only.below hbel.drew hO2 (Nat.le_succ _) | have hb2 := Only.below hb1 hO2 (Nat.le_succ _))))
        go_wp2_with fail
        have hB2 := hB1.kept hO2 (by omega)
        obtain ⟨k0, k1⟩ := bkS_bd (n := Nn k) hS0 hST
        generalize bkS S (Nn k) = S' at hB2 hR1 k0 k1 ⊢
        generalize bkE S (Nn k) = E'
        clear hB1 hO1 hb1 hO2 hB hR hbel g0 g1 KEY
        have hwr : (T - S' != IntKind.i64.wrap (T - S')) = false := wr_ne _ (by omega) (by omega)
        have KEY2 : Hid (∀ w', BudB w.heap.size T S' w' → RefB (w.heap.size + 1) T S' w' → Below w.heap.size w w' → w'.cell? ⟨w.heap.size + 1, 1, none⟩ = some (.int .i64 S') ∧ BudB w.heap.size T S' w' ∧ RefB (w.heap.size + 1) T S' w' ∧ Below w.heap.size w w') := fun w' h1 h2 h3 => ⟨h2.cell.2.1, h1, h2, h3⟩
        go_region_held3 (fun w' => w'.cell? ⟨w.heap.size + 1, 1, none⟩ = some (.int .i64 S') ∧ BudB w.heap.size T S' w' ∧ RefB (w.heap.size + 1) T S' w' ∧ Below w.heap.size w w')
          (first | exact KEY2.out _ hB4 hR4 hb4 | exact KEY2.out _ hB3 hR3 hb3 | exact KEY2.out w2.drew hB2 hR1 hb2.drew | exact KEY2.out w2 hB2 hR1 hb2)
          (first
            | (go_at_call 20; refine (spent_any w.heap.size T S' _ ?_).mono ?_; exact hB2; rintro e w3 ⟨rfl, hB3, hO3⟩; have hR3 := RefB.kept (w := w2.drew) hR1 hO3 (by omega); have hb3 := Only.below hb2.drew hO3 (Nat.le_refl _))
            | (go_at_call 21; refine (left_any w.heap.size T S' _ ?_ k0 k1 hT).mono ?_; exact hB3; rintro e w4 ⟨rfl, hB4, hO4⟩; have hR4 := RefB.kept hR3 hO4 (by omega); have hb4 := Only.below hb3 hO4 (Nat.le_refl _)))
        go_wp2
        go_roundw
        case rel => exact ⟨k + 1, S', by omega, by go_num, k0, k1, hB4, hR4, hb4⟩
        case measure => simp [intOf]; omega
    · go_wp2
      go_ret
      exact ⟨rfl, hbel⟩
end Go.Proofs.Ytegabbfdnpjkkaa

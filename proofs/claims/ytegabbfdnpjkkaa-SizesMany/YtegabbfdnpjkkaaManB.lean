import Derived.Test.YtegabbfdnpjkkaaManA
namespace Go.Proofs.Ytegabbfdnpjkkaa
open Go.RowKit Go.MuLone
set_option linter.unusedVariables false

theorem ManI.spent {T : Int} {w : World} {S L n v : Int} {zs : List Int} {w1 : World} {j : Nat} (h0 : 0 ≤ S) (h1 : S + n ≤ T) (hn : 0 ≤ n) (hB : BudB w.heap.size T (S + n) w1) (hs : SumB (w.heap.size + 1) zs w1) (hnn : ∀ x ∈ zs, 0 ≤ x) (hsum : zs.sum = S)
    (hL : L = -1 ∨ 0 ≤ L ∧ T - S < L) (hLm : L ≤ 9223372036854775807) (hb : Below w.heap.size w w1) (hj : j < 256) (hv : v = zs[j]?.getD 0 + n) : ManI T w (S + n) L (zs.set j v) (w1.setCell ⟨w.heap.size + 1, j, none⟩ (.int .i64 v)).drew := by
  have hB' : BudB w.heap.size T (S + n) (w1.setCell ⟨w.heap.size + 1, j, none⟩ (.int .i64 v)) := hB.kept (Only.setCell (w.heap.size + 1) j (.int .i64 v) w1) (by omega)
  refine ⟨by omega, h1, hB', hs.set j v, set_nonneg zs hnn j v (by have := get_nonneg zs hnn j; omega), ?_, by omega, hLm, (Below.setCell hb (p := ⟨w.heap.size + 1, j, none⟩) (Nat.le_succ _) _).drew⟩
  rw [hv, sum_set zs j n (by rw [hs.1]; exact hj), hsum]

set_option maxRecDepth 100000 in
set_option maxHeartbeats 4000000 in
theorem man_walk (T : Int) (a0 : Option Addr) (lb lo len cap : Nat) (Wh : Nat → Nat) (Nn : Nat → Int) (w : World) (hT0 : 0 ≤ T) (hT : T ≤ 9223372036854775807) (hlen : len ≤ maxLen)
    (hc0 : ∀ i, i < len → w.cell? ⟨lb, lo + i * 2, none⟩ = some (.int .u8 (Wh i))) (hc1 : ∀ i, i < len → w.cell? ⟨lb, lo + i * 2 + 1, none⟩ = some (.int .i64 (Nn i))) (hW : ∀ i, i < len → Wh i < 256) (hN : ∀ i, i < len → Nn i ≤ 9223372036854775807) (hlb : 0 < len → lb < w.heap.size) (ha : 0 < len → a0 = some ⟨lb, lo, none⟩) :
    Calls Try.prog 5 #[.int .i64 T, .slice a0 len cap] w fun e w' => e = .returned (.bool true) ∧ Below w.heap.size w w' := by
  unfold maxLen at hlen
  have hd : decide (T < 0) = false := by simp; omega
  have C0 : Hid _ := hc0
  have C1 : Hid _ := hc1
  have HN : Hid _ := hN
  have HW : Hid _ := hW
  have HA : Hid _ := ha
  have HB : Hid _ := hlb
  clear hc0 hc1 hN hW ha hlb
  have hst := store39 (w.alloc (.cells #[.int .i32 0, .int .u32 0, .int .i64 T, .int .i64 0] 73)) (w.heap.size + 1) (by simp)
  go_enter Try.func5, Try.ntmps5
  go_wp2_with (go_at_call 15; refine (new_yes T _ hT0).mono ?_; rintro e w' ⟨rfl, rfl⟩)
  clear hst
  go_loopw [8, 9] (fun l i wr => ∃ (k : Nat) (S L : Int) (zs : List Int), k ≤ len ∧ i = .int .i64 k ∧ l = .int .i64 L ∧ ManI T w S L zs wr) (fun _ i _ => len - (intOf i).toNat)
  case atStart =>
    refine ⟨0, 0, -1, zeros, Nat.zero_le _, rfl, rfl, by omega, hT0, ?_, ⟨rfl, ?_⟩, ?_, ?_, .inl rfl, by omega, ?_⟩
    · show ((w.heap.push _).push _)[w.heap.size]? = _
      simp [Array.getElem?_push]
    · show ((w.heap.push _).push _)[w.heap.size + 1]? = _
      rw [Array.getElem?_push, if_pos (by simp), zero39]
    · unfold zeros; intro x hx; rw [List.eq_of_mem_replicate hx]; exact Int.le_refl _
    · decide
    · exact ((Below.refl _ _).alloc (Nat.le_refl _) _).alloc (by simp) _
  case round =>
    obtain ⟨k, S, L, zs, hk, rfl, rfl, hI⟩ := hrel
    by_cases hlt : k < len
    · obtain ⟨hS0, hST, hB, hSm, hnn, hsum, hL, hLm, hbel⟩ := hI
      have hlb := HB.out (by omega)
      obtain rfl := HA.out (by omega)
      have g1 := (hbel.cell (p := ⟨lb, lo + k * 2 + 1, none⟩) hlb).trans (C1.out k hlt)
      have hn := HN.out k hlt
      have hw := HW.out k hlt
      have hw1 : (Wh k : Int) < 256 := by omega
      have z1 := get_nonneg zs hnn (Wh k)
      have z2 := get_le_sum zs hnn (Wh k)
      have HS : Hid (zs.sum = S) := hsum
      rw [hsum] at z2
      have NNN : Hid _ := hnn
      have HL : Hid _ := hL
      clear hsum hnn hL
      by_cases hneg : Nn k < 0
      · have hwr : IntKind.i64.wrap (zs[Wh k]?.getD 0) = zs[Wh k]?.getD 0 := by rw [IntKind.wrap_i64]; omega
        have hsp := spend_any w.heap.size T S 0 wr hB hS0 hST hT (by omega)
        rw [(sp_3 (T := T) (S := S) (n := 0) (by omega) (by omega)).1, (sp_3 (T := T) (S := S) (n := 0) (by omega) (by omega)).2] at hsp
        go_wp2_with (go_at_call 18; refine hsp.mono ?_; rintro e w1 ⟨rfl, hB1, hO1⟩; (have hb1 := Only.below hbel hO1 (Nat.le_refl _)); have hs1 := hSm.kept hO1 (by omega); have q0 := (hb1.cell (p := ⟨lb, lo + k * 2, none⟩) hlb).trans (C0.out k hlt); have ⟨q1, q2⟩ := hs1.cell (Wh k) hw)
        go_region
        go_wp2
        go_roundw
        case rel => exact ⟨k + 1, _, L, _, by omega, by go_num, rfl, ManI.spent (n := 0) hS0 (by omega) (by omega) hB1 hs1 NNN.out HS.out HL.out hLm hb1 hw (by simp)⟩
        case measure => simp [intOf]; omega
      · by_cases hfit : T - S < Nn k
        · have hsp := spend_any w.heap.size T S (Nn k) wr hB hS0 hST hT hn
          rw [(sp_2 (T := T) (S := S) (n := Nn k) (by omega) (by omega)).1, (sp_2 (T := T) (S := S) (n := Nn k) (by omega) (by omega)).2] at hsp
          rcases HL.out with rfl | ⟨hL0, hL1⟩
          · go_wp2_with (go_at_call 18; refine hsp.mono ?_; rintro e w1 ⟨rfl, hB1, hO1⟩; (have hb1 := Only.below hbel hO1 (Nat.le_refl _)); have hs1 := hSm.kept hO1 (by omega))
            go_roundw
            case rel => exact ⟨k + 1, S, Nn k, zs, by omega, by go_num, rfl, hS0, hST, hB1, hs1, NNN.out, HS.out, .inr ⟨by omega, by omega⟩, hn, hb1⟩
            case measure => simp [intOf]; omega
          · have hd1 : decide (L < 0) = false := by simp; omega
            by_cases hlow : Nn k < L
            · have hd2 : decide (Nn k < L) = true := by simp; omega
              go_wp2_with (go_at_call 18; refine hsp.mono ?_; rintro e w1 ⟨rfl, hB1, hO1⟩; (have hb1 := Only.below hbel hO1 (Nat.le_refl _)); have hs1 := hSm.kept hO1 (by omega))
              go_roundw
              case rel => exact ⟨k + 1, S, Nn k, zs, by omega, by go_num, rfl, hS0, hST, hB1, hs1, NNN.out, HS.out, .inr ⟨by omega, by omega⟩, hn, hb1⟩
              case measure => simp [intOf]; omega
            · have hd2 : decide (Nn k < L) = false := by simp; omega
              go_wp2_with (go_at_call 18; refine hsp.mono ?_; rintro e w1 ⟨rfl, hB1, hO1⟩; (have hb1 := Only.below hbel hO1 (Nat.le_refl _)); have hs1 := hSm.kept hO1 (by omega))
              go_roundw
              case rel => exact ⟨k + 1, S, L, zs, by omega, by go_num, rfl, hS0, hST, hB1, hs1, NNN.out, HS.out, .inr ⟨by omega, by omega⟩, hLm, hb1⟩
              case measure => simp [intOf]; omega
        · have hwr : IntKind.i64.wrap (zs[Wh k]?.getD 0 + Nn k) = zs[Wh k]?.getD 0 + Nn k := by rw [IntKind.wrap_i64]; omega
          have hsp := spend_any w.heap.size T S (Nn k) wr hB hS0 hST hT hn
          rw [(sp_3 (T := T) (S := S) (n := Nn k) (by omega) (by omega)).1, (sp_3 (T := T) (S := S) (n := Nn k) (by omega) (by omega)).2] at hsp
          go_wp2_with (go_at_call 18; refine hsp.mono ?_; rintro e w1 ⟨rfl, hB1, hO1⟩; (have hb1 := Only.below hbel hO1 (Nat.le_refl _)); have hs1 := hSm.kept hO1 (by omega); have q0 := (hb1.cell (p := ⟨lb, lo + k * 2, none⟩) hlb).trans (C0.out k hlt); have ⟨q1, q2⟩ := hs1.cell (Wh k) hw)
          go_region
          go_wp2
          go_roundw
          case rel => exact ⟨k + 1, _, L, _, by omega, by go_num, rfl, ManI.spent (n := Nn k) hS0 (by omega) (by omega) hB1 hs1 NNN.out HS.out HL.out hLm hb1 hw (by rfl)⟩
          case measure => simp [intOf]; omega

    · obtain ⟨hS0, hST, hB, hSm, hnn, hsum, hL, hLm, hbel⟩ := hI
      have SM : Hid (SumB (w.heap.size + 1) zs wr) := hSm
      have NNN : Hid _ := hnn
      have HS : Hid (zs.sum = S) := hsum
      clear hnn hsum hSm
      go_wp2_with fail
      go_loop [11, 12] (fun x i => ∃ (m : Nat), m ≤ 256 ∧ i = .int .i64 m ∧ x = .int .i64 (zs.take m).sum) (fun _ i => 256 - (intOf i).toNat)
      case atStart => exact ⟨0, by omega, rfl, rfl⟩
      case round =>
        obtain ⟨m, hm, rfl, rfl⟩ := hrel
        by_cases hlm : m < 256
        · obtain ⟨q1, q2⟩ := SM.out.cell m hlm
          obtain ⟨y1, y2, y3⟩ := sum_take zs NNN.out m (by rw [SM.out.1]; exact hlm)
          have y4 := get_nonneg zs NNN.out m
          rw [HS.out] at y2
          have Y1 : Hid _ := y1
          clear y1
          have hlz : (m : Int) < 256 := by omega
          go_wp2
          go_round
          case rel => exact ⟨m + 1, by omega, by go_num, by rw [Y1.out]⟩
          case measure => simp [intOf]; omega
        · obtain rfl : m = 256 := by omega
          have e1 : zs.take 256 = zs := List.take_of_length_le (by rw [SM.out.1]; exact Nat.le_refl _)
          rw [e1, HS.out]
          rcases hL with rfl | ⟨hL0, hL1⟩
          · go_wp2_with (first
              | (go_at_call 20; refine (spent_any w.heap.size T S _ hB).mono ?_; rintro e w3 ⟨rfl, hB3, hO3⟩; have hb3 := Only.below hbel hO3 (Nat.le_refl _))
              | (go_at_call 21; refine (left_any w.heap.size T S _ hB3 hS0 hST hT).mono ?_; rintro e w4 ⟨rfl, hB4, hO4⟩; have hb4 := Only.below hb3 hO4 (Nat.le_refl _)))
            go_ret
            exact ⟨rfl, hb4⟩
          · have hd1 : decide (T - S < L) = true := by simp; omega
            have hd2 : decide (L < 0) = false := by simp; omega
            go_wp2_with (first
              | (go_at_call 20; refine (spent_any w.heap.size T S _ hB).mono ?_; rintro e w3 ⟨rfl, hB3, hO3⟩; have hb3 := Only.below hbel hO3 (Nat.le_refl _))
              | (go_at_call 21; refine (left_any w.heap.size T S _ hB3 hS0 hST hT).mono ?_; rintro e w4 ⟨rfl, hB4, hO4⟩; have hb4 := Only.below hb3 hO4 (Nat.le_refl _)))
            go_ret
            exact ⟨rfl, hb4⟩

set_option maxHeartbeats 1000000 in
theorem man_neg (T : Int) (a0 : Option Addr) (len cap : Nat) (w : World) (hT0 : T < 0) :
    Calls Try.prog 5 #[.int .i64 T, .slice a0 len cap] w fun e w' => e = .returned (.bool true) ∧ Below w.heap.size w w' := by
  go_enter Try.func5, Try.ntmps5
  go_wp2_with (go_at_call 15; refine (new_no T _ hT0).mono ?_; rintro e w' ⟨rfl, rfl⟩)
  go_ret
  exact ⟨rfl, Below.refl _ _⟩

theorem man_all (T : Int) (a0 : Option Addr) (len cap : Nat) (Wh : Nat → Nat) (Nn : Nat → Int) (w : World) (hT : T ≤ 9223372036854775807) (h : IsPairs w a0 len (fun i => .int .u8 (Wh i)) Nn) (hW : ∀ i, i < len → Wh i < 256) :
    Calls Try.prog 5 #[.int .i64 T, .slice a0 len cap] w fun e w' => e = .returned (.bool true) ∧ Below w.heap.size w w' := by
  by_cases hT0 : T < 0
  · exact man_neg T a0 len cap w hT0
  rcases h with rfl | ⟨lb, lo, rfl, hlb, hl, h0, h1, hw⟩
  · exact man_walk T a0 0 0 0 cap Wh Nn w (by omega) hT (Nat.zero_le _) (fun i hi => by omega) (fun i hi => by omega) hW (fun i hi => by omega) (fun h => by omega) (fun h => by omega)
  · exact man_walk T _ lb lo len cap Wh Nn w (by omega) hT hl h0 h1 hW (fun i hi => (by
      have := hw i hi
      simp [Lit.wf, IntKind.min, IntKind.max, IntKind.signed, IntKind.bits] at this
      omega)) (fun _ => hlb) (fun _ => rfl)
end Go.Proofs.Ytegabbfdnpjkkaa

import Derived.Test.YtkpkiajehclbhaaCqA
namespace Go.Proofs.Ytkpkiajehclbhaa
open Go.RowKit
set_option linter.unusedVariables false
/-! ### The document's sum and Code -/
def inR (zs : List Int) : Prop := ∀ (j : Nat) (x : Int), zs[j]? = some x → 0 ≤ x ∧ x ≤ 15
theorem kraft2 (zs : List Int) (h1 : 1 ≤ zs.length) (h2 : zs.length ≤ 320) (h3 : inR zs) : IsCode zs ↔ (0 < partsI zs ∧ partsI zs ≤ 32768) := by
  rw [kraft]
  obtain ⟨ls, rfl, hl1, hl2⟩ := toI_of zs (fun z hz => by
    obtain ⟨j, hj⟩ := List.mem_iff_getElem?.1 hz
    exact h3 j z hj)
  obtain ⟨k1, k2⟩ := partsI_toI ls hl2
  rw [k2, ← k1]
  constructor
  · rintro ⟨_, _, a, b⟩; exact ⟨a, b⟩
  · rintro ⟨a, b⟩; exact ⟨⟨h1, h2⟩, fun j x _ hx => h3 j x hx, a, b⟩
set_option maxHeartbeats 8000000 in
theorem ssum_any (w : World) (v : Value) (zs : List Int) (h : SlR RI (fun _ => False) v zs w) (hl : zs.length ≤ 320) (hr : inR zs) : Calls Try.prog 52 #[v] w fun e w' => e = .returned (.int .i64 (partsI zs)) ∧ w' = w := by
  obtain ⟨P, hP⟩ : ∃ P : Ending → World → Prop, P = fun e w' => e = .returned (.int .i64 (partsI zs)) ∧ w' = w := ⟨_, rfl⟩
  rw [← hP]
  have HS : Hid (SlR RI (fun _ => False) v zs w) := h
  obtain ⟨a, c, rfl, hc, hc2, hca⟩ := h.form
  have HF : Hid (P (.returned (.int .i64 (partsI zs))) w) := by
    show P _ _
    rw [hP]; exact ⟨rfl, rfl⟩
  have HR : Hid (inR zs) := hr
  clear hP h hr
  generalize hL : zs.length = L at *
  have hL' : Hid (zs.length = L) := hL
  clear hL
  go_enter Try.func52, Try.ntmps52
  go_wp2
  go_loopg [3, 4] L (fun kx s i wr => ∃ (I S : Nat), I ≤ L ∧ L - I ≤ kx ∧ s = .int .i64 S ∧ i = .int .i64 I ∧ wr = w ∧ Hid (S = partsI (zs.take I)))
  case atStart => exact ⟨0, 0, by omega, by omega, rfl, rfl, rfl, (by show 0 = partsI (zs.take 0); simp [partsI])⟩
  case round =>
    obtain ⟨I, S, hI, hkx, rfl, rfl, rfl, HI⟩ := hrel
    by_cases hlt : I < L
    · have hlt' : I < zs.length := by rw [hL'.out]; exact hlt
      obtain ⟨g, o, rfl, _, hcell⟩ := ri_at HS.out I zs[I] (List.getElem?_eq_getElem hlt')
      have hz : (I : Int) < (L : Int) := by omega
      have hxx : zs[I]? = some zs[I] := List.getElem?_eq_getElem hlt'
      generalize zs[I] = x at *
      obtain ⟨hx0, hx1⟩ := HR.out I x hxx
      have hst := (partsI_step zs I x hxx).1
      have hS : S ≤ 16384 * 320 := by
        have := (partsI_le (zs.take I)).1
        rw [List.length_take] at this
        have := HI.out
        omega
      rw [← HI.out] at hst
      by_cases hp : 0 < x
      · obtain ⟨n, rfl⟩ : ∃ n : Nat, x = (n : Int) := ⟨x.toNat, by omega⟩
        have hn : n ≤ 15 := by omega
        obtain ⟨k, hk⟩ : ∃ k, k = 15 - n := ⟨_, rfl⟩
        have hki : (15 : Int) - (n : Int) = (k : Int) := by omega
        have hk15 : k ≤ 14 := by omega
        have hpr : prtI (n : Int) = 2 ^ k := by
          unfold prtI
          rw [if_pos ⟨hp, hx1⟩, Int.toNat_natCast, ← hk]
        rw [hpr] at hst
        have hpw : (2 : Nat) ^ k ≤ 2 ^ 14 := Nat.pow_le_pow_right (by decide) hk15
        have HN : Hid (S + 2 ^ k = partsI (zs.take (I + 1))) := hst.symm
        have hT : ((2 : Int) ^ k) = ((2 ^ k : Nat) : Int) := by push_cast; rfl
        clear hst hpr HI HR HS HF hk hxx
        generalize 2 ^ k = T at *
        go_wp2_with fail
        go_roundg (L - (I + 1))
        case measure => omega
        case rel => exact ⟨I + 1, S + T, by omega, by omega, by first | rfl | (congr 1), by first | rfl | (congr 1), rfl, HN⟩
      · have hx : x = 0 := by omega
        subst hx
        have e0 : prtI 0 = 0 := by decide
        rw [e0] at hst
        have HN : Hid (S = partsI (zs.take (I + 1))) := hst.symm
        clear hst HI HR HS HF hxx
        go_wp2_with fail
        go_roundg (L - (I + 1))
        case measure => omega
        case rel => exact ⟨I + 1, S, by omega, by omega, rfl, by first | rfl | (congr 1), rfl, HN⟩
    · obtain rfl : I = L := by omega
      have hz : ¬ (I : Int) < (I : Int) := by omega
      have hS : S = partsI zs := by
        have := HI.out
        rw [List.take_of_length_le (by rw [hL'.out]; exact Nat.le_refl _)] at this
        exact this
      rw [← hS] at HF
      clear HI HS HR hS
      go_wp2_with fail
      exact HF.out
/-- What the document's Code answers. -/
def CodA (zs : List Int) (w : World) (e : Ending) (w' : World) : Prop := (∃ b q, e = .returned (.tuple #[.bool b, .bool q]) ∧ (b = true ↔ IsCode zs) ∧ (IsCode zs → q = decide (partsI zs = 32768))) ∧ w' = w
set_option maxHeartbeats 8000000 in
theorem scode_any (w : World) (v : Value) (zs : List Int) (h : SlR RI (fun _ => False) v zs w) (hl : zs.length ≤ 17592186043904) : Calls Try.prog 33 #[v] w (CodA zs w) := by
  obtain ⟨P, hP⟩ : ∃ P : Ending → World → Prop, P = CodA zs w := ⟨_, rfl⟩
  rw [← hP]
  have HS : Hid (SlR RI (fun _ => False) v zs w) := h
  obtain ⟨a, c, rfl, hc, hc2, hca⟩ := h.form
  have HP : Hid (P = CodA zs w) := hP
  have HNo : Hid (¬ IsCode zs → P (.returned (.tuple #[.bool false, .bool false])) w) := fun hn => by
    rw [hP]
    exact ⟨⟨false, false, rfl, by simp [hn], fun h => absurd h hn⟩, rfl⟩
  have HSum : Hid (zs.length ≤ 320 → inR zs → Calls Try.prog 52 #[.slice a zs.length c] w fun e w' => e = .returned (.int .i64 (partsI zs)) ∧ w' = w) := fun h1 h2 => ssum_any w _ zs h h1 h2
  clear hP h
  generalize hL : zs.length = L at *
  have hL' : Hid (zs.length = L) := hL
  clear hL
  by_cases hb : 1 ≤ L ∧ L ≤ 320
  · obtain ⟨hb1, hb2⟩ := hb
    have g1 : ¬ (L : Int) < 1 := by omega
    have g2 : ¬ (320 : Int) < (L : Int) := by omega
    go_enter Try.func33, Try.ntmps33
    go_wp2
    go_loopg [4] L (fun kx i wr => ∃ (I : Nat), I ≤ L ∧ L - I ≤ kx ∧ i = .int .i64 I ∧ wr = w ∧ Hid (∀ j x, j < I → zs[j]? = some x → 0 ≤ x ∧ x ≤ 15))
    case atStart => exact ⟨0, by omega, by omega, rfl, rfl, fun j x hj => by omega⟩
    case round =>
      obtain ⟨I, hI, hkx, rfl, rfl, HI⟩ := hrel
      by_cases hlt : I < L
      · have hlt' : I < zs.length := by rw [hL'.out]; exact hlt
        obtain ⟨g, o, rfl, _, hcell⟩ := ri_at HS.out I zs[I] (List.getElem?_eq_getElem hlt')
        have hz : (I : Int) < (L : Int) := by omega
        have hxx : zs[I]? = some zs[I] := List.getElem?_eq_getElem hlt'
        generalize zs[I] = x at *
        by_cases hx : 0 ≤ x ∧ x ≤ 15
        · have HN : Hid (∀ j y, j < I + 1 → zs[j]? = some y → 0 ≤ y ∧ y ≤ 15) := fun j y hj hy => by
            by_cases e : j = I
            · rw [e, hxx] at hy; injection hy with hy; subst hy; exact hx
            · exact HI.out j y (by omega) hy
          have h1 : ¬ x < 0 := by omega
          have h2 : ¬ 15 < x := by omega
          clear HI HS HP hxx HNo HSum
          go_wp2_with fail
          go_roundg (L - (I + 1))
          case measure => omega
          case rel => exact ⟨I + 1, by omega, by omega, by first | rfl | (congr 1), rfl, HN⟩
        · have HF : Hid (P (.returned (.tuple #[.bool false, .bool false])) wr) := HNo.out (fun hk => by
            have := ((kraft zs).1 hk).2.1 I x hlt' hxx
            exact hx this)
          clear HI HS HP hxx HNo HSum
          by_cases h1 : x < 0
          · go_wp2_with fail
            exact HF.out
          · have h2 : 15 < x := by omega
            go_wp2_with fail
            exact HF.out
      · obtain rfl : I = L := by omega
        have hin : inR zs := fun j x hx => HI.out j x (by have := (List.getElem?_eq_some_iff.1 hx).1; rw [hL'.out] at this; exact this) hx
        have HC : Hid (Calls Try.prog 52 #[.slice a I c] wr fun e w' => e = .returned (.int .i64 (partsI zs)) ∧ w' = wr) := HSum.out (by omega) hin
        have HF : Hid (∀ b q, (b = true ↔ 0 < partsI zs ∧ partsI zs ≤ 32768) → (q = decide (partsI zs = 32768)) → P (.returned (.tuple #[.bool b, .bool q])) wr) := fun b q h1 h2 => by
          rw [HP.out]
          have hk2 := kraft2 zs (by rw [hL'.out]; exact hb1) (by rw [hL'.out]; exact hb2) hin
          exact ⟨⟨b, q, rfl, by rw [h1, hk2], fun _ => h2⟩, rfl⟩
        have hz : ¬ (I : Int) < (I : Int) := by omega
        have hpl := (partsI_le zs).1
        rw [hL'.out] at hpl
        clear HI HS HP HNo HSum hin hL'
        generalize partsI zs = p at *
        by_cases h0 : 0 < p
        · have h0' : (0 : Int) < (p : Int) := by omega
          go_wp2_with (first | (go_at_call 52; (with_reducible refine HC.out.mono ?_); rintro e w1 ⟨rfl, rfl⟩))
          refine HF.out _ _ ?_ ?_
          · simp [h0]; omega
          · rw [Bool.eq_iff_iff]; simp; omega
        · have h0' : ¬ (0 : Int) < (p : Int) := by omega
          go_wp2_with (first | (go_at_call 52; (with_reducible refine HC.out.mono ?_); rintro e w1 ⟨rfl, rfl⟩))
          refine HF.out _ _ ?_ ?_
          · simp [h0]
          · rw [Bool.eq_iff_iff]; simp; omega
  · have HF : Hid (P (.returned (.tuple #[.bool false, .bool false])) w) := HNo.out (fun hk => hb (by have := ((kraft zs).1 hk).1; rw [hL'.out] at this; exact this))
    clear HS HP HNo HSum hL'
    by_cases h1 : L < 1
    · have g1 : (L : Int) < 1 := by omega
      go_enter Try.func33, Try.ntmps33
      go_wp2
      exact HF.out
    · have g1 : ¬ (L : Int) < 1 := by omega
      have g2 : (320 : Int) < (L : Int) := by omega
      go_enter Try.func33, Try.ntmps33
      go_wp2
      exact HF.out
end Go.Proofs.Ytkpkiajehclbhaa

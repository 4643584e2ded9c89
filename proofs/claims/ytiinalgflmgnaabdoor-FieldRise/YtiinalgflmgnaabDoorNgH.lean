import Derived.Test.YtiinalgflmgnaabDoorNfP
namespace Go.Proofs.YtiinalgflmgnaabDoor
open Go.RowKit
set_option linter.unusedVariables false
theorem str_toList (l : List By) : (str l).toList = l.map u8 := by
  rw [ByteArray.toList_eq]
  rfl
theorem u8_lt (a b : By) : (u8 a < u8 b) ↔ a.toNat < b.toNat := by
  rw [UInt8.lt_iff_toNat_lt, u8_nat, u8_nat]
theorem dg_u8_lt (a b : Nat) : decide (u8 (dg a) < u8 (dg b)) = decide (a % 8 < b % 8) := by
  apply decide_eq_decide.2
  rw [u8_lt, dg_toNat, dg_toNat]; omega
theorem dg_u8_eq (a b : Nat) : (u8 (dg a) == u8 (dg b)) = decide (a % 8 = b % 8) := by
  rw [Bool.eq_iff_iff, beq_iff_eq, decide_eq_true_eq]
  constructor
  · intro h
    have := congrArg UInt8.toNat h
    rw [u8_nat, u8_nat, dg_toNat, dg_toNat] at this; omega
  · intro h
    unfold dg
    rw [h]
theorem less_ol (n m k : Nat) : Op.bytesLess ((ol n k ++ [0#8]).map u8) ((ol m k ++ [0#8]).map u8) = decide (n % 8 ^ k < m % 8 ^ k) := by
  induction k with
  | zero =>
    rw [Nat.pow_zero, Nat.mod_one, Nat.mod_one]
    show Op.bytesLess (([0#8] : List By).map u8) (([0#8] : List By).map u8) = decide (0 < 0)
    decide
  | succ k ih =>
    rw [ol, ol, List.cons_append, List.cons_append, List.map_cons, List.map_cons, Op.bytesLess, ih, dg_u8_eq, dg_u8_lt, Nat.mod_pow_succ, Nat.mod_pow_succ]
    have h0 : 0 < 8 ^ k := Nat.pow_pos (by decide)
    have h1 : n % 8 ^ k < 8 ^ k := Nat.mod_lt _ h0
    have h2 : m % 8 ^ k < 8 ^ k := Nat.mod_lt _ h0
    generalize 8 ^ k = M at *
    generalize n / M % 8 = a
    generalize m / M % 8 = b
    generalize n % M = x at *
    generalize m % M = y at *
    rw [Bool.eq_iff_iff]
    simp only [Bool.or_eq_true, decide_eq_true_eq, Bool.and_eq_true]
    constructor
    · rintro (h | ⟨rfl, h⟩)
      · have : M * (a + 1) ≤ M * b := Nat.mul_le_mul_left _ h
        rw [Nat.mul_add, Nat.mul_one] at this
        omega
      · omega
    · intro h
      rcases Nat.lt_trichotomy a b with hab | hab | hab
      · exact .inl hab
      · subst hab; exact .inr ⟨rfl, by omega⟩
      · have : M * (b + 1) ≤ M * a := Nat.mul_le_mul_left _ hab
        rw [Nat.mul_add, Nat.mul_one] at this
        omega
theorem poL_less (n m d : Int) (h1 : poE n d = 0) (h2 : poE m d = 0) : Op.bytesLess (str (poL n d)).toList (str (poL m d)).toList = decide (n < m) ∧ ((str (poL n d)).toList == (str (poL m d)).toList) = (n == m) := by
  have po : ∀ n, poE n d = 0 → 2 ≤ d ∧ d ≤ 512 ∧ 0 ≤ n ∧ n.toNat / 8 ^ (d.toNat - 1) = 0 := fun n h => by
    unfold poE at h
    split at h
    · split at h
      · cases h
      · split at h
        · exact ⟨by omega, by omega, by omega, by assumption⟩
        · cases h
    · cases h
  obtain ⟨a1, a2, a3, a4⟩ := po n h1
  obtain ⟨b1, b2, b3, b4⟩ := po m h2
  have h0 : 0 < 8 ^ (d.toNat - 1) := Nat.pow_pos (by decide)
  have e1 : n.toNat % 8 ^ (d.toNat - 1) = n.toNat := Nat.mod_eq_of_lt ((Nat.div_eq_zero_iff_lt h0).1 a4)
  have e2 : m.toNat % 8 ^ (d.toNat - 1) = m.toNat := Nat.mod_eq_of_lt ((Nat.div_eq_zero_iff_lt h0).1 b4)
  rw [str_toList, str_toList]
  unfold poL
  constructor
  · rw [less_ol, e1, e2]
    apply decide_eq_decide.2; omega
  · rw [Bool.eq_iff_iff, beq_iff_eq, beq_iff_eq]
    constructor
    · intro h
      have h' := map_inj h
      have h'' := List.append_cancel_right h'
      have := congrArg (v8 0) h''
      rw [v8_ol, v8_ol, e1, e2] at this
      omega
    · rintro rfl; rfl
theorem po_small (n d : Int) (h : poE n d = 0) (hd : d ≤ 21) : ∃ k : Nat, d = (k : Int) + 1 ∧ k ≤ 20 ∧ 0 ≤ n ∧ n < ((8 ^ k : Nat) : Int) ∧ (8 : Nat) ^ k ≤ 1152921504606846976 := by
  unfold poE at h
  split at h
  · split at h
    · cases h
    · split at h
      · rename_i q1 q2 q3
        refine ⟨d.toNat - 1, by omega, by omega, by omega, ?_, ?_⟩
        · have h0 : 0 < 8 ^ (d.toNat - 1) := Nat.pow_pos (by decide)
          have := (Nat.div_eq_zero_iff_lt h0).1 q3
          omega
        · have := Nat.pow_le_pow_right (show 0 < 8 by decide) (show d.toNat - 1 ≤ 20 by omega)
          have e : (8 : Nat) ^ 20 = 1152921504606846976 := by decide
          omega
      · cases h
  · cases h
namespace fieldRise
set_option maxHeartbeats 16000000 in
set_option maxRecDepth 100000 in
theorem walk (n m d : Int) (w : World) (h1 : -9223372036854775808 ≤ n) (h2 : n ≤ 9223372036854775807) (h3 : -9223372036854775808 ≤ m) (h4 : m ≤ 9223372036854775807) :
    Calls Tryd.prog 3 #[.int .i64 n, .int .i64 m, .int .i64 d] w fun e w' => e = .returned (.bool true) ∧ Nw w w' := by
  obtain ⟨P, hP⟩ : ∃ P : Ending → World → Prop, P = fun e w' => e = .returned (.bool true) ∧ Nw w w' := ⟨_, rfl⟩
  rw [← hP]
  have HF : Hid (∀ W, Nw w W → P (.returned (.bool true)) W) := fun W hW => by rw [hP]; exact ⟨rfl, hW⟩
  clear hP
  have HL : Hid (Calls Tryd.prog 4 #[] w fun e w' => e = .returned (.bool true) ∧ Hid (Nw w w')) := lives_any w
  obtain ⟨E, hE⟩ : ∃ E, poE n d = E := ⟨_, rfl⟩
  obtain ⟨F, hF⟩ : ∃ F, poE m d = F := ⟨_, rfl⟩
  have HP1 : Hid (∀ V, Calls Tryd.prog 5 #[.int .i64 n, .int .i64 d] V fun e w' => ∃ a q c, e = .returned (.tuple #[.slice a q c, .int .i64 (E : Nat)]) ∧ (E ≠ 0 → q = 0) ∧ Hid (Nw V w' ∧ (E = 0 → ∀ U, Nw w' U → (convert 23 9 (.slice a q c)).run Tryd.prog U = .ok (.string (str (poL n d))) U))) := fun V => by
    refine (putOctal_any n d V h1 h2).mono ?_
    rintro e w' ⟨a, q, c, rfl, j1, j2⟩
    rw [hE] at j2 ⊢
    refine ⟨a, q, c, rfl, fun h => ?_, j1, fun h U hU => ?_⟩
    · rcases j2 with ⟨_, _, e, _⟩ | ⟨e, _⟩
      · exact e
      · exact absurd e h
    · rcases j2 with ⟨e, _⟩ | ⟨_, g, _, hO⟩
      · exact absurd h e
      · exact conv_any (hO.nw hU).old
  have HP2 : Hid (∀ V, Calls Tryd.prog 5 #[.int .i64 m, .int .i64 d] V fun e w' => ∃ a q c, e = .returned (.tuple #[.slice a q c, .int .i64 (F : Nat)]) ∧ (F ≠ 0 → q = 0) ∧ Hid (Nw V w' ∧ (F = 0 → ∀ U, Nw w' U → (convert 23 9 (.slice a q c)).run Tryd.prog U = .ok (.string (str (poL m d))) U))) := fun V => by
    refine (putOctal_any m d V h3 h4).mono ?_
    rintro e w' ⟨a, q, c, rfl, j1, j2⟩
    rw [hF] at j2 ⊢
    refine ⟨a, q, c, rfl, fun h => ?_, j1, fun h U hU => ?_⟩
    · rcases j2 with ⟨_, _, e, _⟩ | ⟨e, _⟩
      · exact e
      · exact absurd e h
    · rcases j2 with ⟨e, _⟩ | ⟨_, g, _, hO⟩
      · exact absurd h e
      · exact conv_any (hO.nw hU).old
  have HLE : Hid (E = 0 → F = 0 → Op.bytesLess (str (poL n d)).toList (str (poL m d)).toList = decide (n < m) ∧ ((str (poL n d)).toList == (str (poL m d)).toList) = (n == m)) := fun a b => poL_less n m d (hE.trans a) (hF.trans b)
  have HSM : Hid (E = 0 → d ≤ 21 → ∃ k : Nat, d = (k : Int) + 1 ∧ k ≤ 20 ∧ 0 ≤ n ∧ n < ((8 ^ k : Nat) : Int) ∧ (8 : Nat) ^ k ≤ 1152921504606846976) := fun a b => po_small n d (hE.trans a) b
  clear hE hF
  go_enter Tryd.func3, Tryd.ntmps3
  go_upto_region 5 with (first
    | (go_at_call 4; with_reducible refine HL.out.mono ?_; rintro e w1 ⟨rfl, K1⟩)
    | (go_at_call 5; with_reducible refine (HP1.out _).mono ?_; rintro e w2 ⟨a2, q2, c2, rfl, z2, K2⟩)
    | (go_at_call 5; with_reducible refine (HP2.out _).mono ?_; rintro e w3 ⟨a3, q3, c3, rfl, z3, K3⟩))
  have HFF := tHid (HF.out w3 ((K1.out.trans K2.out.1).trans K3.out.1))
  clear HF HL HP1 HP2
  by_cases hE : E = 0
  · by_cases hF : F = 0
    · have cv1 := K2.out.2 hE w3 K3.out.1
      have cv2 := K3.out.2 hF w3 (Fr.refl _ _)
      obtain ⟨l1, l2⟩ := HLE.out hE hF
      have HS2 := tHid (HSM.out hE)
      subst hE hF
      clear K1 K2 K3 HLE HSM z2 z3
      generalize str (poL n d) = S1 at *
      generalize str (poL m d) = S2 at *
      go_upto_region 7 with fail
      go_cut [66] (fun v wx => v = .bool false ∧ wx = w3)
      case first =>
        clear HFF HS2
        by_cases g1 : n < m
        · rw [decide_eq_true g1] at l1
          have g2 : (n == m) = false := by rw [beq_eq_false_iff_ne]; omega
          rw [g2] at l2
          have d1 : decide (n < m) = true := decide_eq_true g1
          go_wp2_with fail
          go_meet
          exact ⟨rfl, rfl⟩
        · rw [decide_eq_false g1] at l1
          have d1 : decide (n < m) = false := decide_eq_false g1
          by_cases g3 : n = m
          · have g2 : (n == m) = true := by simpa using g3
            rw [g2] at l2
            clear g3
            go_wp2_with fail
            go_meet
            exact ⟨rfl, rfl⟩
          · have g2 : (n == m) = false := by simpa using g3
            rw [g2] at l2
            clear g3
            go_wp2_with fail
            go_meet
            exact ⟨rfl, rfl⟩
      case rest =>
      obtain ⟨rfl, hw⟩ := hcut
      have hw' := hw.symm
      subst hw'
      clear hw l1 l2 cv1 cv2
      by_cases g21 : 21 < d
      · have d1 : decide (21 < d) = true := decide_eq_true g21
        clear HS2
        go_wp2_with fail
        exact HFF.out
      · have d1 : decide (21 < d) = false := decide_eq_false g21
        obtain ⟨k, hk, hk2, hn0, hn8, h8⟩ := HS2.out (by omega)
        have d2 : decide (n < 0) = false := decide_eq_false (by omega)
        subst hk
        obtain ⟨T, hT⟩ : ∃ T, 3 * k = T := ⟨_, rfl⟩
        have hmul : (3 : Int) * (k : Int) = (T : Int) := by omega
        have hp : (2 : Int) ^ T = ((8 ^ k : Nat) : Int) := by
          rw [← hT, Int.pow_mul]
          push_cast
          rfl
        have hT60 : T ≤ 60 := by omega
        have hmin : min T 64 = T := by omega
        generalize hQ : (8 : Nat) ^ k = Q at *
        clear HS2 hQ hT
        have dq : decide (n < (Q : Int)) = true := decide_eq_true hn8
        go_wp2_with fail
        exact HFF.out
    · have e0 := z3 hF
      subst e0
      have hz : ((F : Int) != 0) = true := by simp; omega
      subst hE
      clear K1 K2 K3 HLE HSM z2 z3
      go_wp2_with fail
      exact HFF.out
  · have e0 := z2 hE
    subst e0
    have hz : ((E : Int) != 0) = true := by simp; omega
    clear K1 K2 K3 HLE HSM z2 z3
    go_wp2_with fail
    exact HFF.out
end fieldRise
end Go.Proofs.YtiinalgflmgnaabDoor

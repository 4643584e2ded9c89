import Derived.Test.YtenkchhlaphocaaGreatDoorNjW
import Derived.Test.YtenkchhlaphocaaGreatDoorNjC
namespace Go.Proofs.YtenkchhlaphocaaGreatDoor
open Go.RowKit
set_option linter.unusedVariables false
/-! ### PutTime, Time -/
theorem dec_short (N : Nat) (h : N < 10000000000000000000000) : (dec N).length ≤ 22 := by
  rw [dec_len]
  rcases Nat.lt_or_ge 22 (Lib.nDigits N) with hq | hq
  · exfalso
    have hpos : 0 < N := by
      rcases Nat.eq_zero_or_pos N with h0 | h0
      · subst h0; rw [Lib.nDigits_small (by decide)] at hq; omega
      · exact h0
    have h1 := pow_le_nd N hpos
    have h2 : 10 ^ 22 ≤ 10 ^ (Lib.nDigits N - 1) := Nat.pow_le_pow_right (by decide) (by omega)
    have h3 : (10 : Nat) ^ 22 = 10000000000000000000000 := rfl
    omega
  · exact hq
theorem dot_short (n : Nat) (hn : n < 1000000000) : (dotV n).length ≤ 10 := by
  unfold dotV
  by_cases h0 : n = 0
  · rw [if_pos h0]; simp
  · rw [if_neg h0]
    obtain ⟨d1, _, _, _⟩ := dec9 n hn
    obtain ⟨k, hk⟩ := trimZ_pad ((dec (1000000000 + n)).drop 1)
    have := congrArg List.length hk
    rw [List.length_append, d1] at this
    rw [List.length_cons]
    omega
theorem cat_e (l : Bs) : (⟨#[]⟩ : ByteArray) ++ str l = str l := by
  rw [show (⟨#[]⟩ : ByteArray) = str [] from rfl, str_app]; rfl
theorem cat_m (l : Bs) : (⟨#[45]⟩ : ByteArray) ++ str l = str (45#8 :: l) := by
  rw [show (⟨#[45]⟩ : ByteArray) = str [45#8] from rfl, str_app]; rfl
def ptV (s n : Int) : Value := .tuple #[.string (str (putV s n).1), .int .i64 ((putV s n).2 : Nat)]
set_option maxHeartbeats 4000000 in
set_option maxRecDepth 100000 in
theorem putt_any (s n : Int) (h1 : -9223372036854775808 ≤ s) (h2 : s ≤ 9223372036854775807) (h3 : -2147483648 ≤ n) (h4 : n ≤ 2147483647) (w : World) (hE : Env w) : Calls Tryz.prog 12 #[.int .i64 s, .int .i32 n] w fun e w' => e = .returned (ptV s n) ∧ Nw w w' := by
  obtain ⟨P, hP⟩ : ∃ P : Ending → World → Prop, P = fun e w' => e = .returned (ptV s n) ∧ Nw w w' := ⟨_, rfl⟩
  rw [← hP]
  have HF : Hid (∀ x V, putV s n = x → Nw w V → P (.returned (.tuple #[.string (str x.1), .int .i64 (x.2 : Nat)])) V) := fun x V hx hV => by rw [hP]; unfold ptV; rw [hx]; exact ⟨rfl, hV⟩
  clear hP
  have hput : putV s n = putV s n := rfl
  conv at hput => rhs; unfold putV
  by_cases hn0 : n < 0
  · rw [if_pos (.inl hn0)] at hput
    have HF2 : Hid (P (.returned (.tuple #[.string ⟨#[]⟩, .int .i64 1])) w) := HF.out _ w hput (Fr.refl _ _)
    clear HF hput
    go_enter Tryz.func12, Tryz.ntmps12
    go_wp2_with fail
    first | exact HF2.out | (go_ret; exact HF2.out)
  · have hn0d : decide (n < 0) = false := decide_eq_false hn0
    by_cases hn9 : 1000000000 ≤ n
    · rw [if_pos (.inr hn9)] at hput
      have HF2 : Hid (P (.returned (.tuple #[.string ⟨#[]⟩, .int .i64 1])) w) := HF.out _ w hput (Fr.refl _ _)
      clear HF hput
      go_enter Tryz.func12, Tryz.ntmps12
      go_wp2_with fail
      first | exact HF2.out | (go_ret; exact HF2.out)
    · have hn9d : decide (1000000000 ≤ n) = false := decide_eq_false hn9
      rw [if_neg (by omega)] at hput
      by_cases hs : 0 ≤ s
      · rw [if_pos hs] at hput
        obtain ⟨S, rfl⟩ : ∃ S : Nat, s = (S : Int) := ⟨s.toNat, by omega⟩
        obtain ⟨N, rfl⟩ : ∃ N : Nat, n = (N : Int) := ⟨n.toNat, by omega⟩
        rw [Int.toNat_natCast, Int.toNat_natCast] at hput
        have HU := tHid (fmtU_any S (by omega) w hE)
        have HD : Hid (∀ V, Nw w V → _) := fun V hV => dot_any N (by omega) V (hE.nw hV)
        have c0 := cat_e (dec S)
        have c1 := str_app (dec S) (dotV N)
        have z1 : (str (dec S)).size ≤ 22 := by rw [str_size]; exact dec_short S (by omega)
        have z2 : (str (dotV N)).size ≤ 10 := by rw [str_size]; exact dot_short N (by omega)
        have hw : IntKind.u64.wrap (S : Int) = (S : Int) := by rw [IntKind.wrap_u64]; omega
        have hsn : ¬ (S : Int) < 0 := by omega
        have HF2 : Hid (∀ V, Nw w V → P (.returned (.tuple #[.string (str (dec S ++ dotV N)), .int .i64 0])) V) := fun V hV => HF.out _ V hput hV
        clear HF hput
        generalize str (dec S ++ dotV N) = s3 at *
        generalize str (dotV N) = s2 at *
        generalize str (dec S) = s1 at *
        go_enter Tryz.func12, Tryz.ntmps12
        go_wp2_with (first
          | (go_at_call 26; with_reducible refine HU.out.mono ?_; rintro e w1 ⟨rfl, H1⟩; have H1 := tHid H1)
          | (go_at_call 27; with_reducible refine (HD.out _ H1.out).mono ?_; rintro e w2 ⟨rfl, H2⟩; have H2 := tHid H2))
        first | exact HF2.out _ (H1.out.trans H2.out) | (go_ret; exact HF2.out _ (H1.out.trans H2.out))
      · rw [if_neg hs] at hput
        have hsn : s < 0 := by omega
        obtain ⟨A, hA⟩ : ∃ A : Nat, s.natAbs = A := ⟨_, rfl⟩
        have hAs : s = -(A : Int) := by omega
        rw [hA] at hput
        obtain ⟨N, rfl⟩ : ∃ N : Nat, n = (N : Int) := ⟨n.toNat, by omega⟩
        have hw : IntKind.u64.wrap (-IntKind.u64.wrap s) = (A : Int) := by rw [IntKind.wrap_u64, IntKind.wrap_u64]; omega
        by_cases hn : 0 < (N : Int)
        · rw [if_pos hn, Int.toNat_natCast] at hput
          obtain ⟨B, hB⟩ : ∃ B, A - 1 = B := ⟨_, rfl⟩
          obtain ⟨M, hM⟩ : ∃ M, 1000000000 - N = M := ⟨_, rfl⟩
          rw [hB, hM] at hput
          have hBi : (A : Int) - 1 = (B : Int) := by omega
          have hMi : (1000000000 : Int) - (N : Int) = (M : Int) := by omega
          have hB64 : B < 18446744073709551616 := by omega
          have hM31 : M < 1000000000 := by omega
          have HU := tHid (fmtU_any B hB64 w hE)
          have HD : Hid (∀ V, Nw w V → _) := fun V hV => dot_any M hM31 V (hE.nw hV)
          have c0 := cat_m (dec B)
          have c1 := str_app (45#8 :: dec B) (dotV M)
          have z1 : (str (dec B)).size ≤ 22 := by rw [str_size]; exact dec_short B (by omega)
          have z2 : (str (dotV M)).size ≤ 10 := by rw [str_size]; exact dot_short M hM31
          have z3 : (str (45#8 :: dec B)).size ≤ 23 := by rw [str_size, List.length_cons]; have := dec_short B (by omega); omega
          have HF2 : Hid (∀ V, Nw w V → P (.returned (.tuple #[.string (str ((45#8 :: dec B) ++ dotV M)), .int .i64 0])) V) := fun V hV => HF.out _ V hput hV
          clear HF hput hB hM hA hAs
          generalize str ((45#8 :: dec B) ++ dotV M) = s4 at *
          generalize str (45#8 :: dec B) = s3 at *
          generalize str (dotV M) = s2 at *
          generalize str (dec B) = s1 at *
          go_enter Tryz.func12, Tryz.ntmps12
          go_wp2_with (first
            | (go_at_call 26; with_reducible refine HU.out.mono ?_; rintro e w1 ⟨rfl, H1⟩; have H1 := tHid H1)
            | (go_at_call 27; with_reducible refine (HD.out _ H1.out).mono ?_; rintro e w2 ⟨rfl, H2⟩; have H2 := tHid H2))
          first | exact HF2.out _ (H1.out.trans H2.out) | (go_ret; exact HF2.out _ (H1.out.trans H2.out))
        · rw [if_neg hn] at hput
          obtain rfl : N = 0 := by omega
          have HU := tHid (fmtU_any A (by omega) w hE)
          have HD : Hid (∀ V, Nw w V → Calls Tryz.prog 27 #[.int .i32 0] V fun e w' => e = .returned (.string ⟨#[]⟩) ∧ Nw V w') := fun V hV => dot_any 0 (by decide) V (hE.nw hV)
          have c0 := cat_m (dec A)
          have c1 : str (45#8 :: dec A) ++ ⟨#[]⟩ = str (45#8 :: dec A) := by
            have := str_app (45#8 :: dec A) []
            rw [List.append_nil] at this
            exact this
          have z1 : (str (dec A)).size ≤ 22 := by rw [str_size]; exact dec_short A (by omega)
          have z3 : (str (45#8 :: dec A)).size ≤ 23 := by rw [str_size, List.length_cons]; have := dec_short A (by omega); omega
          have HF2 : Hid (∀ V, Nw w V → P (.returned (.tuple #[.string (str (45#8 :: dec A)), .int .i64 0])) V) := fun V hV => HF.out _ V hput hV
          clear HF hput hA hAs hn hn0 hn0d hn9 hn9d h3 h4
          generalize str (45#8 :: dec A) = s3 at *
          generalize str (dec A) = s1 at *
          go_enter Tryz.func12, Tryz.ntmps12
          go_wp2_with (first
            | (go_at_call 26; with_reducible refine HU.out.mono ?_; rintro e w1 ⟨rfl, H1⟩; have H1 := tHid H1)
            | (go_at_call 27; with_reducible refine (HD.out _ H1.out).mono ?_; rintro e w2 ⟨rfl, H2⟩; have H2 := tHid H2))
          first | exact HF2.out _ (H1.out.trans H2.out) | (go_ret; exact HF2.out _ (H1.out.trans H2.out))
theorem cutD_of {l p r : Bs} {f : Bool} (h : CutsB 46#8 l p r f) : cutD l = (p, r) := by
  have key : ∀ (q t : Bs), 46#8 ∉ q → cutD (q ++ 46#8 :: t) = (q, t) ∧ cutD q = (q, []) := by
    intro q t
    induction q with
    | nil => intro _; exact ⟨by simp [cutD], rfl⟩
    | cons c u ih =>
      intro hm
      rw [List.mem_cons, not_or] at hm
      obtain ⟨e1, e2⟩ := ih hm.2
      rw [List.cons_append, cutD, cutD, if_neg (fun e => hm.1 e.symm), if_neg (fun e => hm.1 e.symm), e1, e2]
      exact ⟨rfl, rfl⟩
  rcases h with ⟨_, rfl, h⟩ | ⟨_, rfl, rfl, h⟩
  · exact (key p r h).1
  · exact (key _ [] h).2
theorem cutD_len (l : Bs) : (cutD l).1.length ≤ l.length ∧ (cutD l).2.length ≤ l.length := by
  induction l with
  | nil => simp [cutD]
  | cons c r ih =>
    rw [cutD]
    split
    · simp
    · simp only [List.length_cons]; omega
theorem restV_len (l : Bs) : (restV l).length ≤ l.length := by
  unfold restV
  split
  · simp
  · exact Nat.le_refl _
def tmV (l : Bs) : Value := .tuple #[.int .i64 (timV l).1, .int .i32 ((timV l).2.1 : Nat), .int .i64 ((timV l).2.2 : Nat)]
set_option maxHeartbeats 4000000 in
set_option maxRecDepth 100000 in
theorem time_any (l : Bs) (hl : l.length ≤ 140737488351232) (w : World) (hE : Env w) : Calls Tryz.prog 11 #[.string (str l)] w fun e w' => e = .returned (tmV l) ∧ Nw w w' := by
  obtain ⟨P, hP⟩ : ∃ P : Ending → World → Prop, P = fun e w' => e = .returned (tmV l) ∧ Nw w w' := ⟨_, rfl⟩
  rw [← hP]
  have HF : Hid (∀ x V, timV l = x → Nw w V → P (.returned (.tuple #[.int .i64 x.1, .int .i32 (x.2.1 : Nat), .int .i64 (x.2.2 : Nat)])) V) := fun x V hx hV => by rw [hP]; unfold tmV; rw [hx]; exact ⟨rfl, hV⟩
  clear hP
  have htim : timV l = timV l := rfl
  conv at htim => rhs; unfold timV
  have hr1 := restV_len l
  have HCP := tHid (cp_any l w hl)
  have HCU := tHid (scut_46 (restV l) w (by omega))
  have hcl := cutD_len (restV l)
  have hnl := numV_lt (cutD (restV l)).1
  have HENV := tHid hE
  go_enter Tryz.func11, Tryz.ntmps11
  go_upto_region 3 with (first
    | (go_at_call 21; with_reducible refine HCP.out.mono ?_; rintro e w1 ⟨rfl, rfl⟩)
    | (go_at_call 22; with_reducible refine HCU.out.mono ?_; rintro e w2 ⟨p, r, f, rfl, H2⟩))
  obtain ⟨hcut, hN2⟩ := H2.out
  have hcd := cutD_of hcut
  rw [hcd] at htim hcl hnl
  simp only at htim hcl hnl
  have HDG := tHid (fun V => digs_any r (by omega) V)
  have HNU : Hid (∀ V, Nw w V → _) := fun V hV => num_any p (by omega) V (hE.nw hV)
  have HN2 := tHid hN2
  clear HCP HCU hcut hcd H2 hN2 hE
  cases hA : allD r with
  | false =>
    rw [hA, if_pos rfl] at htim
    rw [hA] at HDG
    have HF2 : Hid (∀ V, Nw w V → P (.returned (.tuple #[.int .i64 0, .int .i32 0, .int .i64 120])) V) := fun V hV => HF.out _ V htim hV
    clear HF htim hA HNU
    generalize str p = sp at *
    generalize str r = sr at *
    go_wp2_with (first | (go_at_call 23; with_reducible refine (HDG.out _).mono ?_; rintro e w3 ⟨rfl, H3⟩; have H3 := tHid H3))
    first | exact HF2.out _ (HN2.out.trans H3.out) | (go_ret; exact HF2.out _ (HN2.out.trans H3.out))
  | true =>
    rw [hA, if_neg (by decide)] at htim
    rw [hA] at HDG
    have hdr := (allD_iff r).1 hA
    have HNO := tHid (fun V => nano_any r hdr (by omega) V)
    have hnv := nanoV_lt r hdr
    generalize numV p = Q at *
    obtain ⟨N, E⟩ := Q
    simp only at htim hnl
    by_cases he : E ≠ 0
    · rw [if_pos he] at htim
      have he0 : ¬ ((E : Int) = 0) := by omega
      have HF2 : Hid (∀ V, Nw w V → P (.returned (.tuple #[.int .i64 0, .int .i32 0, .int .i64 (E : Nat)])) V) := fun V hV => HF.out _ V htim hV
      clear HF htim hA HNO hdr
      generalize str p = sp at *
      generalize str r = sr at *
      go_wp2_with (first
        | (go_at_call 23; with_reducible refine (HDG.out _).mono ?_; rintro e w3 ⟨rfl, H3⟩; have H3 := tHid H3)
        | (go_at_call 24; with_reducible refine (HNU.out _ (Nw.trans HN2.out H3.out)).mono ?_; rintro e w4 ⟨rfl, H4⟩; have H4 := tHid H4))
      first | exact HF2.out _ ((HN2.out.trans H3.out).trans H4.out) | (go_ret; exact HF2.out _ ((HN2.out.trans H3.out).trans H4.out))
    · have hE0 : E = 0 := by omega
      subst hE0
      rw [if_neg he] at htim
      generalize nanoV r = K at *
      clear hA hdr he
      cases hm : minusV l with
      | false =>
        rw [hm, if_pos rfl] at htim
        have HF2 : Hid (∀ V, Nw w V → P (.returned (.tuple #[.int .i64 (N : Nat), .int .i32 (K : Nat), .int .i64 0])) V) := fun V hV => HF.out _ V htim hV
        clear HF htim hm
        generalize str p = sp at *
        generalize str r = sr at *
        go_wp2_with (first
          | (go_at_call 23; with_reducible refine (HDG.out _).mono ?_; rintro e w3 ⟨rfl, H3⟩; have H3 := tHid H3)
          | (go_at_call 24; with_reducible refine (HNU.out _ (Nw.trans HN2.out H3.out)).mono ?_; rintro e w4 ⟨rfl, H4⟩; have H4 := tHid H4)
          | (go_at_call 25; with_reducible refine (HNO.out _).mono ?_; rintro e w5 ⟨rfl, rfl⟩))
        first | exact HF2.out _ ((HN2.out.trans H3.out).trans H4.out) | (go_ret; exact HF2.out _ ((HN2.out.trans H3.out).trans H4.out))
      | true =>
        rw [hm, if_neg (by decide)] at htim
        by_cases hk : K = 0
        · rw [if_pos hk] at htim
          subst hk
          have HNO2 : Hid (∀ V, Calls Tryz.prog 25 #[.string (str r)] V fun e w' => e = .returned (.int .i32 0) ∧ V = w') := HNO
          have HF2 : Hid (∀ V, Nw w V → P (.returned (.tuple #[.int .i64 (-(N : Int)), .int .i32 0, .int .i64 0])) V) := fun V hV => HF.out _ V htim hV
          clear HF htim hm HNO
          generalize str p = sp at *
          generalize str r = sr at *
          go_wp2_with (first
            | (go_at_call 23; with_reducible refine (HDG.out _).mono ?_; rintro e w3 ⟨rfl, H3⟩; have H3 := tHid H3)
            | (go_at_call 24; with_reducible refine (HNU.out _ (Nw.trans HN2.out H3.out)).mono ?_; rintro e w4 ⟨rfl, H4⟩; have H4 := tHid H4)
            | (go_at_call 25; with_reducible refine (HNO2.out _).mono ?_; rintro e w5 ⟨rfl, rfl⟩))
          first | exact HF2.out _ ((HN2.out.trans H3.out).trans H4.out) | (go_ret; exact HF2.out _ ((HN2.out.trans H3.out).trans H4.out))
        · rw [if_neg hk] at htim
          have hk0 : ¬ ((K : Int) = 0) := by omega
          obtain ⟨M, hM⟩ : ∃ M, 1000000000 - K = M := ⟨_, rfl⟩
          have hMi : (1000000000 : Int) - (K : Int) = (M : Int) := by omega
          rw [hM] at htim
          have hM9 : M < 1000000000 := by omega
          have HF2 : Hid (∀ V, Nw w V → P (.returned (.tuple #[.int .i64 (-(N : Int) - 1), .int .i32 (M : Nat), .int .i64 0])) V) := fun V hV => HF.out _ V htim hV
          clear HF htim hm hM hk
          generalize str p = sp at *
          generalize str r = sr at *
          go_wp2_with (first
            | (go_at_call 23; with_reducible refine (HDG.out _).mono ?_; rintro e w3 ⟨rfl, H3⟩; have H3 := tHid H3)
            | (go_at_call 24; with_reducible refine (HNU.out _ (Nw.trans HN2.out H3.out)).mono ?_; rintro e w4 ⟨rfl, H4⟩; have H4 := tHid H4)
            | (go_at_call 25; with_reducible refine (HNO.out _).mono ?_; rintro e w5 ⟨rfl, rfl⟩))
          first | exact HF2.out _ ((HN2.out.trans H3.out).trans H4.out) | (go_ret; exact HF2.out _ ((HN2.out.trans H3.out).trans H4.out))
end Go.Proofs.YtenkchhlaphocaaGreatDoor

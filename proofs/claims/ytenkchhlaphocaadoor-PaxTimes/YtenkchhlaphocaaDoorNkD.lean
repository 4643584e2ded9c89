import Derived.Test.YtenkchhlaphocaaDoorNkC
namespace Go.Proofs.YtenkchhlaphocaaDoor
open Go.RowKit
set_option linter.unusedVariables false
/-! ### PaxTimes -/
theorem numV_nil : numV [] = (0, 120) := by decide
set_option maxHeartbeats 16000000 in
set_option maxRecDepth 100000 in
theorem ptimes_walk (w : World) (hE : Env w) (n : Int) (h1 : -9223372036854775808 ≤ n) (h2 : n ≤ 9223372036854775807) (na : Int) (h3 : -2147483648 ≤ na) (h4 : na ≤ 2147483647) (l : Bs) (hl : l.length ≤ 140737488351232) :
    Calls Tryd.prog 6 #[.int .i64 n, .int .i32 na, .string (str l)] w fun e w' => e = .returned (.bool true) ∧ Nw w w' := by
  obtain ⟨P, hP⟩ : ∃ P : Ending → World → Prop, P = fun e w' => e = .returned (.bool true) ∧ Nw w w' := ⟨_, rfl⟩
  rw [← hP]
  have HF : Hid (∀ V, Nw w V → P (.returned (.bool true)) V) := fun V hV => by rw [hP]; exact ⟨rfl, hV⟩
  clear hP
  have HLV := tHid (lives_any w hE)
  -- the number that is put
  have hps : (pnV n).1.length ≤ 22 := by
    unfold pnV
    split
    · simp
    · exact dec_short _ (by omega)
  have HPN : Hid (∀ V, Nw w V → _) := fun V hV => putn_any n h1 h2 V (hE.nw hV)
  have HNU : Hid (∀ V, Nw w V → _) := fun V hV => num_any (pnV n).1 (by omega) V (hE.nw hV)
  -- the time that is put
  have hus : (putV n na).1.length ≤ 100 := by
    unfold putV
    split
    · simp
    · split
      · have a1 := dec_short n.toNat (by omega)
        have a2 := dot_short na.toNat (by omega)
        simp only [List.length_append]; omega
      · split
        · have a1 := dec_short (n.natAbs - 1) (by omega)
          have a2 := dot_short (1000000000 - na.toNat) (by omega)
          simp only [List.length_append, List.length_cons]; omega
        · have a1 := dec_short n.natAbs (by omega)
          simp only [List.length_cons]; omega
  have HPT : Hid (∀ V, Nw w V → _) := fun V hV => putt_any n na h1 h2 h3 h4 V (hE.nw hV)
  have HTU : Hid (∀ V, Nw w V → _) := fun V hV => time_any (putV n na).1 (by omega) V (hE.nw hV)
  -- the text
  have HTS : Hid (∀ V, Nw w V → _) := fun V hV => time_any l hl V (hE.nw hV)
  obtain ⟨t1, t2, t3, t4, t5⟩ := timV_ok l
  have hvs : (putV (timV l).1 ((timV l).2.1 : Nat)).1.length ≤ 100 := by
    generalize timV l = T at *
    obtain ⟨x, y, h⟩ := T
    simp only at t1 t2 t3 ⊢
    unfold putV
    split
    · simp
    · split
      · have a1 := dec_short x.toNat (by omega)
        have a2 := dot_short (y : Int).toNat (by omega)
        simp only [List.length_append]; omega
      · split
        · have a1 := dec_short (x.natAbs - 1) (by omega)
          have a2 := dot_short (1000000000 - (y : Int).toNat) (by omega)
          simp only [List.length_append, List.length_cons]; omega
        · have a1 := dec_short x.natAbs (by omega)
          simp only [List.length_cons]; omega
  have HPX : Hid (∀ V, Nw w V → _) := fun V hV => putt_any (timV l).1 ((timV l).2.1 : Nat) t2 t1 (by omega) (by omega) V (hE.nw hV)
  have HTX : Hid (∀ V, Nw w V → _) := fun V hV => time_any (putV (timV l).1 ((timV l).2.1 : Nat)).1 (by omega) V (hE.nw hV)
  have hbk : (timV l).2.2 = 0 → timV (putV (timV l).1 ((timV l).2.1 : Nat)).1 = ((timV l).1, (timV l).2.1, 0) := fun h0 => by
    have := time_back (timV l).1 ((timV l).2.1 : Nat) t2 (by omega) (by omega) (by omega) (by
      rcases Int.lt_or_eq_of_le t2 with h | h
      · exact .inl h
      · exact .inr (by have := t5 h.symm; omega))
    rw [Int.toNat_natCast] at this
    exact this
  have hbe : (putV (timV l).1 ((timV l).2.1 : Nat)).2 = 0 := by
    generalize timV l = T at *
    obtain ⟨x, y, h⟩ := T
    simp only at t1 t2 t3 ⊢
    unfold putV
    rw [if_neg (by omega)]
    split
    · rfl
    · split <;> rfl
  clear hE hps hus hvs
  unfold ptV tmV at *
  obtain ⟨vs, hvs⟩ : ∃ s, str (putV (timV l).1 ((timV l).2.1 : Nat)).1 = s := ⟨_, rfl⟩
  rw [hvs] at HPX HTX
  rw [hbe] at HPX
  generalize hT : timV l = T at *
  obtain ⟨x, y, h⟩ := T
  simp only at t1 t2 t3 t4 t5 hbk HTS HPX HTX
  have hC : ((h : Int) == 0) = decide (h = 0) := by
    by_cases hh : h = 0
    · subst hh; rfl
    · rw [decide_eq_false hh, beq_eq_false_iff_ne]; omega
  by_cases hn : n < 0
  · have hpn : pnV n = ([], 1) := by unfold pnV; rw [if_pos hn]
    rw [hpn] at HPN HNU
    rw [numV_nil] at HNU
    have hnd : decide (0 ≤ n) = false := decide_eq_false (by omega)
    clear hpn
    by_cases hr : 0 ≤ na ∧ na < 1000000000
    · obtain ⟨r1, r2⟩ := hr
      have r3 : na ≤ 999999999 := by omega
      have hpe : (putV n na).2 = 0 := by
        unfold putV
        rw [if_neg (by omega)]
        split
        · rfl
        · split <;> rfl
      rw [hpe] at HPT
      clear hpe
      by_cases hx : -9223372036854775808 < n ∨ 0 < na
      · have hb := time_back n na h1 (by omega) r1 r2 hx
        rw [hb] at HTU
        clear hb
        obtain ⟨NA, rfl⟩ : ∃ NA : Nat, na = (NA : Int) := ⟨na.toNat, by omega⟩
        rw [Int.toNat_natCast] at HTU
        simp only at HTU
        generalize str (putV n (NA : Nat)).1 = us at *
        clear r1 r2 h3 h4
        by_cases hx1 : -9223372036854775808 < n
        · have hx1d : decide (-9223372036854775808 < n) = true := decide_eq_true hx1
          have HX1 := tHid hx1d
          clear hx hx1 hx1d
          by_cases hh : h = 0
          · subst hh
            rw [hbk rfl] at HTX
            simp only at HTX
            clear hbk t4 t5 hC hT hvs hbe h1
            go_enter Tryd.func6, Tryd.ntmps6
            go_upto_region 10 with (first
              | (go_at_call 24; with_reducible refine HLV.out.mono ?_; rintro e w1 ⟨rfl, H1⟩; have H1 := tHid H1)
              | (go_at_call 20; with_reducible refine (HPN.out _ H1.out).mono ?_; rintro e w2 ⟨rfl, H2⟩; have H2 := tHid (Nw.trans H1.out H2))
              | (go_at_call 16; with_reducible refine (HNU.out _ H2.out).mono ?_; rintro e w3 ⟨rfl, H3⟩; have H3 := tHid (Nw.trans H2.out H3))
              | (go_at_call 22; with_reducible refine (HPT.out _ H3.out).mono ?_; rintro e w4 ⟨rfl, H4⟩; have H4 := tHid (Nw.trans H3.out H4))
              | (go_at_call 18; with_reducible refine (HTU.out _ H4.out).mono ?_; rintro e w5 ⟨rfl, H5⟩; have H5 := tHid (Nw.trans H4.out H5))
              | (go_at_call 18; with_reducible refine (HTS.out _ H5.out).mono ?_; rintro e w6 ⟨rfl, H6⟩; have H6 := tHid (Nw.trans H5.out H6))
              | (go_at_call 22; with_reducible refine (HPX.out _ H6.out).mono ?_; rintro e w7 ⟨rfl, H7⟩; have H7 := tHid (Nw.trans H6.out H7))
              | (go_at_call 18; with_reducible refine (HTX.out _ H7.out).mono ?_; rintro e w8 ⟨rfl, H8⟩; have H8 := tHid (Nw.trans H7.out H8)))
            have hx1d := HX1.out
            go_wp2_with (first
              | (go_at_call 24; with_reducible refine HLV.out.mono ?_; rintro e w1 ⟨rfl, H1⟩; have H1 := tHid H1)
              | (go_at_call 20; with_reducible refine (HPN.out _ H1.out).mono ?_; rintro e w2 ⟨rfl, H2⟩; have H2 := tHid (Nw.trans H1.out H2))
              | (go_at_call 16; with_reducible refine (HNU.out _ H2.out).mono ?_; rintro e w3 ⟨rfl, H3⟩; have H3 := tHid (Nw.trans H2.out H3))
              | (go_at_call 22; with_reducible refine (HPT.out _ H3.out).mono ?_; rintro e w4 ⟨rfl, H4⟩; have H4 := tHid (Nw.trans H3.out H4))
              | (go_at_call 18; with_reducible refine (HTU.out _ H4.out).mono ?_; rintro e w5 ⟨rfl, H5⟩; have H5 := tHid (Nw.trans H4.out H5))
              | (go_at_call 18; with_reducible refine (HTS.out _ H5.out).mono ?_; rintro e w6 ⟨rfl, H6⟩; have H6 := tHid (Nw.trans H5.out H6))
              | (go_at_call 22; with_reducible refine (HPX.out _ H6.out).mono ?_; rintro e w7 ⟨rfl, H7⟩; have H7 := tHid (Nw.trans H6.out H7))
              | (go_at_call 18; with_reducible refine (HTX.out _ H7.out).mono ?_; rintro e w8 ⟨rfl, H8⟩; have H8 := tHid (Nw.trans H7.out H8)))
            first | exact HF.out _ H8.out | (go_ret; exact HF.out _ H8.out)
          · obtain ⟨rfl, rfl⟩ := t4 hh
            have hh0 : ¬ ((h : Int) = 0) := by omega
            clear hbk t1 t2 t3 t4 t5 hC hT hvs hbe HPX HTX h1
            go_enter Tryd.func6, Tryd.ntmps6
            go_upto_region 10 with (first
              | (go_at_call 24; with_reducible refine HLV.out.mono ?_; rintro e w1 ⟨rfl, H1⟩; have H1 := tHid H1)
              | (go_at_call 20; with_reducible refine (HPN.out _ H1.out).mono ?_; rintro e w2 ⟨rfl, H2⟩; have H2 := tHid (Nw.trans H1.out H2))
              | (go_at_call 16; with_reducible refine (HNU.out _ H2.out).mono ?_; rintro e w3 ⟨rfl, H3⟩; have H3 := tHid (Nw.trans H2.out H3))
              | (go_at_call 22; with_reducible refine (HPT.out _ H3.out).mono ?_; rintro e w4 ⟨rfl, H4⟩; have H4 := tHid (Nw.trans H3.out H4))
              | (go_at_call 18; with_reducible refine (HTU.out _ H4.out).mono ?_; rintro e w5 ⟨rfl, H5⟩; have H5 := tHid (Nw.trans H4.out H5))
              | (go_at_call 18; with_reducible refine (HTS.out _ H5.out).mono ?_; rintro e w6 ⟨rfl, H6⟩; have H6 := tHid (Nw.trans H5.out H6)))
            have hx1d := HX1.out
            go_wp2_with (first
              | (go_at_call 24; with_reducible refine HLV.out.mono ?_; rintro e w1 ⟨rfl, H1⟩; have H1 := tHid H1)
              | (go_at_call 20; with_reducible refine (HPN.out _ H1.out).mono ?_; rintro e w2 ⟨rfl, H2⟩; have H2 := tHid (Nw.trans H1.out H2))
              | (go_at_call 16; with_reducible refine (HNU.out _ H2.out).mono ?_; rintro e w3 ⟨rfl, H3⟩; have H3 := tHid (Nw.trans H2.out H3))
              | (go_at_call 22; with_reducible refine (HPT.out _ H3.out).mono ?_; rintro e w4 ⟨rfl, H4⟩; have H4 := tHid (Nw.trans H3.out H4))
              | (go_at_call 18; with_reducible refine (HTU.out _ H4.out).mono ?_; rintro e w5 ⟨rfl, H5⟩; have H5 := tHid (Nw.trans H4.out H5))
              | (go_at_call 18; with_reducible refine (HTS.out _ H5.out).mono ?_; rintro e w6 ⟨rfl, H6⟩; have H6 := tHid (Nw.trans H5.out H6)))
            first | exact HF.out _ H6.out | (go_ret; exact HF.out _ H6.out)
        · have hx2 : (0 : Int) < (NA : Int) := by omega
          have hx1d : decide (-9223372036854775808 < n) = false := decide_eq_false hx1
          have HX1 := tHid hx1d
          clear hx hx1 hx1d
          by_cases hh : h = 0
          · subst hh
            rw [hbk rfl] at HTX
            simp only at HTX
            clear hbk t4 t5 hC hT hvs hbe h1
            go_enter Tryd.func6, Tryd.ntmps6
            go_upto_region 10 with (first
              | (go_at_call 24; with_reducible refine HLV.out.mono ?_; rintro e w1 ⟨rfl, H1⟩; have H1 := tHid H1)
              | (go_at_call 20; with_reducible refine (HPN.out _ H1.out).mono ?_; rintro e w2 ⟨rfl, H2⟩; have H2 := tHid (Nw.trans H1.out H2))
              | (go_at_call 16; with_reducible refine (HNU.out _ H2.out).mono ?_; rintro e w3 ⟨rfl, H3⟩; have H3 := tHid (Nw.trans H2.out H3))
              | (go_at_call 22; with_reducible refine (HPT.out _ H3.out).mono ?_; rintro e w4 ⟨rfl, H4⟩; have H4 := tHid (Nw.trans H3.out H4))
              | (go_at_call 18; with_reducible refine (HTU.out _ H4.out).mono ?_; rintro e w5 ⟨rfl, H5⟩; have H5 := tHid (Nw.trans H4.out H5))
              | (go_at_call 18; with_reducible refine (HTS.out _ H5.out).mono ?_; rintro e w6 ⟨rfl, H6⟩; have H6 := tHid (Nw.trans H5.out H6))
              | (go_at_call 22; with_reducible refine (HPX.out _ H6.out).mono ?_; rintro e w7 ⟨rfl, H7⟩; have H7 := tHid (Nw.trans H6.out H7))
              | (go_at_call 18; with_reducible refine (HTX.out _ H7.out).mono ?_; rintro e w8 ⟨rfl, H8⟩; have H8 := tHid (Nw.trans H7.out H8)))
            have hx1d := HX1.out
            go_wp2_with (first
              | (go_at_call 24; with_reducible refine HLV.out.mono ?_; rintro e w1 ⟨rfl, H1⟩; have H1 := tHid H1)
              | (go_at_call 20; with_reducible refine (HPN.out _ H1.out).mono ?_; rintro e w2 ⟨rfl, H2⟩; have H2 := tHid (Nw.trans H1.out H2))
              | (go_at_call 16; with_reducible refine (HNU.out _ H2.out).mono ?_; rintro e w3 ⟨rfl, H3⟩; have H3 := tHid (Nw.trans H2.out H3))
              | (go_at_call 22; with_reducible refine (HPT.out _ H3.out).mono ?_; rintro e w4 ⟨rfl, H4⟩; have H4 := tHid (Nw.trans H3.out H4))
              | (go_at_call 18; with_reducible refine (HTU.out _ H4.out).mono ?_; rintro e w5 ⟨rfl, H5⟩; have H5 := tHid (Nw.trans H4.out H5))
              | (go_at_call 18; with_reducible refine (HTS.out _ H5.out).mono ?_; rintro e w6 ⟨rfl, H6⟩; have H6 := tHid (Nw.trans H5.out H6))
              | (go_at_call 22; with_reducible refine (HPX.out _ H6.out).mono ?_; rintro e w7 ⟨rfl, H7⟩; have H7 := tHid (Nw.trans H6.out H7))
              | (go_at_call 18; with_reducible refine (HTX.out _ H7.out).mono ?_; rintro e w8 ⟨rfl, H8⟩; have H8 := tHid (Nw.trans H7.out H8)))
            first | exact HF.out _ H8.out | (go_ret; exact HF.out _ H8.out)
          · obtain ⟨rfl, rfl⟩ := t4 hh
            have hh0 : ¬ ((h : Int) = 0) := by omega
            clear hbk t1 t2 t3 t4 t5 hC hT hvs hbe HPX HTX h1
            go_enter Tryd.func6, Tryd.ntmps6
            go_upto_region 10 with (first
              | (go_at_call 24; with_reducible refine HLV.out.mono ?_; rintro e w1 ⟨rfl, H1⟩; have H1 := tHid H1)
              | (go_at_call 20; with_reducible refine (HPN.out _ H1.out).mono ?_; rintro e w2 ⟨rfl, H2⟩; have H2 := tHid (Nw.trans H1.out H2))
              | (go_at_call 16; with_reducible refine (HNU.out _ H2.out).mono ?_; rintro e w3 ⟨rfl, H3⟩; have H3 := tHid (Nw.trans H2.out H3))
              | (go_at_call 22; with_reducible refine (HPT.out _ H3.out).mono ?_; rintro e w4 ⟨rfl, H4⟩; have H4 := tHid (Nw.trans H3.out H4))
              | (go_at_call 18; with_reducible refine (HTU.out _ H4.out).mono ?_; rintro e w5 ⟨rfl, H5⟩; have H5 := tHid (Nw.trans H4.out H5))
              | (go_at_call 18; with_reducible refine (HTS.out _ H5.out).mono ?_; rintro e w6 ⟨rfl, H6⟩; have H6 := tHid (Nw.trans H5.out H6)))
            have hx1d := HX1.out
            go_wp2_with (first
              | (go_at_call 24; with_reducible refine HLV.out.mono ?_; rintro e w1 ⟨rfl, H1⟩; have H1 := tHid H1)
              | (go_at_call 20; with_reducible refine (HPN.out _ H1.out).mono ?_; rintro e w2 ⟨rfl, H2⟩; have H2 := tHid (Nw.trans H1.out H2))
              | (go_at_call 16; with_reducible refine (HNU.out _ H2.out).mono ?_; rintro e w3 ⟨rfl, H3⟩; have H3 := tHid (Nw.trans H2.out H3))
              | (go_at_call 22; with_reducible refine (HPT.out _ H3.out).mono ?_; rintro e w4 ⟨rfl, H4⟩; have H4 := tHid (Nw.trans H3.out H4))
              | (go_at_call 18; with_reducible refine (HTU.out _ H4.out).mono ?_; rintro e w5 ⟨rfl, H5⟩; have H5 := tHid (Nw.trans H4.out H5))
              | (go_at_call 18; with_reducible refine (HTS.out _ H5.out).mono ?_; rintro e w6 ⟨rfl, H6⟩; have H6 := tHid (Nw.trans H5.out H6)))
            first | exact HF.out _ H6.out | (go_ret; exact HF.out _ H6.out)
      · have hx1 : ¬ -9223372036854775808 < n := by omega
        have hx1d : decide (-9223372036854775808 < n) = false := decide_eq_false hx1
        obtain rfl : na = 0 := by omega
        have HX1 := tHid hx1d
        clear hx hx1 hx1d HTU
        generalize str (putV n 0).1 = us at *
        by_cases hh : h = 0
        · subst hh
          rw [hbk rfl] at HTX
          simp only at HTX
          clear hbk t4 t5 hC hT hvs hbe h1
          go_enter Tryd.func6, Tryd.ntmps6
          go_upto_region 10 with (first
            | (go_at_call 24; with_reducible refine HLV.out.mono ?_; rintro e w1 ⟨rfl, H1⟩; have H1 := tHid H1)
            | (go_at_call 20; with_reducible refine (HPN.out _ H1.out).mono ?_; rintro e w2 ⟨rfl, H2⟩; have H2 := tHid (Nw.trans H1.out H2))
            | (go_at_call 16; with_reducible refine (HNU.out _ H2.out).mono ?_; rintro e w3 ⟨rfl, H3⟩; have H3 := tHid (Nw.trans H2.out H3))
            | (go_at_call 22; with_reducible refine (HPT.out _ H3.out).mono ?_; rintro e w4 ⟨rfl, H4⟩; have H4 := tHid (Nw.trans H3.out H4))
            | (go_at_call 18; with_reducible refine (HTS.out _ H4.out).mono ?_; rintro e w6 ⟨rfl, H6⟩; have H6 := tHid (Nw.trans H4.out H6))
            | (go_at_call 22; with_reducible refine (HPX.out _ H6.out).mono ?_; rintro e w7 ⟨rfl, H7⟩; have H7 := tHid (Nw.trans H6.out H7))
            | (go_at_call 18; with_reducible refine (HTX.out _ H7.out).mono ?_; rintro e w8 ⟨rfl, H8⟩; have H8 := tHid (Nw.trans H7.out H8)))
          have hx1d := HX1.out
          go_wp2_with (first
            | (go_at_call 24; with_reducible refine HLV.out.mono ?_; rintro e w1 ⟨rfl, H1⟩; have H1 := tHid H1)
            | (go_at_call 20; with_reducible refine (HPN.out _ H1.out).mono ?_; rintro e w2 ⟨rfl, H2⟩; have H2 := tHid (Nw.trans H1.out H2))
            | (go_at_call 16; with_reducible refine (HNU.out _ H2.out).mono ?_; rintro e w3 ⟨rfl, H3⟩; have H3 := tHid (Nw.trans H2.out H3))
            | (go_at_call 22; with_reducible refine (HPT.out _ H3.out).mono ?_; rintro e w4 ⟨rfl, H4⟩; have H4 := tHid (Nw.trans H3.out H4))
            | (go_at_call 18; with_reducible refine (HTS.out _ H4.out).mono ?_; rintro e w6 ⟨rfl, H6⟩; have H6 := tHid (Nw.trans H4.out H6))
            | (go_at_call 22; with_reducible refine (HPX.out _ H6.out).mono ?_; rintro e w7 ⟨rfl, H7⟩; have H7 := tHid (Nw.trans H6.out H7))
            | (go_at_call 18; with_reducible refine (HTX.out _ H7.out).mono ?_; rintro e w8 ⟨rfl, H8⟩; have H8 := tHid (Nw.trans H7.out H8)))
          first | exact HF.out _ H8.out | (go_ret; exact HF.out _ H8.out)
        · obtain ⟨rfl, rfl⟩ := t4 hh
          have hh0 : ¬ ((h : Int) = 0) := by omega
          clear hbk t1 t2 t3 t4 t5 hC hT hvs hbe HPX HTX h1
          go_enter Tryd.func6, Tryd.ntmps6
          go_upto_region 10 with (first
            | (go_at_call 24; with_reducible refine HLV.out.mono ?_; rintro e w1 ⟨rfl, H1⟩; have H1 := tHid H1)
            | (go_at_call 20; with_reducible refine (HPN.out _ H1.out).mono ?_; rintro e w2 ⟨rfl, H2⟩; have H2 := tHid (Nw.trans H1.out H2))
            | (go_at_call 16; with_reducible refine (HNU.out _ H2.out).mono ?_; rintro e w3 ⟨rfl, H3⟩; have H3 := tHid (Nw.trans H2.out H3))
            | (go_at_call 22; with_reducible refine (HPT.out _ H3.out).mono ?_; rintro e w4 ⟨rfl, H4⟩; have H4 := tHid (Nw.trans H3.out H4))
            | (go_at_call 18; with_reducible refine (HTS.out _ H4.out).mono ?_; rintro e w6 ⟨rfl, H6⟩; have H6 := tHid (Nw.trans H4.out H6)))
          have hx1d := HX1.out
          go_wp2_with (first
            | (go_at_call 24; with_reducible refine HLV.out.mono ?_; rintro e w1 ⟨rfl, H1⟩; have H1 := tHid H1)
            | (go_at_call 20; with_reducible refine (HPN.out _ H1.out).mono ?_; rintro e w2 ⟨rfl, H2⟩; have H2 := tHid (Nw.trans H1.out H2))
            | (go_at_call 16; with_reducible refine (HNU.out _ H2.out).mono ?_; rintro e w3 ⟨rfl, H3⟩; have H3 := tHid (Nw.trans H2.out H3))
            | (go_at_call 22; with_reducible refine (HPT.out _ H3.out).mono ?_; rintro e w4 ⟨rfl, H4⟩; have H4 := tHid (Nw.trans H3.out H4))
            | (go_at_call 18; with_reducible refine (HTS.out _ H4.out).mono ?_; rintro e w6 ⟨rfl, H6⟩; have H6 := tHid (Nw.trans H4.out H6)))
          first | exact HF.out _ H6.out | (go_ret; exact HF.out _ H6.out)
    · have hpe : putV n na = ([], 1) := by unfold putV; rw [if_pos (by omega)]
      rw [hpe] at HPT
      clear HTU hpe
      by_cases r1 : 0 ≤ na
      · have r2 : ¬ na ≤ 999999999 := by omega
        have r2d : decide (na ≤ 999999999) = false := decide_eq_false r2
        by_cases hh : h = 0
        · subst hh
          rw [hbk rfl] at HTX
          simp only at HTX
          clear hbk t4 t5 hC hT hvs hbe h1
          go_enter Tryd.func6, Tryd.ntmps6
          go_wp2_with (first
            | (go_at_call 24; with_reducible refine HLV.out.mono ?_; rintro e w1 ⟨rfl, H1⟩; have H1 := tHid H1)
            | (go_at_call 20; with_reducible refine (HPN.out _ H1.out).mono ?_; rintro e w2 ⟨rfl, H2⟩; have H2 := tHid (Nw.trans H1.out H2))
            | (go_at_call 16; with_reducible refine (HNU.out _ H2.out).mono ?_; rintro e w3 ⟨rfl, H3⟩; have H3 := tHid (Nw.trans H2.out H3))
            | (go_at_call 22; with_reducible refine (HPT.out _ H3.out).mono ?_; rintro e w4 ⟨rfl, H4⟩; have H4 := tHid (Nw.trans H3.out H4))
            | (go_at_call 18; with_reducible refine (HTS.out _ H4.out).mono ?_; rintro e w6 ⟨rfl, H6⟩; have H6 := tHid (Nw.trans H4.out H6))
            | (go_at_call 22; with_reducible refine (HPX.out _ H6.out).mono ?_; rintro e w7 ⟨rfl, H7⟩; have H7 := tHid (Nw.trans H6.out H7))
            | (go_at_call 18; with_reducible refine (HTX.out _ H7.out).mono ?_; rintro e w8 ⟨rfl, H8⟩; have H8 := tHid (Nw.trans H7.out H8)))
          first | exact HF.out _ H8.out | (go_ret; exact HF.out _ H8.out)
        · obtain ⟨rfl, rfl⟩ := t4 hh
          have hh0 : ¬ ((h : Int) = 0) := by omega
          clear hbk t1 t2 t3 t4 t5 hC hT hvs hbe HPX HTX h1
          go_enter Tryd.func6, Tryd.ntmps6
          go_wp2_with (first
            | (go_at_call 24; with_reducible refine HLV.out.mono ?_; rintro e w1 ⟨rfl, H1⟩; have H1 := tHid H1)
            | (go_at_call 20; with_reducible refine (HPN.out _ H1.out).mono ?_; rintro e w2 ⟨rfl, H2⟩; have H2 := tHid (Nw.trans H1.out H2))
            | (go_at_call 16; with_reducible refine (HNU.out _ H2.out).mono ?_; rintro e w3 ⟨rfl, H3⟩; have H3 := tHid (Nw.trans H2.out H3))
            | (go_at_call 22; with_reducible refine (HPT.out _ H3.out).mono ?_; rintro e w4 ⟨rfl, H4⟩; have H4 := tHid (Nw.trans H3.out H4))
            | (go_at_call 18; with_reducible refine (HTS.out _ H4.out).mono ?_; rintro e w6 ⟨rfl, H6⟩; have H6 := tHid (Nw.trans H4.out H6)))
          first | exact HF.out _ H6.out | (go_ret; exact HF.out _ H6.out)
      · have r1d : decide (0 ≤ na) = false := decide_eq_false r1
        by_cases hh : h = 0
        · subst hh
          rw [hbk rfl] at HTX
          simp only at HTX
          clear hbk t4 t5 hC hT hvs hbe h1
          go_enter Tryd.func6, Tryd.ntmps6
          go_wp2_with (first
            | (go_at_call 24; with_reducible refine HLV.out.mono ?_; rintro e w1 ⟨rfl, H1⟩; have H1 := tHid H1)
            | (go_at_call 20; with_reducible refine (HPN.out _ H1.out).mono ?_; rintro e w2 ⟨rfl, H2⟩; have H2 := tHid (Nw.trans H1.out H2))
            | (go_at_call 16; with_reducible refine (HNU.out _ H2.out).mono ?_; rintro e w3 ⟨rfl, H3⟩; have H3 := tHid (Nw.trans H2.out H3))
            | (go_at_call 22; with_reducible refine (HPT.out _ H3.out).mono ?_; rintro e w4 ⟨rfl, H4⟩; have H4 := tHid (Nw.trans H3.out H4))
            | (go_at_call 18; with_reducible refine (HTS.out _ H4.out).mono ?_; rintro e w6 ⟨rfl, H6⟩; have H6 := tHid (Nw.trans H4.out H6))
            | (go_at_call 22; with_reducible refine (HPX.out _ H6.out).mono ?_; rintro e w7 ⟨rfl, H7⟩; have H7 := tHid (Nw.trans H6.out H7))
            | (go_at_call 18; with_reducible refine (HTX.out _ H7.out).mono ?_; rintro e w8 ⟨rfl, H8⟩; have H8 := tHid (Nw.trans H7.out H8)))
          first | exact HF.out _ H8.out | (go_ret; exact HF.out _ H8.out)
        · obtain ⟨rfl, rfl⟩ := t4 hh
          have hh0 : ¬ ((h : Int) = 0) := by omega
          clear hbk t1 t2 t3 t4 t5 hC hT hvs hbe HPX HTX h1
          go_enter Tryd.func6, Tryd.ntmps6
          go_wp2_with (first
            | (go_at_call 24; with_reducible refine HLV.out.mono ?_; rintro e w1 ⟨rfl, H1⟩; have H1 := tHid H1)
            | (go_at_call 20; with_reducible refine (HPN.out _ H1.out).mono ?_; rintro e w2 ⟨rfl, H2⟩; have H2 := tHid (Nw.trans H1.out H2))
            | (go_at_call 16; with_reducible refine (HNU.out _ H2.out).mono ?_; rintro e w3 ⟨rfl, H3⟩; have H3 := tHid (Nw.trans H2.out H3))
            | (go_at_call 22; with_reducible refine (HPT.out _ H3.out).mono ?_; rintro e w4 ⟨rfl, H4⟩; have H4 := tHid (Nw.trans H3.out H4))
            | (go_at_call 18; with_reducible refine (HTS.out _ H4.out).mono ?_; rintro e w6 ⟨rfl, H6⟩; have H6 := tHid (Nw.trans H4.out H6)))
          first | exact HF.out _ H6.out | (go_ret; exact HF.out _ H6.out)
  · obtain ⟨N, rfl⟩ : ∃ N : Nat, n = (N : Int) := ⟨n.toNat, by omega⟩
    have hpn : pnV (N : Int) = (dec N, 0) := by unfold pnV; rw [if_neg hn]; rfl
    rw [hpn] at HPN HNU
    rw [numV_dec N (by omega)] at HNU
    simp only at HPN HNU
    generalize str (dec N) = ns at *
    clear hpn
    by_cases hr : 0 ≤ na ∧ na < 1000000000
    · obtain ⟨r1, r2⟩ := hr
      have r3 : na ≤ 999999999 := by omega
      have hpe : (putV (N : Int) na).2 = 0 := by
        unfold putV
        rw [if_neg (by omega)]
        split
        · rfl
        · split <;> rfl
      rw [hpe] at HPT
      clear hpe
      by_cases hx : -9223372036854775808 < (N : Int) ∨ 0 < na
      · have hb := time_back (N : Int) na h1 (by omega) r1 r2 hx
        rw [hb] at HTU
        clear hb
        obtain ⟨NA, rfl⟩ : ∃ NA : Nat, na = (NA : Int) := ⟨na.toNat, by omega⟩
        rw [Int.toNat_natCast] at HTU
        simp only at HTU
        generalize str (putV (N : Int) (NA : Nat)).1 = us at *
        clear r1 r2 h3 h4
        by_cases hx1 : -9223372036854775808 < (N : Int)
        · have hx1d : decide (-9223372036854775808 < (N : Int)) = true := decide_eq_true hx1
          have HX1 := tHid hx1d
          clear hx hx1 hx1d
          by_cases hh : h = 0
          · subst hh
            rw [hbk rfl] at HTX
            simp only at HTX
            clear hbk t4 t5 hC hT hvs hbe h1
            go_enter Tryd.func6, Tryd.ntmps6
            go_upto_region 10 with (first
              | (go_at_call 24; with_reducible refine HLV.out.mono ?_; rintro e w1 ⟨rfl, H1⟩; have H1 := tHid H1)
              | (go_at_call 20; with_reducible refine (HPN.out _ H1.out).mono ?_; rintro e w2 ⟨rfl, H2⟩; have H2 := tHid (Nw.trans H1.out H2))
              | (go_at_call 16; with_reducible refine (HNU.out _ H2.out).mono ?_; rintro e w3 ⟨rfl, H3⟩; have H3 := tHid (Nw.trans H2.out H3))
              | (go_at_call 22; with_reducible refine (HPT.out _ H3.out).mono ?_; rintro e w4 ⟨rfl, H4⟩; have H4 := tHid (Nw.trans H3.out H4))
              | (go_at_call 18; with_reducible refine (HTU.out _ H4.out).mono ?_; rintro e w5 ⟨rfl, H5⟩; have H5 := tHid (Nw.trans H4.out H5))
              | (go_at_call 18; with_reducible refine (HTS.out _ H5.out).mono ?_; rintro e w6 ⟨rfl, H6⟩; have H6 := tHid (Nw.trans H5.out H6))
              | (go_at_call 22; with_reducible refine (HPX.out _ H6.out).mono ?_; rintro e w7 ⟨rfl, H7⟩; have H7 := tHid (Nw.trans H6.out H7))
              | (go_at_call 18; with_reducible refine (HTX.out _ H7.out).mono ?_; rintro e w8 ⟨rfl, H8⟩; have H8 := tHid (Nw.trans H7.out H8)))
            have hx1d := HX1.out
            go_wp2_with (first
              | (go_at_call 24; with_reducible refine HLV.out.mono ?_; rintro e w1 ⟨rfl, H1⟩; have H1 := tHid H1)
              | (go_at_call 20; with_reducible refine (HPN.out _ H1.out).mono ?_; rintro e w2 ⟨rfl, H2⟩; have H2 := tHid (Nw.trans H1.out H2))
              | (go_at_call 16; with_reducible refine (HNU.out _ H2.out).mono ?_; rintro e w3 ⟨rfl, H3⟩; have H3 := tHid (Nw.trans H2.out H3))
              | (go_at_call 22; with_reducible refine (HPT.out _ H3.out).mono ?_; rintro e w4 ⟨rfl, H4⟩; have H4 := tHid (Nw.trans H3.out H4))
              | (go_at_call 18; with_reducible refine (HTU.out _ H4.out).mono ?_; rintro e w5 ⟨rfl, H5⟩; have H5 := tHid (Nw.trans H4.out H5))
              | (go_at_call 18; with_reducible refine (HTS.out _ H5.out).mono ?_; rintro e w6 ⟨rfl, H6⟩; have H6 := tHid (Nw.trans H5.out H6))
              | (go_at_call 22; with_reducible refine (HPX.out _ H6.out).mono ?_; rintro e w7 ⟨rfl, H7⟩; have H7 := tHid (Nw.trans H6.out H7))
              | (go_at_call 18; with_reducible refine (HTX.out _ H7.out).mono ?_; rintro e w8 ⟨rfl, H8⟩; have H8 := tHid (Nw.trans H7.out H8)))
            first | exact HF.out _ H8.out | (go_ret; exact HF.out _ H8.out)
          · obtain ⟨rfl, rfl⟩ := t4 hh
            have hh0 : ¬ ((h : Int) = 0) := by omega
            clear hbk t1 t2 t3 t4 t5 hC hT hvs hbe HPX HTX h1
            go_enter Tryd.func6, Tryd.ntmps6
            go_upto_region 10 with (first
              | (go_at_call 24; with_reducible refine HLV.out.mono ?_; rintro e w1 ⟨rfl, H1⟩; have H1 := tHid H1)
              | (go_at_call 20; with_reducible refine (HPN.out _ H1.out).mono ?_; rintro e w2 ⟨rfl, H2⟩; have H2 := tHid (Nw.trans H1.out H2))
              | (go_at_call 16; with_reducible refine (HNU.out _ H2.out).mono ?_; rintro e w3 ⟨rfl, H3⟩; have H3 := tHid (Nw.trans H2.out H3))
              | (go_at_call 22; with_reducible refine (HPT.out _ H3.out).mono ?_; rintro e w4 ⟨rfl, H4⟩; have H4 := tHid (Nw.trans H3.out H4))
              | (go_at_call 18; with_reducible refine (HTU.out _ H4.out).mono ?_; rintro e w5 ⟨rfl, H5⟩; have H5 := tHid (Nw.trans H4.out H5))
              | (go_at_call 18; with_reducible refine (HTS.out _ H5.out).mono ?_; rintro e w6 ⟨rfl, H6⟩; have H6 := tHid (Nw.trans H5.out H6)))
            have hx1d := HX1.out
            go_wp2_with (first
              | (go_at_call 24; with_reducible refine HLV.out.mono ?_; rintro e w1 ⟨rfl, H1⟩; have H1 := tHid H1)
              | (go_at_call 20; with_reducible refine (HPN.out _ H1.out).mono ?_; rintro e w2 ⟨rfl, H2⟩; have H2 := tHid (Nw.trans H1.out H2))
              | (go_at_call 16; with_reducible refine (HNU.out _ H2.out).mono ?_; rintro e w3 ⟨rfl, H3⟩; have H3 := tHid (Nw.trans H2.out H3))
              | (go_at_call 22; with_reducible refine (HPT.out _ H3.out).mono ?_; rintro e w4 ⟨rfl, H4⟩; have H4 := tHid (Nw.trans H3.out H4))
              | (go_at_call 18; with_reducible refine (HTU.out _ H4.out).mono ?_; rintro e w5 ⟨rfl, H5⟩; have H5 := tHid (Nw.trans H4.out H5))
              | (go_at_call 18; with_reducible refine (HTS.out _ H5.out).mono ?_; rintro e w6 ⟨rfl, H6⟩; have H6 := tHid (Nw.trans H5.out H6)))
            first | exact HF.out _ H6.out | (go_ret; exact HF.out _ H6.out)
        · exfalso
          omega
      · exfalso
        omega
    · have hpe : putV (N : Int) na = ([], 1) := by unfold putV; rw [if_pos (by omega)]
      rw [hpe] at HPT
      clear HTU hpe
      by_cases r1 : 0 ≤ na
      · have r2 : ¬ na ≤ 999999999 := by omega
        have r2d : decide (na ≤ 999999999) = false := decide_eq_false r2
        by_cases hh : h = 0
        · subst hh
          rw [hbk rfl] at HTX
          simp only at HTX
          clear hbk t4 t5 hC hT hvs hbe h1
          go_enter Tryd.func6, Tryd.ntmps6
          go_wp2_with (first
            | (go_at_call 24; with_reducible refine HLV.out.mono ?_; rintro e w1 ⟨rfl, H1⟩; have H1 := tHid H1)
            | (go_at_call 20; with_reducible refine (HPN.out _ H1.out).mono ?_; rintro e w2 ⟨rfl, H2⟩; have H2 := tHid (Nw.trans H1.out H2))
            | (go_at_call 16; with_reducible refine (HNU.out _ H2.out).mono ?_; rintro e w3 ⟨rfl, H3⟩; have H3 := tHid (Nw.trans H2.out H3))
            | (go_at_call 22; with_reducible refine (HPT.out _ H3.out).mono ?_; rintro e w4 ⟨rfl, H4⟩; have H4 := tHid (Nw.trans H3.out H4))
            | (go_at_call 18; with_reducible refine (HTS.out _ H4.out).mono ?_; rintro e w6 ⟨rfl, H6⟩; have H6 := tHid (Nw.trans H4.out H6))
            | (go_at_call 22; with_reducible refine (HPX.out _ H6.out).mono ?_; rintro e w7 ⟨rfl, H7⟩; have H7 := tHid (Nw.trans H6.out H7))
            | (go_at_call 18; with_reducible refine (HTX.out _ H7.out).mono ?_; rintro e w8 ⟨rfl, H8⟩; have H8 := tHid (Nw.trans H7.out H8)))
          first | exact HF.out _ H8.out | (go_ret; exact HF.out _ H8.out)
        · obtain ⟨rfl, rfl⟩ := t4 hh
          have hh0 : ¬ ((h : Int) = 0) := by omega
          clear hbk t1 t2 t3 t4 t5 hC hT hvs hbe HPX HTX h1
          go_enter Tryd.func6, Tryd.ntmps6
          go_wp2_with (first
            | (go_at_call 24; with_reducible refine HLV.out.mono ?_; rintro e w1 ⟨rfl, H1⟩; have H1 := tHid H1)
            | (go_at_call 20; with_reducible refine (HPN.out _ H1.out).mono ?_; rintro e w2 ⟨rfl, H2⟩; have H2 := tHid (Nw.trans H1.out H2))
            | (go_at_call 16; with_reducible refine (HNU.out _ H2.out).mono ?_; rintro e w3 ⟨rfl, H3⟩; have H3 := tHid (Nw.trans H2.out H3))
            | (go_at_call 22; with_reducible refine (HPT.out _ H3.out).mono ?_; rintro e w4 ⟨rfl, H4⟩; have H4 := tHid (Nw.trans H3.out H4))
            | (go_at_call 18; with_reducible refine (HTS.out _ H4.out).mono ?_; rintro e w6 ⟨rfl, H6⟩; have H6 := tHid (Nw.trans H4.out H6)))
          first | exact HF.out _ H6.out | (go_ret; exact HF.out _ H6.out)
      · have r1d : decide (0 ≤ na) = false := decide_eq_false r1
        by_cases hh : h = 0
        · subst hh
          rw [hbk rfl] at HTX
          simp only at HTX
          clear hbk t4 t5 hC hT hvs hbe h1
          go_enter Tryd.func6, Tryd.ntmps6
          go_wp2_with (first
            | (go_at_call 24; with_reducible refine HLV.out.mono ?_; rintro e w1 ⟨rfl, H1⟩; have H1 := tHid H1)
            | (go_at_call 20; with_reducible refine (HPN.out _ H1.out).mono ?_; rintro e w2 ⟨rfl, H2⟩; have H2 := tHid (Nw.trans H1.out H2))
            | (go_at_call 16; with_reducible refine (HNU.out _ H2.out).mono ?_; rintro e w3 ⟨rfl, H3⟩; have H3 := tHid (Nw.trans H2.out H3))
            | (go_at_call 22; with_reducible refine (HPT.out _ H3.out).mono ?_; rintro e w4 ⟨rfl, H4⟩; have H4 := tHid (Nw.trans H3.out H4))
            | (go_at_call 18; with_reducible refine (HTS.out _ H4.out).mono ?_; rintro e w6 ⟨rfl, H6⟩; have H6 := tHid (Nw.trans H4.out H6))
            | (go_at_call 22; with_reducible refine (HPX.out _ H6.out).mono ?_; rintro e w7 ⟨rfl, H7⟩; have H7 := tHid (Nw.trans H6.out H7))
            | (go_at_call 18; with_reducible refine (HTX.out _ H7.out).mono ?_; rintro e w8 ⟨rfl, H8⟩; have H8 := tHid (Nw.trans H7.out H8)))
          first | exact HF.out _ H8.out | (go_ret; exact HF.out _ H8.out)
        · obtain ⟨rfl, rfl⟩ := t4 hh
          have hh0 : ¬ ((h : Int) = 0) := by omega
          clear hbk t1 t2 t3 t4 t5 hC hT hvs hbe HPX HTX h1
          go_enter Tryd.func6, Tryd.ntmps6
          go_wp2_with (first
            | (go_at_call 24; with_reducible refine HLV.out.mono ?_; rintro e w1 ⟨rfl, H1⟩; have H1 := tHid H1)
            | (go_at_call 20; with_reducible refine (HPN.out _ H1.out).mono ?_; rintro e w2 ⟨rfl, H2⟩; have H2 := tHid (Nw.trans H1.out H2))
            | (go_at_call 16; with_reducible refine (HNU.out _ H2.out).mono ?_; rintro e w3 ⟨rfl, H3⟩; have H3 := tHid (Nw.trans H2.out H3))
            | (go_at_call 22; with_reducible refine (HPT.out _ H3.out).mono ?_; rintro e w4 ⟨rfl, H4⟩; have H4 := tHid (Nw.trans H3.out H4))
            | (go_at_call 18; with_reducible refine (HTS.out _ H4.out).mono ?_; rintro e w6 ⟨rfl, H6⟩; have H6 := tHid (Nw.trans H4.out H6)))
          first | exact HF.out _ H6.out | (go_ret; exact HF.out _ H6.out)
end Go.Proofs.YtenkchhlaphocaaDoor

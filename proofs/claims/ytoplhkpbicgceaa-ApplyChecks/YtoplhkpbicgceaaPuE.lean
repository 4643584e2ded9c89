import Derived.Test.YtoplhkpbicgceaaPuD
namespace Go.Proofs.Ytoplhkpbicgceaa
open Go.RowKit
set_option linter.unusedVariables false
theorem stays_dec (p : Tx) : stays p = (decide (p = []) || decide (p = [46])) := by
  unfold stays
  by_cases a : p = []
  · subst a; decide
  · by_cases b : p = [46]
    · subst b; decide
    · rw [decide_eq_false a, decide_eq_false b, beq_eq_false_iff_ne.2 a, beq_eq_false_iff_ne.2 b]
set_option maxHeartbeats 8000000 in
set_option maxRecDepth 100000 in
theorem qleaves_loop (w : World) (a : Option Addr) (n c : Nat) (l : Tx) (hn : n ≤ 140737488351232) (hl : l.length ≤ 1048576) (h0 : ¬ l.head? = some 47) :
    Calls Try.prog 13 #[.slice a n c, .string (mk l)] w fun e w' => e = .returned (.bool (lvP n (pcs l))) ∧ Nw w w' := by
  obtain ⟨P, hP⟩ : ∃ P : Ending → World → Prop, P = fun e w' => e = .returned (.bool (lvP n (pcs l))) ∧ Nw w w' := ⟨_, rfl⟩
  rw [← hP]
  have HP : Hid (P = fun e w' => e = .returned (.bool (lvP n (pcs l))) ∧ Nw w w') := hP
  have hpl := pcs_len l
  have HC : Hid (Calls Try.prog 21 #[.string (mk l)] w fun e w' => ∃ g c, e = .returned (.slice (some ⟨g, 0, none⟩) (pcs l).length c) ∧ (pcs l).length ≤ c ∧ c < 9223372036854775808 ∧ Hid (OwR RS g (.slice (some ⟨g, 0, none⟩) (pcs l).length c) (pcs l) w' ∧ Nw w w')) := by
    show Calls _ _ _ _ _
    refine (qpieces_any w l hl).mono ?_
    rintro e w' ⟨g, c, rfl, h1, h2, h3⟩
    obtain ⟨c', e, q1, q2⟩ := h1.form
    have : c = c' := by
      generalize (pcs l).length = q at e
      cases e; rfl
    subst this
    exact ⟨g, c, rfl, q1, q2, h1, h2⟩
  obtain ⟨ps, hps⟩ : ∃ ps, ps = pcs l := ⟨_, rfl⟩
  rw [← hps] at HP HC hpl
  obtain ⟨N, hN⟩ : ∃ N, N = ps.length := ⟨_, rfl⟩
  have HN : Hid (N = ps.length) := hN
  rw [← hN] at HC hpl
  clear hP hN hps
  have hNb : N ≤ 1048577 := by omega
  -- the first byte
  have hfirst : (mk l).size = 0 ∨ (0 < (mk l).size ∧ ∃ x : Nat, ((x : Int) == 47) = false ∧ ∀ h : 0 < (mk l).size, ((mk l)[0]'h).toNat = x) := by
    cases l with
    | nil => exact .inl rfl
    | cons b r =>
      refine .inr ⟨by rw [mk_size]; simp, b.toNat, ?_, fun h => by rw [mk_get (b :: r) 0 (by simp) h]; rfl⟩
      rw [beq_eq_false_iff_ne]
      intro e
      apply h0
      have : b.toNat = 47 := by omega
      have : b = 47 := UInt8.toNat_inj.1 this
      rw [this]; rfl
  have hsl : (mk l).size ≤ 1048576 := by rw [mk_size]; exact hl
  have HX : Hid (∀ (D I : Nat) V g c, I ≤ N → OwR RS g (.slice (some ⟨g, 0, none⟩) N c) ps V → True) := fun _ _ _ _ _ _ _ => trivial
  clear HX h0 hl hpl
  generalize mk l = s at *
  have HFI : Hid (s.size = 0 ∨ (0 < s.size ∧ ∃ x : Nat, ((x : Int) == 47) = false ∧ ∀ h : 0 < s.size, (s[0]'h).toNat = x)) := hfirst
  clear hfirst
  go_enter Try.func13, Try.ntmps13
  go_upto_region 1 with fail
  go_cut [15] (fun v wx => v = .bool false ∧ wx = w)
  case first =>
    rcases HFI.out with e | ⟨e, x, hx, hg⟩
    · clear HFI HC HP HN
      have d0 : decide (0 < s.size) = false := by rw [e]; decide
      go_wp2_with fail
      go_meet
      exact ⟨rfl, rfl⟩
    · clear HFI HC HP HN
      have d0 : decide (0 < s.size) = true := decide_eq_true e
      have z1 : (0 : Int) < (s.size : Int) := by omega
      have d1 : decide ((0 : Int) < (s.size : Int)) = true := decide_eq_true z1
      go_wp2_with fail
      go_meet
      exact ⟨rfl, rfl⟩
  case rest =>
  obtain ⟨rfl, hwc⟩ := hcut
  subst hwc
  clear HFI
  go_wp2_with (first | (go_at_call 21; with_reducible refine HC.out.mono ?_; rintro e w1 ⟨g, cg, rfl, q1, q2, H1⟩))
  clear HC
  go_loopg [6, 7] N (fun kx d i wr => ∃ (I D : Nat), I ≤ N ∧ N - I ≤ kx ∧ D ≤ n + I ∧ d = .int .i64 D ∧ i = .int .i64 I ∧ Hid (Nw w1 wr ∧ lvP n ps = lvP D (ps.drop I)))
  case atStart => exact ⟨0, n, by omega, by omega, by omega, rfl, rfl, Fr.refl _ _, rfl⟩
  case round =>
    obtain ⟨I, D, hI, hkx, hD, rfl, rfl, HI⟩ := hrel
    obtain ⟨hNw, hE⟩ := HI.out
    by_cases hlt : I < N
    · have hlt' : I < ps.length := by have := HN.out; omega
      obtain ⟨g', o', e', _, hcell⟩ := rs_at (H1.out.1.nw hNw).anyS I hlt'
      injection e' with e'
      injection e' with e1 e2 _
      subst e1 e2
      rw [Nat.zero_add] at hcell
      rw [List.drop_eq_getElem_cons hlt', lvP] at hE
      have hs := stays_dec ps[I]
      have t1 := tx_eq ps[I] [46, 46]
      have t2 := tx_eq ps[I] []
      have t3 := tx_eq ps[I] [46]
      by_cases hu : ps[I] = [46, 46]
      · have hst : stays ps[I] = false := by rw [hu]; decide
        rw [hst, if_neg (by decide), if_pos hu] at hE
        rw [decide_eq_true hu] at t1
        by_cases hD0 : D = 0
        · rw [if_pos hD0] at hE
          have HF : Hid (P (.returned (.bool true)) wr) := by
            show P _ _
            rw [HP.out, hE]; exact ⟨rfl, H1.out.2.trans hNw⟩
          subst hD0
          clear HI HP HN hE hu hst hs t2 t3 hNw H1
          generalize mk ps[I] = y at *
          go_wp2_with fail
          exact HF.out
        · rw [if_neg hD0] at hE
          have HI2 := tHid (And.intro hNw hE)
          have hw : IntKind.i64.wrap ((D : Int) - 1) = ((D - 1 : Nat) : Int) := by rw [IntKind.wrap_i64]; omega
          have hD1 : ¬ (D : Int) = 0 := by omega
          obtain ⟨D1, hD1e⟩ : ∃ D1, D1 = D - 1 := ⟨_, rfl⟩
          have z1 : (D : Int) - 1 = (D1 : Int) := by omega
          have z2 : D1 ≤ n + (I + 1) := by omega
          rw [← hD1e] at hw HI2
          clear HI HP HN hE hu hst hs t2 t3 hNw H1 hD1e
          generalize mk ps[I] = y at *
          go_wp2_with fail
          go_roundg (N - (I + 1))
          case measure => omega
          case rel => exact ⟨I + 1, D1, by omega, by omega, z2, by first | rfl | (congr 1), by first | rfl | (congr 1), HI2⟩
      · rw [decide_eq_false hu] at t1
        rw [if_neg hu] at hE
        by_cases hst : stays ps[I] = true
        · rw [if_pos hst] at hE
          have HI2 := tHid (And.intro hNw hE)
          have z2 : D ≤ n + (I + 1) := by omega
          rw [hs] at hst
          cases ha : decide (ps[I] = []) with
          | true =>
            rw [ha] at t2
            clear HI HP HN hE hu hst hs t3 hNw H1 ha
            generalize mk ps[I] = y at *
            go_wp2_with fail
            go_roundg (N - (I + 1))
            case measure => omega
            case rel => exact ⟨I + 1, D, by omega, by omega, z2, by first | rfl | (congr 1), by first | rfl | (congr 1), HI2⟩
          | false =>
            rw [ha, Bool.false_or] at hst
            rw [ha] at t2
            rw [hst] at t3
            clear HI HP HN hE hu hst hs hNw H1 ha
            generalize mk ps[I] = y at *
            go_wp2_with fail
            go_roundg (N - (I + 1))
            case measure => omega
            case rel => exact ⟨I + 1, D, by omega, by omega, z2, by first | rfl | (congr 1), by first | rfl | (congr 1), HI2⟩
        · rw [if_neg hst] at hE
          have HI2 := tHid (And.intro hNw hE)
          rw [hs, Bool.or_eq_true, not_or] at hst
          rw [show decide (ps[I] = []) = false by simpa using hst.1] at t2
          rw [show decide (ps[I] = [46]) = false by simpa using hst.2] at t3
          have hw : IntKind.i64.wrap ((D : Int) + 1) = ((D + 1 : Nat) : Int) := by rw [IntKind.wrap_i64]; omega
          have z2 : D + 1 ≤ n + (I + 1) := by omega
          clear HI HP HN hE hu hst hs hNw H1
          generalize mk ps[I] = y at *
          go_wp2_with fail
          go_roundg (N - (I + 1))
          case measure => omega
          case rel => exact ⟨I + 1, D + 1, by omega, by omega, z2, by first | rfl | (congr 1), by first | rfl | (congr 1), HI2⟩
    · have HF : Hid (P (.returned (.bool false)) wr) := by
        show P _ _
        rw [HP.out, hE, List.drop_of_length_le (by have := HN.out; omega), lvP]; exact ⟨rfl, H1.out.2.trans hNw⟩
      clear HI HP HN hE hNw H1
      go_wp2_with fail
      exact HF.out
set_option maxHeartbeats 4000000 in
set_option maxRecDepth 100000 in
theorem qleaves_any (w : World) (a : Option Addr) (n c : Nat) (l : Tx) (hn : n ≤ 140737488351232) (hl : l.length ≤ 1048576) :
    Calls Try.prog 13 #[.slice a n c, .string (mk l)] w fun e w' => e = .returned (.bool (lvF n l)) ∧ Nw w w' := by
  by_cases h0 : l.head? = some 47
  · obtain ⟨P, hP⟩ : ∃ P : Ending → World → Prop, P = fun e w' => e = .returned (.bool (lvF n l)) ∧ Nw w w' := ⟨_, rfl⟩
    rw [← hP]
    have HF : Hid (P (.returned (.bool true)) w) := by
      show P _ _
      rw [hP]
      refine ⟨?_, Fr.refl _ _⟩
      unfold lvF; rw [decide_eq_true h0, Bool.true_or]
    have hne : 0 < l.length := by cases l with | nil => cases h0 | cons x r => simp
    have hg : ∀ h : 0 < (mk l).size, ((mk l)[0]'h).toNat = 47 := fun h => by
      rw [mk_get l 0 hne h]
      cases l with
      | nil => cases h0
      | cons x r => injection h0 with e; subst e; rfl
    have d1 : 0 < (mk l).size := by rw [mk_size]; exact hne
    have d2 : decide (0 < (mk l).size) = true := decide_eq_true d1
    have z1 : (0 : Int) < ((mk l).size : Int) := by omega
    have d3 : decide ((0 : Int) < ((mk l).size : Int)) = true := decide_eq_true z1
    have hsl : (mk l).size ≤ 1048576 := by rw [mk_size]; exact hl
    clear hP h0 hne hl
    generalize mk l = s at *
    go_enter Try.func13, Try.ntmps13
    go_wp2_with fail
    exact HF.out
  · refine (qleaves_loop w a n c l hn hl h0).mono ?_
    rintro e w' ⟨rfl, h⟩
    refine ⟨?_, h⟩
    unfold lvF; rw [decide_eq_false h0, Bool.false_or]
end Go.Proofs.Ytoplhkpbicgceaa

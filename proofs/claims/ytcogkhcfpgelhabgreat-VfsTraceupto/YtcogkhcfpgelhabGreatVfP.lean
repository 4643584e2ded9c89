import Derived.Test.YtcogkhcfpgelhabGreatVfO
namespace Go.Proofs.YtcogkhcfpgelhabGreat
open Go.RowKit
set_option linter.unusedVariables false
set_option maxRecDepth 100000
variable {fb mb : Nat} {ot : Option Nat} {L : Int → Lay} {h : Hx} {q : Int → Option Pn} {cnt : Nat} {T : List Ac} {w w' : World} {X : Nat → Prop}
/-- What Link answers. -/
def lnkE (q : Int → Option Pn) (d : Int) (s : Tx) (n : Int) : Int := if q n = none then 100 else if unfQ q [(d, s)] ≠ 0 then unfQ q [(d, s)] else if ((q d).bind (fun p => p.ents s)).isSome then 104 else if isDirQ q n then 106 else 0
def LnkO (fb mb : Nat) (ot : Option Nat) (L : Int → Lay) (h : Hx) (q : Int → Option Pn) (cnt : Nat) (T : List Ac) (d : Int) (s : Tx) (n : Int) (w : World) (e : Ending) (w' : World) : Prop :=
  (lnkE q d s n ≠ 0 ∧ e = .returned (.int .i64 (lnkE q d s n)) ∧ Nw w w') ∨
  (lnkE q d s n = 0 ∧ e = .returned (.int .i64 0) ∧ MutO fb mb ot L q h (entQ q d s n) cnt (T ++ [⟨4, d, s, n, 0, [], 0, 0⟩]) w w')
theorem option_none_iff {α : Type} (o : Option α) : o = none ∨ ∃ x, o = some x := by
  cases o with
  | none => exact .inl rfl
  | some x => exact .inr ⟨x, rfl⟩
set_option maxHeartbeats 8000000 in
theorem link_any (H : FsH fb mb ot L h q cnt T w) (hT : T.length ≤ 2000000000000) (d : Int) (hd64 : I64 d) (s : Tx) (hs : s.length ≤ 140737488351232) (n : Int) (hn64 : I64 n) (hzero : ∀ p n, q d = some p → p.ents s = some n → n ≠ 0) (hneb : ∀ p, q d = some p → p.ne ≤ 1000000000000000) (hlk : ∀ p, q n = some p → 0 ≤ p.links ∧ p.links ≤ 1000000000000000) :
    Calls Tryz.prog 28 #[.pointer (some ⟨fb, 0, none⟩), .int .i64 d, .string (mk s), .int .i64 n] w (LnkO fb mb ot L h q cnt T d s n w) := by
  obtain ⟨P, hP⟩ : ∃ P : Ending → World → Prop, P = LnkO fb mb ot L h q cnt T d s n w := ⟨_, rfl⟩
  rw [← hP]
  have HFE : Hid (∀ er V, er ≠ 0 → lnkE q d s n = er → Nw w V → P (.returned (.int .i64 er)) V) := fun er V h1 h2 hV => by
    rw [hP]
    subst h2
    exact .inl ⟨h1, rfl, hV⟩
  obtain ⟨V, hV⟩ : ∃ V, V = w.alloc (.cells #[.int .i64 d, .string (mk s)] 110) := ⟨_, rfl⟩
  have hN : Nw w V := by rw [hV]; exact (Fr.refl _ _).alloc _
  have HV := H.nw hN
  have HCI : Hid (∀ V', Nw V V' → V'.cell? ⟨w.heap.size, 0, none⟩ = some (.int .i64 d) ∧ V'.cell? ⟨w.heap.size, 1, none⟩ = some (.string (mk s))) := fun V' hV' => by
    constructor
    · refine hV'.cell ?_; rw [hV]; exact (rc (nh w _) 0 _ rfl).1
    · refine hV'.cell ?_; rw [hV]; exact (rc (nh w _) 1 _ rfl).1
  have HNw : Hid (∀ V', Nw V V' → Nw w V') := fun V' h' => hN.trans h'
  have hfl := H.cs.lt
  have hne0 : ¬ fb = w.heap.size := by omega
  have c0 := HV.cs.c0
  have HRE : Hid (lnkE q d s n = if q n = none then 100 else if unfQ q [(d, s)] ≠ 0 then unfQ q [(d, s)] else if ((q d).bind (fun p => p.ents s)).isSome then 104 else if isDirQ q n then 106 else 0) := rfl
  have HW1 := tHid hV
  rcases option_none_iff (q n) with hqn | ⟨pn, hqn⟩
  · have hl := HV.look_none hn64 hqn
    have e1 := HRE.out
    rw [if_pos hqn] at e1
    have HF := tHid (HFE.out _ V (by rw [e1]; decide) rfl hN)
    rw [e1] at HF
    clear H HV hP hN hzero hneb hlk hV HRE HFE HCI HNw e1
    generalize mk s = ss at *
    go_enter Tryz.func28, Tryz.ntmps28
    go_upto_region 2 with fail
    rw [← HW1.out]
    clear HW1
    go_wp2_with fail
    exact HF.out
  · have hl := HV.look_some hn64 hqn
    have HU : Hid (Calls Tryz.prog 54 #[.pointer (some ⟨fb, 0, none⟩), .slice (some ⟨V.heap.size, 0, none⟩) 1 1] (V.alloc (.cells #[.int .i64 d, .string (mk s)] 110)) fun e w4 => e = .returned (.int .i64 (unfQ q [(d, s)])) ∧ Hid (Nw V w4)) := by
      have hA : Nw V (V.alloc (.cells #[.int .i64 d, .string (mk s)] 110)) := (Fr.refl _ _).alloc _
      have := unfit_any (HV.nw hA) V.heap.size 0 [(d, s)] (rdp_one d s) (fun x hx => by rw [List.mem_singleton] at hx; subst hx; exact ⟨hd64, hs⟩) 1 (by simp) (by omega)
      exact this.mono (fun e w' hh => ⟨hh.1, hA.trans hh.2⟩)
    have HAt : Hid (∀ pd, q d = some pd → pd.kind = 1 → ∀ V', Nw V V' → Calls Tryz.prog 55 #[.pointer (some ⟨fb, 0, none⟩), .agg #[.int .i64 d, .string (mk s)]] V' fun e w' => e = .returned (.int .i64 ((pd.ents s).getD 0)) ∧ Hid (Nw V w')) := fun pd hd hk V' hV' => (at_any (HV.nw hV') d hd64 s hs hd hk).mono (fun e w' hh => ⟨hh.1, hV'.trans hh.2⟩)
    have HD : Hid (∀ V', Nw V V' → Calls Tryz.prog 44 #[.pointer (some ⟨fb, 0, none⟩), .int .i64 n] V' fun e w' => e = .returned (.bool (isDirQ q n)) ∧ V' = w') := fun V' h' => isDir_any (HV.nw h') n hn64
    have HEn : Hid (∀ pd, q d = some pd → pd.kind = 1 → pd.ents s = none → lnkE q d s n = 0 → isDirQ q n = false → ∀ V', Nw V V' → Calls Tryz.prog 56 #[.pointer (some ⟨fb, 0, none⟩), .agg #[.int .i64 d, .string (mk s)], .int .i64 n] V' fun e w3 => (∃ r, e = .returned r) ∧ Hid (Calls Tryz.prog 53 #[.pointer (some ⟨fb, 0, none⟩), .agg #[.int .i64 4, .int .i64 d, .string (mk s), .int .i64 n, .int .i64 0, .string ⟨#[]⟩, .int .i64 0, .int .i64 0]] w3 fun e w4 => (∃ r, e = .returned r) ∧ Hid (P (.returned (.int .i64 0)) w4))) := fun pd hd hk hf hr hnd V' h' => by
      have hdn : d ≠ n := fun e => by
        subst e
        unfold isDirQ at hnd
        rw [hd] at hnd
        simp [hk] at hnd
      refine (enter_any (HV.nw h') d n hd64 hn64 s hs hd hk hf (hneb pd hd) hqn hdn (hlk pn hqn)).mono ?_
      rintro e w3 ⟨hr3, H3, f3⟩
      refine ⟨hr3, ?_⟩
      refine Calls.mono (did_any H3 hT ⟨4, d, s, n, 0, [], 0, 0⟩) ?_
      rintro e w4 ⟨hr4, ot', H4, f4, ho⟩
      refine ⟨hr4, ?_⟩
      show P _ _
      rw [hP]
      refine .inr ⟨hr, rfl, ?_⟩
      refine MutO.of (X := fun k => k = (L d).eb ∨ k = (L n).ib) (w7 := w3) (fun k p hp => entQ_some hp) ((hN.any.trans h'.any).trans f3) (fun k hk2 => ?_) H4 f4 ho
      rcases hk2 with rfl | rfl
      · exact .inl (.inr (.inr (.inr ⟨d, pd, hd, .inr (.inl ⟨hk, rfl⟩)⟩)))
      · exact .inl (.inr (.inr (.inr ⟨n, pn, hqn, .inl rfl⟩)))
    have HQ1 : Hid (unfQ q [(d, s)] = 0 → ∃ pd, q d = some pd ∧ pd.kind = 1 ∧ nmOk s = true) := unfQ_one
    have HZ := tHid hzero
    obtain ⟨s0, s1⟩ := HCI.out V (Fr.refl _ _)
    have e1 := HRE.out
    rw [if_neg (by rw [hqn]; simp)] at e1
    have HRE2 := tHid e1
    clear H HV hP hN hzero hneb hlk hV HRE e1 hqn
    generalize lnkE q d s n = er at *
    generalize (L n).ib = nb at *
    go_enter Tryz.func28, Tryz.ntmps28
    go_upto_region 2 with fail
    rw [← HW1.out]
    clear HW1
    go_upto_region 5 with (first | (go_at_call 54; with_reducible refine HU.out.mono ?_; rintro e w4 ⟨rfl, H4⟩))
    obtain ⟨s04, s14⟩ := HCI.out w4 H4.out
    clear HU s0 s1 c0 hl
    by_cases hu : unfQ q [(d, s)] = 0
    · obtain ⟨pd, hd, hk, hnm⟩ := HQ1.out hu
      have HA := tHid (HAt.out pd hd hk w4 H4.out)
      have HE := tHid (HEn.out pd hd hk)
      have HZ1 : Hid (∀ n, pd.ents s = some n → n ≠ 0) := fun n hn => HZ.out pd n hd hn
      have e1 := HRE2.out
      rw [hu, hd] at e1
      simp only [ne_eq, not_true_eq_false, if_false, Option.bind_some] at e1
      have HRE3 := tHid e1
      rw [hu]
      clear e1 HRE2 HQ1 HAt HZ hu hd hk hnm HEn
      go_upto_region 7 with fail
      obtain ⟨oe, hoe⟩ : ∃ oe, pd.ents s = oe := ⟨_, rfl⟩
      rw [hoe] at HZ1 HA HE
      simp only [hoe] at HRE3
      clear hoe
      cases oe with
      | some y =>
        have e1 := HRE3.out
        simp only [Option.isSome_some, if_true] at e1
        have hy : y ≠ 0 := HZ1.out y (by first | trivial | rfl)
        have hyb : (y == 0) = false := by rw [beq_eq_false_iff_ne]; exact hy
        have HF : Hid (∀ V', Nw V V' → P (.returned (.int .i64 104)) V') := fun V' hV => by
          have := HFE.out er V' (by rw [e1]; decide) rfl (HNw.out _ hV)
          rw [e1] at this
          exact this
        simp only [Option.getD_some] at HA
        clear HZ1 HRE3 HFE HCI HNw HD HE e1
        go_wp2_with (first | (go_at_call 55; with_reducible refine HA.out.mono ?_; rintro e w6 ⟨rfl, H6⟩))
        exact HF.out _ H6.out
      | none =>
        have e1 := HRE3.out
        simp only [Option.isSome_none, Bool.false_eq_true, if_false] at e1
        have HRE4 := tHid e1
        simp only [Option.getD_none] at HA
        clear e1 HRE3 HZ1
        go_upto_region 9 with (first | (go_at_call 55; with_reducible refine HA.out.mono ?_; rintro e w6 ⟨rfl, H6⟩))
        obtain ⟨s06, s16⟩ := HCI.out w6 H6.out
        have HD6 := tHid (HD.out w6 H6.out)
        clear HA HD s04 s14
        obtain ⟨Bd, hBd⟩ : ∃ Bd, isDirQ q n = Bd := ⟨_, rfl⟩
        rw [hBd] at HD6
        simp only [hBd] at HRE4 HE
        clear hBd
        cases Bd with
        | true =>
          have e1 := HRE4.out
          rw [if_pos rfl] at e1
          have HF := tHid (HFE.out er w6 (by rw [e1]; decide) rfl (HNw.out _ H6.out))
          rw [e1] at HF
          clear HRE4 HFE HCI HNw HE e1
          go_wp2_with (first | (go_at_call 44; with_reducible refine HD6.out.mono ?_; rintro e w5 ⟨rfl, rfl⟩))
          exact HF.out
        | false =>
          have e1 := HRE4.out
          rw [if_neg (by decide)] at e1
          have HE6 := tHid (HE.out (by first | trivial | rfl) e1 (by first | trivial | rfl) w6 H6.out)
          clear HRE4 HFE HCI HNw HE e1
          generalize mk s = ss at *
          go_wp2_with (first | (go_at_call 44; with_reducible refine HD6.out.mono ?_; rintro e w5 ⟨rfl, rfl⟩) | (go_at_call 56; with_reducible refine HE6.out.mono ?_; rintro e w3 ⟨⟨r3, rfl⟩, HDd⟩) | (go_at_call 53; with_reducible refine HDd.out.mono ?_; rintro e w4 ⟨⟨r4, rfl⟩, HF⟩))
          exact HF.out
    · have e1 := HRE2.out
      rw [if_pos hu] at e1
      have HF := tHid (HFE.out er w4 (by rw [e1]; exact hu) rfl (HNw.out _ H4.out))
      rw [e1] at HF
      have hub : (unfQ q [(d, s)] == 0) = false := by rw [beq_eq_false_iff_ne]; exact hu
      clear HRE2 HFE HCI HNw HQ1 HAt HZ HD HEn e1
      generalize unfQ q [(d, s)] = u at *
      go_wp2_with fail
      exact HF.out
end Go.Proofs.YtcogkhcfpgelhabGreat

import Derived.Test.YtoplhkpbicgceaaPvC
import Derived.Test.YtoplhkpbicgceaaPuE
namespace Go.Proofs.Ytoplhkpbicgceaa
open Go.RowKit
set_option linter.unusedVariables false
theorem ow_len {g : Nat} {a : Option Addr} {n c : Nat} {l : List Tx} {V : World} (h : OwR RS g (.slice a n c) l V) : l.length = n ∧ n ≤ c ∧ c < 9223372036854775808 := by
  obtain ⟨c', e, q1, q2⟩ := h.form
  generalize hq : l.length = q at e q1
  cases e
  exact ⟨rfl, q1, q2⟩
/-- The document's loop over the pieces of a name. -/
theorem take_all {α : Type} (ps : List α) (I : Nat) (h : ps.length ≤ I) : ps.take I = ps := List.take_of_length_le h
set_option maxHeartbeats 16000000 in
set_option maxRecDepth 100000 in
theorem qsplit_loop (w : World) (l : Tx) (hl : l.length ≤ 4096) (b1 : (0 : UInt8) ∉ l) (b2 : ¬ l.head? = some 47) :
    Calls Try.prog 9 #[.string (mk l)] w fun e w' => ∃ a n c, e = .returned (.tuple #[.slice a n c, .int .i64 ((splE l : Nat) : Int)]) ∧ SpA w l a n c w' := by
  obtain ⟨P, hP⟩ : ∃ P : Ending → World → Prop, P = fun e w' => ∃ a n c, e = .returned (.tuple #[.slice a n c, .int .i64 ((splE l : Nat) : Int)]) ∧ SpA w l a n c w' := ⟨_, rfl⟩
  rw [← hP]
  have HBAD : Hid (∀ (k : Nat) (z : Int), splE l = k → k ≠ 0 → (k : Int) = z → ∀ V, Nw w V → P (.returned (.tuple #[.slice none 0 0, .int .i64 z])) V) := fun k z hk h0 hz V hV => by
    rw [hP]; exact ⟨none, 0, 0, by rw [hk, hz], SpA.none (by rw [hk]; exact h0) hV⟩
  have HOK : Hid (∀ g n c V, splE l = 0 → Nw w V → OwR RS g (.slice (some ⟨g, 0, none⟩) n c) (cps l) V → w.heap.size ≤ g → P (.returned (.tuple #[.slice (some ⟨g, 0, none⟩) n c, .int .i64 0])) V) := fun g n c V h0 hV h2 h3 => by
    rw [hP]
    refine ⟨some ⟨g, 0, none⟩, n, c, by rw [h0]; rfl, some g, ?_, fun g' hg => by injection hg with hg; omega, hV⟩
    unfold splF; rw [if_pos h0]; exact h2
  have HE : Hid (splE l = if ([46, 46] : Tx) ∈ pcs l then 92 else if cps l = [] then 90 else if ∃ p ∈ cps l, 255 < p.length then 94 else if 256 < (cps l).length then 95 else 0) := by
    show _ = _
    unfold splE; rw [if_neg (by omega), if_neg b1, if_neg b2]
  have HH : Hid (∀ V, Calls Try.prog 20 #[.string (mk l), .int .u8 0] V fun e w' => e = .returned (.bool false) ∧ V = w') := fun V => by
    have := qhas_any V l 0 0 rfl (by omega)
    rw [decide_eq_false b1] at this
    exact this
  obtain ⟨hp1, hp2⟩ := cps_len l hl
  have HC : Hid (Calls Try.prog 21 #[.string (mk l)] w fun e w' => ∃ g c, e = .returned (.slice (some ⟨g, 0, none⟩) (pcs l).length c) ∧ (pcs l).length ≤ c ∧ c < 9223372036854775808 ∧ Hid (OwR RS g (.slice (some ⟨g, 0, none⟩) (pcs l).length c) (pcs l) w' ∧ Nw w w')) := by
    show Calls _ _ _ _ _
    refine (qpieces_any w l (by omega)).mono ?_
    rintro e w' ⟨g, c, rfl, h1, h2, h3⟩
    exact ⟨g, c, rfl, (ow_len h1).2.1, (ow_len h1).2.2, h1, h2⟩
  have hfirst : (mk l).size = 0 ∨ (0 < (mk l).size ∧ ∃ x : Nat, ((x : Int) == 47) = false ∧ ∀ h : 0 < (mk l).size, ((mk l)[0]'h).toNat = x) := by
    cases l with
    | nil => exact .inl rfl
    | cons b r =>
      refine .inr ⟨by rw [mk_size]; simp, b.toNat, ?_, fun h => by rw [mk_get (b :: r) 0 (by simp) h]; rfl⟩
      rw [beq_eq_false_iff_ne]
      intro e
      apply b2
      have : b.toNat = 47 := by omega
      have : b = 47 := UInt8.toNat_inj.1 this
      rw [this]; rfl
  have HFI := tHid hfirst
  have z1 : ¬ 4096 < (mk l).size := by rw [mk_size]; omega
  have z2 : ¬ (4096 : Int) < ((mk l).size : Int) := by rw [mk_size]; omega
  have z3 : (mk l).size ≤ 4096 := by rw [mk_size]; omega
  have HLL : Hid (l.length ≤ 4096) := hl
  clear hfirst hP b1 b2 hl
  obtain ⟨ps, hps⟩ : ∃ ps, ps = pcs l := ⟨_, rfl⟩
  have HCP : Hid (cps l = ps.filter ns) := by show _ = _; rw [hps]; rfl
  rw [← hps] at HC HE hp1
  obtain ⟨N, hN⟩ : ∃ N, N = ps.length := ⟨_, rfl⟩
  have HN : Hid (N = ps.length) := hN
  rw [← hN] at HC hp1
  clear hN hps
  generalize mk l = s at *
  go_enter Try.func9, Try.ntmps9
  go_upto_region 5 with (first | (go_at_call 20; with_reducible refine (HH.out _).mono ?_; rintro e w2 ⟨rfl, hw⟩; (subst hw)))
  go_cut [20] (fun v wx => v = .bool false ∧ wx = w)
  case first =>
    rcases HFI.out with e | ⟨e, x, hx, hg⟩
    · clear HFI HC HN HE HBAD HOK HCP
      have d0 : decide (0 < s.size) = false := by rw [e]; decide
      go_wp2_with fail
      go_meet
      exact ⟨rfl, rfl⟩
    · clear HFI HC HN HE HBAD HOK HCP
      have d0 : decide (0 < s.size) = true := decide_eq_true e
      have z1 : (0 : Int) < (s.size : Int) := by omega
      have d1 : decide ((0 : Int) < (s.size : Int)) = true := decide_eq_true z1
      go_wp2_with fail
      go_meet
      exact ⟨rfl, rfl⟩
  case rest =>
  obtain ⟨rfl, hwc⟩ := hcut
  subst hwc
  clear HFI HH
  go_wp2_with (first | (go_at_call 21; with_reducible refine HC.out.mono ?_; rintro e w1 ⟨gp, cp, rfl, q1, q2, H1⟩))
  clear HC
  have HS := tHid (QsI.start ps w1)
  go_loopg [5, 6, 7] N (fun kx v b i wr => ∃ (I g n c : Nat) (B : Bool), I ≤ N ∧ N - I ≤ kx ∧ v = .slice (some ⟨g, 0, none⟩) n c ∧ b = .bool B ∧ i = .int .i64 I ∧ n ≤ c ∧ c < 9223372036854775808 ∧ n ≤ I ∧ Hid (QsI ps w1 I g n c B wr))
  case atStart => exact ⟨0, w1.heap.size, 0, 0, false, by omega, by omega, rfl, rfl, rfl, by omega, by omega, by omega, HS⟩
  case round =>
    obtain ⟨I, g, n, c, B, hI, hkx, rfl, rfl, rfl, hnc, hc63, hnI, HI⟩ := hrel
    clear HS
    have hN1 : Nw w1 wr := HI.out.2.2.2.1
    have hNl := HN.out
    by_cases hlt : I < N
    · have hlt' : I < ps.length := by omega
      obtain ⟨g', o', e', _, hcell⟩ := rs_at (H1.out.1.nw hN1).anyS I hlt'
      injection e' with e'
      injection e' with e1 e2 _
      subst e1 e2
      rw [Nat.zero_add] at hcell
      have hs := stays_dec ps[I]
      have t1 := tx_eq ps[I] [46, 46]
      have t2 := tx_eq ps[I] []
      have t3 := tx_eq ps[I] [46]
      by_cases hu : ps[I] = [46, 46]
      · rw [decide_eq_true hu] at t1
        have hE := HE.out
        rw [if_pos (by rw [← hu]; exact List.getElem_mem hlt')] at hE
        have HF : Hid (P (.returned (.tuple #[.slice none 0 0, .int .i64 92])) wr) := HBAD.out 92 92 hE (by decide) rfl _ (H1.out.2.trans hN1)
        clear HI HN HE HBAD HOK HCP hE hu hs t2 t3 H1 hNl hN1
        generalize mk ps[I] = y at *
        go_wp2_with fail
        exact HF.out
      · rw [decide_eq_false hu] at t1
        by_cases hst : stays ps[I] = true
        · have HI2 := tHid (HI.out.skip hlt' hst)
          rw [hs] at hst
          cases ha : decide (ps[I] = []) with
          | true =>
            rw [ha] at t2
            clear HI HN HE HBAD HOK HCP hu hst hs t3 H1 ha hNl hN1
            generalize mk ps[I] = y at *
            go_wp2_with fail
            go_roundg (N - (I + 1))
            case measure => omega
            case rel => exact ⟨I + 1, g, n, c, B, by omega, by omega, rfl, rfl, by first | rfl | (congr 1), hnc, hc63, by omega, HI2⟩
          | false =>
            rw [ha, Bool.false_or] at hst
            rw [ha] at t2
            rw [hst] at t3
            clear HI HN HE HBAD HOK HCP hu hst hs H1 ha hNl hN1
            generalize mk ps[I] = y at *
            go_wp2_with fail
            go_roundg (N - (I + 1))
            case measure => omega
            case rel => exact ⟨I + 1, g, n, c, B, by omega, by omega, rfl, rfl, by first | rfl | (congr 1), hnc, hc63, by omega, HI2⟩
        · obtain ⟨g2, c2, W, HA, HI2, y1, y2, hFr, hn5⟩ := HI.out.push hlt' (by omega) (by simpa using hst) hu
          have hgg : gp ≠ g := fun e => by
            have h1 := HI.out.2.2.1
            have h2 := H1.out.1.lt
            omega
          have hcW : W.cell? ⟨gp, I, none⟩ = some (.string (mk ps[I])) := hFr.cellv hcell hgg
          rw [hs, Bool.or_eq_true, not_or] at hst
          rw [show decide (ps[I] = []) = false by simpa using hst.1] at t2
          rw [show decide (ps[I] = [46]) = false by simpa using hst.2] at t3
          have hcA : (wr.alloc (.cells #[.string (mk ps[I])] 9)).cell? ⟨gp, I, none⟩ = some (.string (mk ps[I])) := (Fr.refl (fun _ => False) wr).alloc _ |>.cellv hcell (fun h => h)
          have hsz := mk_size ps[I]
          have hdc : decide (255 < ps[I].length) = decide ((255 : Int) < ((mk ps[I]).size : Int)) := by
            rw [hsz]; apply decide_eq_decide.2; omega
          rw [hdc] at HI2
          have hzb : (mk ps[I]).size ≤ 9223372036854775807 := by
            rw [hsz]
            have h1 := HCP.out
            have hm : ps[I] ∈ cps l := by
              rw [h1, List.mem_filter]
              refine ⟨List.getElem_mem hlt', ?_⟩
              unfold ns
              rw [hs]
              simp [hst.1, hst.2]
            have := (cps_mem hm).1
            have h3 := tot_mem this
            rw [pcs_tot] at h3
            have h4 : l.length ≤ 4096 := HLL.out
            omega
          clear HI HN HE HBAD HOK HCP hu hst hs H1 hNl hN1 hFr hgg hsz hdc
          generalize mk ps[I] = y at *
          cases B with
          | true =>
            rw [Bool.true_or] at HI2
            go_wp2_with (first
              | (at_builtin; refine Lib.wpList_append_run _ rfl _ _ 38 38 rfl (.slice (some ⟨g, 0, none⟩) n c) (.slice (some ⟨wr.heap.size, 0, none⟩) 1 1) (by simp [Act.eval]) (by simp [Act.eval]) _ _ (HA.out _) ?_))
            go_roundg (N - (I + 1))
            case measure => omega
            case rel => exact ⟨I + 1, g2, n + 1, c2, true, by omega, by omega, rfl, rfl, by first | rfl | (congr 1), y1, y2, by omega, HI2⟩
          | false =>
            rw [Bool.false_or] at HI2
            go_wp2_with (first
              | (at_builtin; refine Lib.wpList_append_run _ rfl _ _ 38 38 rfl (.slice (some ⟨g, 0, none⟩) n c) (.slice (some ⟨wr.heap.size, 0, none⟩) 1 1) (by simp [Act.eval]) (by simp [Act.eval]) _ _ (HA.out _) ?_))
            go_roundg (N - (I + 1))
            case measure => omega
            case rel => exact ⟨I + 1, g2, n + 1, c2, decide ((255 : Int) < (y.size : Int)), by omega, by omega, rfl, rfl, by first | rfl | (congr 1), y1, y2, by omega, HI2⟩
    · obtain ⟨h1, h2, h3, h4, h5, h6⟩ := HI.out
      rw [take_all ps I (by omega), ← HCP.out] at h1 h2 h6
      rw [take_all ps I (by omega)] at h5
      have hNw := H1.out.2.trans h4
      have hE := HE.out
      rw [if_neg h5] at hE
      by_cases b4 : cps l = []
      · rw [if_pos b4] at hE
        have HF : Hid (P (.returned (.tuple #[.slice none 0 0, .int .i64 90])) wr) := HBAD.out 90 90 hE (by decide) rfl _ hNw
        rw [b4] at h2
        have hn0 : n = 0 := h2.symm
        subst hn0
        clear HI HN HE HBAD HOK HCP hE H1 hNl hN1 h1 h2 h3 h4 h5 h6 hNw b4
        go_wp2_with fail
        exact HF.out
      rw [if_neg b4] at hE
      have hlen : 0 < (cps l).length := List.length_pos_iff.2 b4
      have hn0 : ¬ (n : Int) = 0 := by omega
      cases B with
      | true =>
        rw [if_pos ((tlF_iff _).1 h6.symm)] at hE
        have HF : Hid (P (.returned (.tuple #[.slice none 0 0, .int .i64 94])) wr) := HBAD.out 94 94 hE (by decide) rfl _ hNw
        clear HI HN HE HBAD HOK HCP hE H1 hNl hN1 h1 h2 h3 h4 h5 h6 hNw b4 hlen
        go_wp2_with fail
        exact HF.out
      | false =>
        rw [if_neg (fun h => by rw [(tlF_iff _).2 h] at h6; cases h6)] at hE
        by_cases b6 : 256 < n
        · rw [if_pos (by omega)] at hE
          have HF : Hid (P (.returned (.tuple #[.slice none 0 0, .int .i64 95])) wr) := HBAD.out 95 95 hE (by decide) rfl _ hNw
          have y1 : (256 : Int) < (n : Int) := by omega
          clear HI HN HE HBAD HOK HCP hE H1 hNl hN1 h1 h2 h3 h4 h5 h6 hNw b4 hlen
          go_wp2_with fail
          exact HF.out
        · rw [if_neg (by omega)] at hE
          have HF := tHid (HOK.out g n c wr hE hNw h1 (Nat.le_trans H1.out.2.size h3))
          have y1 : ¬ (256 : Int) < (n : Int) := by omega
          clear HI HN HE HBAD HOK HCP hE H1 hNl hN1 h1 h2 h3 h4 h5 h6 hNw b4 hlen
          go_wp2_with fail
          exact HF.out
set_option maxHeartbeats 4000000 in
set_option maxRecDepth 100000 in
theorem qsplit_any (w : World) (l : Tx) (hl : l.length ≤ 140737488351232) :
    Calls Try.prog 9 #[.string (mk l)] w fun e w' => ∃ a n c, e = .returned (.tuple #[.slice a n c, .int .i64 ((splE l : Nat) : Int)]) ∧ SpA w l a n c w' := by
  by_cases h1 : 4096 < l.length
  · obtain ⟨P, hP⟩ : ∃ P : Ending → World → Prop, P = fun e w' => ∃ a n c, e = .returned (.tuple #[.slice a n c, .int .i64 ((splE l : Nat) : Int)]) ∧ SpA w l a n c w' := ⟨_, rfl⟩
    rw [← hP]
    have hE : splE l = 2 := by unfold splE; rw [if_pos h1]
    have HF : Hid (P (.returned (.tuple #[.slice none 0 0, .int .i64 2])) w) := by
      show P _ _
      rw [hP]; exact ⟨none, 0, 0, by rw [hE]; rfl, SpA.none (by rw [hE]; decide) (Fr.refl _ _)⟩
    have hsz := mk_size l
    have z1 : 4096 < (mk l).size := by omega
    have z2 : (4096 : Int) < ((mk l).size : Int) := by omega
    have z3 : (mk l).size ≤ 140737488351232 := by omega
    clear hP hE h1 hsz hl
    generalize mk l = s at *
    go_enter Try.func9, Try.ntmps9
    go_wp2_with fail
    exact HF.out
  by_cases b1 : (0 : UInt8) ∈ l
  · obtain ⟨P, hP⟩ : ∃ P : Ending → World → Prop, P = fun e w' => ∃ a n c, e = .returned (.tuple #[.slice a n c, .int .i64 ((splE l : Nat) : Int)]) ∧ SpA w l a n c w' := ⟨_, rfl⟩
    rw [← hP]
    have hE : splE l = 93 := by unfold splE; rw [if_neg h1, if_pos b1]
    have HF : Hid (P (.returned (.tuple #[.slice none 0 0, .int .i64 93])) w) := by
      show P _ _
      rw [hP]; exact ⟨none, 0, 0, by rw [hE]; rfl, SpA.none (by rw [hE]; decide) (Fr.refl _ _)⟩
    have HH : Hid (∀ V, Calls Try.prog 20 #[.string (mk l), .int .u8 0] V fun e w' => e = .returned (.bool true) ∧ V = w') := fun V => by
      have := qhas_any V l 0 0 rfl hl
      rw [decide_eq_true b1] at this
      exact this
    have hsz := mk_size l
    have z1 : ¬ 4096 < (mk l).size := by omega
    have z2 : ¬ (4096 : Int) < ((mk l).size : Int) := by omega
    have z3 : (mk l).size ≤ 140737488351232 := by omega
    clear hP hE h1 hsz hl b1
    generalize mk l = s at *
    go_enter Try.func9, Try.ntmps9
    go_wp2_with (first | (go_at_call 20; with_reducible refine (HH.out _).mono ?_; rintro e w2 ⟨rfl, hw⟩; (subst hw)))
    exact HF.out
  by_cases b2 : l.head? = some 47
  · obtain ⟨P, hP⟩ : ∃ P : Ending → World → Prop, P = fun e w' => ∃ a n c, e = .returned (.tuple #[.slice a n c, .int .i64 ((splE l : Nat) : Int)]) ∧ SpA w l a n c w' := ⟨_, rfl⟩
    rw [← hP]
    have hE : splE l = 91 := by unfold splE; rw [if_neg h1, if_neg b1, if_pos b2]
    have HF : Hid (P (.returned (.tuple #[.slice none 0 0, .int .i64 91])) w) := by
      show P _ _
      rw [hP]; exact ⟨none, 0, 0, by rw [hE]; rfl, SpA.none (by rw [hE]; decide) (Fr.refl _ _)⟩
    have HH : Hid (∀ V, Calls Try.prog 20 #[.string (mk l), .int .u8 0] V fun e w' => e = .returned (.bool false) ∧ V = w') := fun V => by
      have := qhas_any V l 0 0 rfl hl
      rw [decide_eq_false b1] at this
      exact this
    have hne : 0 < l.length := by cases l with | nil => cases b2 | cons x r => simp
    have hg : ∀ h : 0 < (mk l).size, ((mk l)[0]'h).toNat = 47 := fun h => by
      rw [mk_get l 0 hne h]
      cases l with
      | nil => cases b2
      | cons x r => injection b2 with e; subst e; rfl
    have hsz := mk_size l
    have d1 : 0 < (mk l).size := by omega
    have d2 : decide (0 < (mk l).size) = true := decide_eq_true d1
    have d3 : decide ((0 : Int) < ((mk l).size : Int)) = true := decide_eq_true (by omega)
    have d4 : (0 : Int) < ((mk l).size : Int) := by omega
    have z1 : ¬ 4096 < (mk l).size := by omega
    have z2 : ¬ (4096 : Int) < ((mk l).size : Int) := by omega
    have z3 : (mk l).size ≤ 140737488351232 := by omega
    clear hP hE h1 hsz hl b1 b2 hne
    generalize mk l = s at *
    go_enter Try.func9, Try.ntmps9
    go_wp2_with (first | (go_at_call 20; with_reducible refine (HH.out _).mono ?_; rintro e w2 ⟨rfl, hw⟩; (subst hw)))
    exact HF.out
  · exact qsplit_loop w l (by omega) b1 b2
end Go.Proofs.Ytoplhkpbicgceaa

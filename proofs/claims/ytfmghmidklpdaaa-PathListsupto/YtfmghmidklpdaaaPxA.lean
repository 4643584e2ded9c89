import Derived.Test.YtfmghmidklpdaaaPwD
namespace Go.Proofs.Ytfmghmidklpdaaa
open Go.RowKit
set_option linter.unusedVariables false
/-! ### Clean, and what is written over -/
theorem SpA.len {w w' : World} {l : Tx} {a : Option Addr} {n c : Nat} (h : SpA w l a n c w') : (splF l).1.length = n ∧ n ≤ c ∧ c < 9223372036854775808 := by
  obtain ⟨og, h1, _⟩ := h
  exact og_len h1
theorem splF_ok {l : Tx} (h : splE l = 0) : (splF l).1 = cps l := by unfold splF; rw [if_pos h]
theorem splF_bad {l : Tx} (h : splE l ≠ 0) : (splF l).1 = [] := by unfold splF; rw [if_neg h]
theorem spl_small (l : Tx) : ∀ p ∈ (splF l).1, p.length ≤ 255 := by
  intro p hp
  by_cases h : splE l = 0
  · rw [splF_ok h] at hp
    exact ((splE_zero l).1 h).2.2.2.2.2.1 p hp
  · rw [splF_bad h] at hp; cases hp
theorem spl_few (l : Tx) : (splF l).1.length ≤ 256 := by
  by_cases h : splE l = 0
  · rw [splF_ok h]; exact ((splE_zero l).1 h).2.2.2.2.2.2
  · rw [splF_bad h]; simp
set_option maxHeartbeats 4000000 in
set_option maxRecDepth 100000 in
theorem pclean_any (w : World) (l : Tx) (hl : l.length ≤ 140737488351232) :
    Calls Try.prog 11 #[.string (mk l)] w fun e w' => e = .returned (.tuple #[.string (mk (clnF l).1), .int .i64 ((splE l : Nat) : Int)]) ∧ Nw w w' := by
  obtain ⟨P, hP⟩ : ∃ P : Ending → World → Prop, P = fun e w' => e = .returned (.tuple #[.string (mk (clnF l).1), .int .i64 ((splE l : Nat) : Int)]) ∧ Nw w w' := ⟨_, rfl⟩
  rw [← hP]
  by_cases h : splE l = 0
  · have HC : Hid (Calls Try.prog 9 #[.string (mk l)] w fun e w' => ∃ a n c, e = .returned (.tuple #[.slice a n c, .int .i64 0]) ∧ Hid (Calls Try.prog 15 #[.slice a n c] w' fun e w'' => e = .returned (.tuple #[.string (mk (jn (cps l))), .int .i64 0]) ∧ Hid (Nw w w''))) := by
      show Calls _ _ _ _ _
      refine (psplit_any w l hl).mono ?_
      rintro e w' ⟨a, n, c, rfl, hS⟩
      refine ⟨a, n, c, by rw [h]; rfl, ?_⟩
      show Calls _ _ _ _ _
      obtain ⟨og, h1, h2, h3⟩ := hS
      rw [splF_ok h] at h1
      have hsm := spl_small l
      rw [splF_ok h] at hsm
      have hfw := spl_few l
      rw [splF_ok h] at hfw
      refine (pjoin_any w' _ (cps l) (h1.slr rsOk).any (fun p hp => by have := hsm p hp; omega) (by omega)).mono ?_
      rintro e w'' ⟨rfl, k⟩
      refine ⟨?_, h3.trans k⟩
      have hf := spl_ft h
      unfold joinF
      rw [if_pos hf, hf]; rfl
    have HF : Hid (∀ V, Nw w V → P (.returned (.tuple #[.string (mk (jn (cps l))), .int .i64 0])) V) := fun V hV => by
      rw [hP, cln_ok h, h]; exact ⟨rfl, hV⟩
    clear hP h hl
    generalize mk (jn (cps l)) = s2 at *
    generalize mk l = s at *
    go_enter Try.func11, Try.ntmps11
    go_wp2_with (first
      | (go_at_call 9; with_reducible refine HC.out.mono ?_; rintro e w1 ⟨a, n, c, rfl, H1⟩)
      | (go_at_call 15; with_reducible refine H1.out.mono ?_; rintro e w2 ⟨rfl, H2⟩))
    exact HF.out _ H2.out
  · have HC : Hid (Calls Try.prog 9 #[.string (mk l)] w fun e w' => ∃ a n c, e = .returned (.tuple #[.slice a n c, .int .i64 ((splE l : Nat) : Int)]) ∧ Hid (Nw w w')) := by
      show Calls _ _ _ _ _
      refine (psplit_any w l hl).mono ?_
      rintro e w' ⟨a, n, c, rfl, og, h1, h2, h3⟩
      exact ⟨a, n, c, rfl, h3⟩
    have HF : Hid (∀ V, Nw w V → P (.returned (.tuple #[.string ⟨#[]⟩, .int .i64 ((splE l : Nat) : Int)])) V) := fun V hV => by
      rw [hP, cln_bad h]; exact ⟨rfl, hV⟩
    have hne : (((splE l : Nat) : Int) == 0) = false := by rw [beq_eq_false_iff_ne]; omega
    have hne2 : ¬ ((splE l : Nat) : Int) = 0 := by omega
    clear hP h hl
    generalize splE l = y at *
    generalize mk l = s at *
    go_enter Try.func11, Try.ntmps11
    go_wp2_with (first
      | (go_at_call 9; with_reducible refine HC.out.mono ?_; rintro e w1 ⟨a, n, c, rfl, H1⟩))
    exact HF.out _ H1.out
set_option maxHeartbeats 4000000 in
set_option maxRecDepth 100000 in
theorem qclean_any (w : World) (l : Tx) (hl : l.length ≤ 140737488351232) :
    Calls Try.prog 12 #[.string (mk l)] w fun e w' => e = .returned (.tuple #[.string (mk (clnF l).1), .int .i64 ((splE l : Nat) : Int)]) ∧ Nw w w' := by
  obtain ⟨P, hP⟩ : ∃ P : Ending → World → Prop, P = fun e w' => e = .returned (.tuple #[.string (mk (clnF l).1), .int .i64 ((splE l : Nat) : Int)]) ∧ Nw w w' := ⟨_, rfl⟩
  rw [← hP]
  by_cases h : splE l = 0
  · have HC : Hid (Calls Try.prog 10 #[.string (mk l)] w fun e w' => ∃ a n c, e = .returned (.tuple #[.slice a n c, .int .i64 0]) ∧ Hid (Calls Try.prog 16 #[.slice a n c] w' fun e w'' => e = .returned (.tuple #[.string (mk (jn (cps l))), .int .i64 0]) ∧ Hid (Nw w w''))) := by
      show Calls _ _ _ _ _
      refine (qsplit_any w l hl).mono ?_
      rintro e w' ⟨a, n, c, rfl, hS⟩
      refine ⟨a, n, c, by rw [h]; rfl, ?_⟩
      show Calls _ _ _ _ _
      obtain ⟨og, h1, h2, h3⟩ := hS
      rw [splF_ok h] at h1
      have hsm := spl_small l
      rw [splF_ok h] at hsm
      have hfw := spl_few l
      rw [splF_ok h] at hfw
      refine (qjoin_any w' _ (cps l) (h1.slr rsOk).any (fun p hp => by have := hsm p hp; omega) (by omega)).mono ?_
      rintro e w'' ⟨rfl, k⟩
      refine ⟨?_, h3.trans k⟩
      have hf := spl_ft h
      unfold joinF
      rw [if_pos hf, hf]; rfl
    have HF : Hid (∀ V, Nw w V → P (.returned (.tuple #[.string (mk (jn (cps l))), .int .i64 0])) V) := fun V hV => by
      rw [hP, cln_ok h, h]; exact ⟨rfl, hV⟩
    clear hP h hl
    generalize mk (jn (cps l)) = s2 at *
    generalize mk l = s at *
    go_enter Try.func12, Try.ntmps12
    go_wp2_with (first
      | (go_at_call 10; with_reducible refine HC.out.mono ?_; rintro e w1 ⟨a, n, c, rfl, H1⟩)
      | (go_at_call 16; with_reducible refine H1.out.mono ?_; rintro e w2 ⟨rfl, H2⟩))
    exact HF.out _ H2.out
  · have HC : Hid (Calls Try.prog 10 #[.string (mk l)] w fun e w' => ∃ a n c, e = .returned (.tuple #[.slice a n c, .int .i64 ((splE l : Nat) : Int)]) ∧ Hid (Nw w w')) := by
      show Calls _ _ _ _ _
      refine (qsplit_any w l hl).mono ?_
      rintro e w' ⟨a, n, c, rfl, og, h1, h2, h3⟩
      exact ⟨a, n, c, rfl, h3⟩
    have HF : Hid (∀ V, Nw w V → P (.returned (.tuple #[.string ⟨#[]⟩, .int .i64 ((splE l : Nat) : Int)])) V) := fun V hV => by
      rw [hP, cln_bad h]; exact ⟨rfl, hV⟩
    have hne : (((splE l : Nat) : Int) == 0) = false := by rw [beq_eq_false_iff_ne]; omega
    have hne2 : ¬ ((splE l : Nat) : Int) = 0 := by omega
    clear hP h hl
    generalize splE l = y at *
    generalize mk l = s at *
    go_enter Try.func12, Try.ntmps12
    go_wp2_with (first
      | (go_at_call 10; with_reducible refine HC.out.mono ?_; rintro e w1 ⟨a, n, c, rfl, H1⟩))
    exact HF.out _ H1.out
theorem flat_rs (xs : List Tx) : flatR RS xs = xs.map (fun x => .string (mk x)) := by
  induction xs with
  | nil => rfl
  | cons x r ih => rw [flatR, ih]; rfl
theorem OwR.setS {g n c : Nat} {l : List Tx} {V : World} (h : OwR RS g (.slice (some ⟨g, 0, none⟩) n c) l V) (I : Nat) (hI : I < n) (x : Tx) : ∃ l', OwR RS g (.slice (some ⟨g, 0, none⟩) n c) l' (V.setCell ⟨g, I, none⟩ (.string (mk x))) := by
  have hn := (ow_len h).1
  obtain ⟨xs, h1, h2, h3, h4, h5⟩ := h
  refine ⟨l.set I x, xs.set I x, ?_, ?_, ?_, ?_, ?_⟩
  · rw [List.length_set, List.length_set]; exact h1
  · rw [List.length_set, List.take_set, h2]
  · rw [List.length_set, List.length_set]; exact h3
  · rw [List.length_set]; exact h4
  · unfold SwR at h5 ⊢
    simp only [World.setCell, Array.getElem?_modify, h5]
    rw [flat_rs, flat_rs, List.map_set]
    simp
set_option maxHeartbeats 8000000 in
set_option maxRecDepth 100000 in
theorem written_any (w : World) (og : Option Nat) (a : Option Addr) (n c : Nat) (l : List Tx) (h : OgR RS og (.slice a n c) l w) (hn : n ≤ 4000000000000) :
    Calls Try.prog 14 #[.slice a n c] w fun e w' => e = .returned (.tuple #[]) ∧ Fr (fun k => og = some k) w w' := by
  obtain ⟨P, hP⟩ : ∃ P : Ending → World → Prop, P = fun e w' => e = .returned (.tuple #[]) ∧ Fr (fun k => og = some k) w w' := ⟨_, rfl⟩
  rw [← hP]
  have HF : Hid (∀ V, Fr (fun k => og = some k) w V → P (.returned (.tuple #[])) V) := fun V hV => by rw [hP]; exact ⟨rfl, hV⟩
  have hq := og_len h
  have hnc := hq.2.1
  have hc63 := hq.2.2
  have H0 : Hid (OgR RS og (.slice a n c) l w) := h
  clear hP h hq
  go_enter Try.func14, Try.ntmps14
  go_wp2
  go_loopg [2] n (fun kx i wr => ∃ (I : Nat), I ≤ n ∧ n - I ≤ kx ∧ i = .int .i64 I ∧ Hid (Fr (fun k => og = some k) w wr ∧ ∃ l', OgR RS og (.slice a n c) l' wr))
  case atStart => exact ⟨0, by omega, by omega, rfl, Fr.refl _ _, l, H0.out⟩
  case round =>
    obtain ⟨I, hI, hkx, rfl, HI⟩ := hrel
    obtain ⟨hFr, l', hl'⟩ := HI.out
    have hl2 := (og_len hl').1
    by_cases hlt : I < n
    · cases og with
      | none =>
        obtain ⟨e, _⟩ := hl'
        cases e
        omega
      | some g =>
        obtain ⟨c', e, _, _⟩ := OwR.form hl'
        generalize l'.length = q at e
        cases e
        obtain ⟨l2, hl3⟩ := OwR.setS hl' I hlt [119, 114, 105, 116, 116, 101, 110]
        have hcell := OwR.cell rsOk hl' I 0 l'[I] (.string (mk l'[I])) (List.getElem?_eq_getElem (by omega)) rfl
        simp only [RS, Nat.mul_one, Nat.add_zero] at hcell
        obtain ⟨hc1, hc2⟩ := hcell
        have HI2 : Hid (Fr (fun k => some g = some k) w (wr.setCell ⟨g, I, none⟩ (.string ⟨#[119, 114, 105, 116, 116, 101, 110]⟩)) ∧ ∃ l', OgR RS (some g) (.slice (some ⟨g, 0, none⟩) n c) l' (wr.setCell ⟨g, I, none⟩ (.string ⟨#[119, 114, 105, 116, 116, 101, 110]⟩))) := ⟨hFr.setCell _ _ (.inl rfl), l2, hl3⟩
        generalize mk l'[I] = x at *
        clear HI HF H0 hFr hl3 hl2 hl'
        go_wp2_with fail
        go_roundg (n - (I + 1))
        case measure => omega
        case rel => exact ⟨I + 1, by omega, by omega, by first | rfl | (congr 1), HI2⟩
    · have H1 : Hid (Fr (fun k => og = some k) w wr ∧ ∃ l', OgR RS og (.slice a n c) l' wr) := ⟨hFr, l', hl'⟩
      clear HI H0 hFr hl2 hl'
      go_wp2_with fail
      go_loopg [0, 3] 40 (fun kx v i wq => ∃ (J : Nat) (a2 : Option Addr) (n2 c2 : Nat), J ≤ 40 ∧ 40 - J ≤ kx ∧ v = .slice a2 n2 c2 ∧ i = .int .i64 J ∧ n2 ≤ c2 ∧ c2 < 9223372036854775808 ∧ n2 ≤ n + J ∧ Hid (Fr (fun k => og = some k) w wq ∧ ∃ og2 l2, OgR RS og2 (.slice a2 n2 c2) l2 wq ∧ (∀ g, og2 = some g → og = some g ∨ w.heap.size ≤ g)))
      case atStart =>
        obtain ⟨hFr, l', hl'⟩ := H1.out
        exact ⟨0, a, n, c, by omega, by omega, rfl, rfl, hnc, hc63, by omega, hFr, og, l', hl', fun g hg => .inl hg⟩
      case round =>
        obtain ⟨J, a2, n2, c2, hJ, hkx2, rfl, rfl, b1, b2, b3, HJ⟩ := hrel
        obtain ⟨hFr2, og2, l2, hl2, ho2⟩ := HJ.out
        by_cases hlt2 : J < 40
        · obtain ⟨og3, a3, c3, W, HA, q1, q2, q3, q4, q5⟩ := pushO _ og2 a2 n2 c2 l2 hl2 (og_len hl2).1 (by omega) [103, 114, 111, 119, 110]
          have HJ2 : Hid (Fr (fun k => og = some k) w W ∧ ∃ og2 l2, OgR RS og2 (.slice a3 (n2 + 1) c3) l2 W ∧ (∀ g, og2 = some g → og = some g ∨ w.heap.size ≤ g)) := by
            refine ⟨Fr.then hFr2 q2 (fun i hi => ho2 i hi), og3, _, q1, fun g hg => ?_⟩
            rcases q3 with e | ⟨g2, e, hg2⟩
            · exact ho2 g (by rw [← e]; exact hg)
            · rw [e] at hg; injection hg with hg; subst hg
              exact .inr (Nat.le_trans hFr2.size hg2)
          have hz : (J : Int) < 40 := by omega
          clear HJ HF H1 hFr2 hl2 ho2 q1 q2 q3
          go_wp2_with (first
            | (at_builtin; refine Lib.wpList_append_run _ rfl _ _ 22 22 rfl (.slice a2 n2 c2) (.slice (some ⟨_, 0, none⟩) 1 1) (by simp [Act.eval]) (by simp [Act.eval]) _ _ (HA.out _) ?_))
          go_roundg (40 - (J + 1))
          case measure => omega
          case rel => exact ⟨J + 1, a3, n2 + 1, c3, by omega, by omega, rfl, by first | rfl | (congr 1), q4, q5, by omega, HJ2⟩
        · have HF1 := tHid (HF.out _ hFr2)
          have hz : ¬ (J : Int) < 40 := by omega
          clear HJ HF H1 hFr2 hl2 ho2
          go_wp2_with fail
          go_end0
          exact HF1.out
end Go.Proofs.Ytfmghmidklpdaaa

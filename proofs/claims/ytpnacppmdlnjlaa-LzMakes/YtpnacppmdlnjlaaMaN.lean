import Derived.Test.YtpnacppmdlnjlaaMaK
import Derived.Test.YtpnacppmdlnjlaaMaI
import Derived.Test.YtpnacppmdlnjlaaLzW
namespace Go.Proofs.Ytpnacppmdlnjlaa
open Go.RowKit
set_option linter.unusedVariables false
/-- What the document's Play answers. -/
def RPld (r : List By × Nat) (w : World) (e : Ending) (w' : World) : Prop :=
  ∃ a c, e = .returned (.tuple #[.slice a r.1.length c, .int .i64 r.2]) ∧ Sl (fun k => k < w.heap.size ∨ w'.heap.size ≤ k) (.slice a r.1.length c) r.1 w' ∧ Nw w w'
theorem RPld.none {y : Nat} {w w' : World} (h : Nw w w') : RPld ([], y) w (.returned (.tuple #[.slice none 0 0, .int .i64 y])) w' := ⟨_, _, rfl, .inl ⟨_, rfl, rfl⟩, h⟩
theorem Alk.plS_eq {σ : Type} {T U : Tk σ} (h : Alk T U) (s : Si) (hs : okI s) (st : σ) : plS T s st = plS U s st := by
  unfold plS
  rw [h.room, h.plain]
  by_cases h1 : U.room st s.p.length = false
  · rw [if_pos h1, if_pos h1]
  rw [if_neg h1, if_neg h1]
  by_cases h2 : s.b = 0
  · rw [if_pos h2, if_pos h2]
  rw [if_neg h2, if_neg h2]
  rcases hs with hs | ⟨c1, c2, c3⟩
  · exact absurd hs.1 h2
  rw [h.reaches _ _ (by omega)]
  by_cases h3 : U.reaches (U.plain st s.p) s.b.toNat = false
  · rw [if_pos h3, if_pos h3]
  rw [if_neg h3, if_neg h3, h.room]
  by_cases h4 : U.room (U.plain st s.p) s.n.toNat = false
  · rw [if_pos h4, if_pos h4]
  rw [if_neg h4, if_neg h4]
  rw [h.mat _ _ _ (by omega) (by omega) (by
    rw [h.reaches _ _ (by omega)]
    cases hq : U.reaches (U.plain st s.p) s.b.toNat with
    | true => rfl
    | false => exact absurd hq h3)]
theorem Alk.plA_eq {σ : Type} {T U : Tk σ} (h : Alk T U) (l : List Si) (hl : ∀ s ∈ l, okI s) : ∀ st, plA T l st = plA U l st := by
  induction l with
  | nil => intro st; rfl
  | cons s r ih =>
    intro st
    simp only [plA]
    rw [h.plS_eq s (hl s (by simp))]
    cases plS U s st with
    | error y => rfl
    | ok st' => exact ih (fun x hx => hl x (by simp [hx])) st'
/-- How the loop stands. -/
structure RP (w : World) (l : List Si) (W : List By) (m : Nat) (i : Nat) (s : List By) (g c : Nat) (wr : World) : Prop where
  own : Ow g (.slice (some ⟨g, 0, none⟩) (W ++ s).length c) (W ++ s) wr
  base : w.heap.size ≤ g
  nw : Nw w wr
  sl : s.length ≤ m
  sc : plA (pl W m) l [] = plA (pl W m) (l.drop i) s
set_option maxHeartbeats 32000000 in
set_option maxRecDepth 100000 in
theorem rPlay_any (w : World) (v va : Value) (l : List Si) (ahead : List By) (most : Int) (hl : OldS w v l) (ha : Old w va ahead) (hal : ahead.length ≤ 140737488351232) : Calls Try.prog 22 #[v, va, .int .i64 most] w (RPld (plR l ahead most) w) := by
  obtain ⟨P, hP⟩ : ∃ P, P = RPld (plR l ahead most) w := ⟨_, rfl⟩
  rw [← hP]
  have HP : Hid (P = RPld (plR l ahead most) w) := hP
  clear hP
  by_cases hm : most < 0 ∨ 4194304 < most
  · have HF : Hid (P (.returned (.tuple #[.slice none 0 0, .int .i64 1])) w) := by
      show P _ _
      rw [HP.out, plR_arg (by rcases hm with h | h; exact .inl h; exact .inr (.inl h))]
      exact RPld.none (Fr.refl _ _)
    clear HP hl ha
    rcases hm with hm | hm
    · go_enter Try.func22, Try.ntmps22
      go_wp2
      exact HF.out
    · have h0 : ¬ most < 0 := by omega
      go_enter Try.func22, Try.ntmps22
      go_wp2
      exact HF.out
  obtain ⟨m, rfl⟩ : ∃ m : Nat, most = m := ⟨most.toNat, by omega⟩
  have hml : m ≤ 4194304 := by omega
  have hz0 : ¬ (m : Int) < 0 := by omega
  have hz1 : ¬ (4194304 : Int) < (m : Int) := by omega
  by_cases hcan : ¬ CanB l
  · have HC : Hid (Calls Try.prog 36 #[v] w fun e w' => e = .returned (.bool false) ∧ Hid (P (.returned (.tuple #[.slice none 0 0, .int .i64 1])) w')) := by
      refine (rMade_any _ w v l hl false ⟨fun h => (by cases h), fun h => absurd h hcan⟩).mono ?_
      rintro e w' ⟨rfl, hN⟩
      refine ⟨rfl, ?_⟩
      show P _ _
      rw [HP.out, plR_arg (.inr (.inr hcan))]
      exact RPld.none hN
    clear hl HP ha
    go_enter Try.func22, Try.ntmps22
    go_wp2_with (first
      | (go_at_call 36; with_reducible refine (HC.out).mono ?_; rintro e w1 ⟨rfl, HE⟩))
    exact HE.out
  replace hcan : CanB l := Classical.not_not.1 hcan
  have hwl := win_length ahead
  have HPL : Hid (plR l ahead m = match plA (pl (win ahead) m) l [] with
      | .error y => ([], y)
      | .ok s => (s, 0)) := by
    show _ = _
    unfold plR
    rw [if_neg (by intro h; rcases h with h | h | h; exact hz0 h; exact hz1 h; exact h hcan), Int.toNat_natCast, (win_alk ahead m).plA_eq l hcan.ok]
    rfl
  generalize hW : win ahead = W at *
  have HC : Hid (Calls Try.prog 36 #[v] w fun e w' => e = .returned (.bool true) ∧ Hid (Calls Try.prog 29 #[va] w' fun e w1 => ∃ g c, e = .returned (.slice (some ⟨g, 0, none⟩) W.length c) ∧ Hid (RP w l W m 0 [] g c w1))) := by
    refine (rMade_any _ w v l hl true ⟨fun _ => hcan, fun _ => rfl⟩).mono ?_
    rintro e w' ⟨rfl, hN⟩
    refine ⟨rfl, ?_⟩
    show Calls _ _ _ _ _
    refine (rwindow_any w' va ahead (Sl.later ha hN) hal).mono ?_
    rw [hW]
    rintro e w1 ⟨g, c, rfl, hg, hO, hN1⟩
    exact ⟨g, c, rfl, by rw [List.append_nil]; exact hO, Nat.le_trans hN.size hg, hN.trans hN1, by simp, rfl⟩
  have hwl' : W.length ≤ 65535 := by omega
  obtain ⟨a, c, rfl, hc, hc2, hL⟩ := hl.form
  have HL : Hid (OldS w (.slice a l.length c) l) := hl
  have Hcan : Hid (CanB l) := hcan
  have h1 : 0 < l.length := List.length_pos_iff.2 hcan.1
  obtain ⟨aa, ac, rfl, _, _⟩ := ha.form
  clear hl hcan hm ha hW hwl
  generalize hln : l.length = L at *
  have hln' : Hid (l.length = L) := hln
  clear hln
  generalize ahead.length = A at *
  go_enter Try.func22, Try.ntmps22
  go_wp2_with (first
    | (go_at_call 36; with_reducible refine (HC.out).mono ?_; rintro e w1 ⟨rfl, HC2⟩)
    | (go_at_call 29; with_reducible refine (HC2.out).mono ?_; rintro e w2 ⟨g0, c0, rfl, HI0⟩))
  clear HC HC2
  go_loopg [8, 10] L (fun kx o i wr => ∃ (I : Nat) (s : List By) (go co : Nat), I < L ∧ L - I ≤ kx ∧ o = .slice (some ⟨go, 0, none⟩) (W ++ s).length co ∧ i = .int .i64 I ∧ Hid (RP w l W m I s go co wr))
  case atStart => exact ⟨0, [], _, _, by omega, by omega, by rw [List.append_nil], rfl, HI0⟩
  case round =>
    obtain ⟨I, s, go, co, hlt, hkx, rfl, rfl, HI⟩ := hrel
    clear HI0
    have hN := HI.out.nw
    have hsl := HI.out.sl
    have hlt' : I < l.length := by rw [hln'.out]; omega
    obtain ⟨g, o, pa, pc, hgX, rfl, x0, x1, x2, hpS, hpl⟩ := (HL.out.nw hN).at I hlt'
    have hlo : (W ++ s).length = W.length + s.length := List.length_append
    have hA := HI.out.sc
    rw [plA_drop _ l I hlt'] at hA
    have hz : (I : Int) < (L : Int) := by omega
    have hRD : ∀ V y, Nw w V → plS (pl W m) l[I] s = .error y → P (.returned (.tuple #[.slice none 0 0, .int .i64 y])) V := fun V y hV hs => by
      rw [hs] at hA
      simp only at hA
      rw [HP.out, HPL.out, hA]
      exact RPld.none hV
    by_cases hroom : l[I].p.length + s.length ≤ m
    · have hroom' : (pl W m).room s l[I].p.length = true := by simpa [pl] using hroom
      have hps0 : plS (pl W m) l[I] s = if l[I].b = 0 then .ok (s ++ l[I].p) else if (pl W m).reaches (s ++ l[I].p) l[I].b.toNat = false then .error 30 else if (pl W m).room (s ++ l[I].p) l[I].n.toNat = false then .error 32 else .ok ((pl W m).mat (s ++ l[I].p) l[I].b.toNat l[I].n.toNat) := by
        unfold plS
        rw [hroom', if_neg (by simp)]
        rfl
      obtain ⟨v1, g1, W1, hap, hO1, hF1, hg1⟩ := app_any wr go _ (W ++ s) HI.out.own (.slice pa l[I].p.length pc) l[I].p (hpS.mono (fun _ h => h.elim)) (by rw [hlo]; omega)
      have hN1 : Nw w W1 := Fr.then hN hF1 (fun k hk => .inr (by have := HI.out.base; omega))
      have hb1 : w.heap.size ≤ g1 := by have := HI.out.base; have := hN.size; rcases hg1 with h | h <;> omega
      have hass : W ++ s ++ l[I].p = W ++ (s ++ l[I].p) := List.append_assoc _ _ _
      rw [hass] at hO1
      have hO1' := hO1
      obtain ⟨xs, rfl, _, hc1, hc1', _⟩ := hO1'
      have hlo1 : (W ++ (s ++ l[I].p)).length = W.length + s.length + l[I].p.length := by simp; omega
      have hpS1 : (s ++ l[I].p).length = s.length + l[I].p.length := List.length_append
      obtain ⟨g', o', pa', pc', _, e', y0, y1, y2, _, _⟩ := (HL.out.nw hN1).at I hlt'
      injection e' with e'
      injection e' with e1 e2
      subst e1 e2
      have HAP : Hid _ := hap
      have hlom : W.length ≤ (W ++ s).length := by omega
      have hlob : (W ++ s).length ≤ 5000000 := by omega
      have F1 : ¬ (m : Int) - (((W ++ s).length : Int) - (W.length : Int)) < (l[I].p.length : Int) := by omega
      by_cases hlast : I + 1 = L
      · have hbn : l[I].b = 0 ∧ l[I].n = 0 := by
          have := Hcan.out.2.2 (by omega)
          have e : l.length - 1 = I := by rw [hln'.out]; omega
          simp only [e] at this; exact this
        rw [hbn.1, if_pos rfl] at hps0
        have HFIN : Hid (∀ ad ln cc, ln = (s ++ l[I].p).length → cc = xs.length - W.length → (ad = W.length ∨ W.length = xs.length) → P (.returned (.tuple #[.slice (some ⟨g1, ad, none⟩) ln cc, .int .i64 0])) W1) := fun ad ln cc hln hcc had => by
          subst hln hcc
          rw [hps0] at hA
          simp only at hA
          rw [List.drop_of_length_le (by rw [hln'.out]; omega), plA] at hA
          rw [HP.out, HPL.out, hA]
          have hsl := Ow.tail hO1 W.length ad (by simp) hc1 hc1' had
          rw [List.drop_left] at hsl
          exact ⟨_, _, rfl, .inr ⟨g1, by have := hO1.lt; omega, hsl⟩, hN1⟩
        have hz1' : (L : Int) - 1 = (I : Int) := by omega
        have hsub : (W ++ (s ++ l[I].p)).length - W.length = (s ++ l[I].p).length := by omega
        have hcw : W.length ≤ xs.length := by omega
        clear hRD HP HI HPL HL Hcan hA hps0 hpS hroom' hO1 hF1 hN1 hg1 hap hass hbn hpl hroom
        generalize (W ++ (s ++ l[I].p)).length = lo2 at *
        generalize (s ++ l[I].p).length = ls2 at *
        generalize (W ++ s).length = lo at *
        generalize l[I].p.length = pn at *
        generalize l[I].b = zb at *
        generalize l[I].n = zn at *
        have hz2 : W.length ≤ lo2 := by omega
        clear hlo hlo1 hpS1
        go_wp2_with (first
          | (at_builtin; refine Lib.wpList_append_run _ rfl _ _ 22 22 rfl (.slice (some ⟨go, 0, none⟩) lo co) (.slice pa pn pc) (by simp [Act.eval]) (by simp [Act.eval]) _ _ (HAP.out _) ?_))
        all_goals exact HFIN.out _ _ _ (by omega) (by omega) (by omega)
      · have hcj : canI l[I] := Hcan.out.2.1 I (by rw [hln'.out]; omega)
        obtain ⟨hc1j, hc2j, hc3j⟩ := hcj
        rw [if_neg (by omega)] at hps0
        have hz1' : (L : Int) - 1 = ((L - 1 : Nat) : Int) := by omega
        have hz2' : ¬ (I : Int) = ((L - 1 : Nat) : Int) := by omega
        have hzl : ((I : Int) == ((L - 1 : Nat) : Int)) = false := by simp; omega
        have hL1 : L - 1 ≤ 4000000000000 := by omega
        obtain ⟨bk, hbk⟩ : ∃ bk : Nat, l[I].b = bk := ⟨l[I].b.toNat, by omega⟩
        obtain ⟨n, hn⟩ : ∃ n : Nat, l[I].n = n := ⟨l[I].n.toNat, by omega⟩
        rw [hbk, hn, Int.toNat_natCast, Int.toNat_natCast] at hps0
        rw [hbk] at x1 y1 hc1j hc2j
        rw [hn] at x2 y2 hc3j
        by_cases hre : bk ≤ (W ++ (s ++ l[I].p)).length
        · have hre' : (pl W m).reaches (s ++ l[I].p) bk = true := by
            show decide _ = true
            rw [decide_eq_true_eq, ← List.length_append]; exact hre
          rw [hre', if_neg (by simp)] at hps0
          by_cases hro : n + (s ++ l[I].p).length ≤ m
          · have hro' : (pl W m).room (s ++ l[I].p) n = true := by simpa [pl] using hro
            rw [hro', if_neg (by simp)] at hps0
            have hre2 : bk ≤ W.length + (s ++ l[I].p).length := by rw [← List.length_append]; exact hre
            have hmat := pl_mat W m (s ++ l[I].p) bk n (by omega) hre2
            have hml2 : (W ++ (pl W m).mat (s ++ l[I].p) bk n).length = (W ++ (s ++ l[I].p)).length + n := by rw [hmat, cop_length]
            have hml3 : ((pl W m).mat (s ++ l[I].p) bk n).length = (s ++ l[I].p).length + n := by
              rw [List.length_append, List.length_append] at hml2; omega
            have HCP : Hid (∀ V, Nw W1 V → Calls Try.prog 32 #[.slice (some ⟨g1, 0, none⟩) (W ++ (s ++ l[I].p)).length xs.length, .int .i64 bk, .int .i64 n] V fun e w' => ∃ go' co', e = .returned (.slice (some ⟨go', 0, none⟩) (W ++ (pl W m).mat (s ++ l[I].p) bk n).length co') ∧ (w'.cell? ⟨g, o + I * 3 + 1, none⟩ = some (.int .i64 bk) ∧ w'.cell? ⟨g, o + I * 3 + 2, none⟩ = some (.int .i64 n)) ∧ Hid (RP w l W m (I + 1) ((pl W m).mat (s ++ l[I].p) bk n) go' co' w')) := fun V hV => by
              refine (rcopied_any (fun k => k < w.heap.size) (W ++ (s ++ l[I].p)) bk n (by omega) hre V (fun k hk => Nat.lt_of_lt_of_le hk (Nat.le_trans hN1.size hV.size)) _ (.inr ⟨g1, by omega, hO1.nw hV⟩) (by omega)).mono ?_
              rintro e w' ⟨v', rfl, hM, hF⟩
              have hNw' : Nw w w' := Fr.then (hN1.trans hV) hF (fun k hk => .inr (by omega))
              rw [← hmat] at hM
              rcases hM with ⟨_, h0⟩ | ⟨gm, hgm, hOm⟩
              · have := congrArg List.length h0
                rw [hml2] at this
                simp at this
                omega
              · have hOm' := hOm
                obtain ⟨ys, rfl, _, _, _, _⟩ := hOm'
                refine ⟨gm, ys.length, rfl, ?_, hOm, by omega, hNw', by rw [hml3]; omega, ?_⟩
                · obtain ⟨g2, o2, pa2, pc2, _, e2', _, z1, z2, _, _⟩ := (HL.out.nw hNw').at I hlt'
                  injection e2' with e2'
                  injection e2' with e21 e22
                  subst e21 e22
                  rw [hbk] at z1
                  rw [hn] at z2
                  exact ⟨z1, z2⟩
                · rw [hps0] at hA
                  exact hA
            have F2 : ¬ ((W ++ (s ++ l[I].p)).length : Int) < (bk : Int) := by omega
            have F3 : ¬ (m : Int) - (((W ++ (s ++ l[I].p)).length : Int) - (W.length : Int)) < (n : Int) := by omega
            have hlob2 : (W ++ (s ++ l[I].p)).length ≤ 5000000 := by omega
            have hlom2 : W.length ≤ (W ++ (s ++ l[I].p)).length := by omega
            clear hRD HP HI HPL HL Hcan hA hps0 hpS hroom' hO1 hF1 hN1 hg1 hap hass hpl hroom hre hre' hro hro' hre2 hmat hml2 hml3 hpS1 hlo1 hlo hbk hn
            generalize (pl W m).mat (s ++ l[I].p) bk n = s' at *
            generalize (W ++ (s ++ l[I].p)).length = lo2 at *
            generalize (W ++ s).length = lo at *
            generalize l[I].p.length = pn at *
            generalize L - 1 = L1 at *
            go_wp2_with (first
              | (at_builtin; refine Lib.wpList_append_run _ rfl _ _ 22 22 rfl (.slice (some ⟨go, 0, none⟩) lo co) (.slice pa pn pc) (by simp [Act.eval]) (by simp [Act.eval]) _ _ (HAP.out _) ?_))
            go_region_held3 (fun w' => w'.cell? ⟨g, o + I * 3 + 1, none⟩ = some (.int .i64 bk) ∧ w'.cell? ⟨g, o + I * 3 + 2, none⟩ = some (.int .i64 n)) (first | exact ⟨y1, y2⟩ | assumption)
              (first | (go_at_call 32; with_reducible refine (HCP.out _ (Fr.refl _ _).drew).mono ?_; rintro e w3 ⟨go', co', rfl, hz9, HI'⟩))
            all_goals go_wp2_with fail
            all_goals go_roundg (L - (I + 1))
            all_goals (first | omega | exact ⟨I + 1, s', go', co', by omega, by omega, by rw [List.length_append], by first | rfl | (congr 1), HI'⟩)
          · have hro' : (pl W m).room (s ++ l[I].p) n = false := by simpa [pl] using hro
            rw [hro', if_pos rfl] at hps0
            have HF' : Hid (P (.returned (.tuple #[.slice none 0 0, .int .i64 32])) W1) := hRD W1 32 hN1 hps0
            have F2 : ¬ ((W ++ (s ++ l[I].p)).length : Int) < (bk : Int) := by omega
            have F3 : (m : Int) - (((W ++ (s ++ l[I].p)).length : Int) - (W.length : Int)) < (n : Int) := by omega
            have hlob2 : (W ++ (s ++ l[I].p)).length ≤ 5000000 := by omega
            have hlom2 : W.length ≤ (W ++ (s ++ l[I].p)).length := by omega
            clear hRD HP HI HPL HL Hcan hA hps0 hpS hroom' hO1 hF1 hN1 hg1 hap hass hpl hroom hre hre' hro hro' hpS1 hlo1 hlo hbk hn
            generalize (W ++ (s ++ l[I].p)).length = lo2 at *
            generalize (W ++ s).length = lo at *
            generalize l[I].p.length = pn at *
            generalize L - 1 = L1 at *
            go_wp2_with (first
              | (at_builtin; refine Lib.wpList_append_run _ rfl _ _ 22 22 rfl (.slice (some ⟨go, 0, none⟩) lo co) (.slice pa pn pc) (by simp [Act.eval]) (by simp [Act.eval]) _ _ (HAP.out _) ?_))
            exact HF'.out
        · have hre' : (pl W m).reaches (s ++ l[I].p) bk = false := by
            show decide _ = false
            rw [decide_eq_false_iff_not, ← List.length_append]; exact hre
          rw [hre', if_pos rfl] at hps0
          have HF' : Hid (P (.returned (.tuple #[.slice none 0 0, .int .i64 30])) W1) := hRD W1 30 hN1 hps0
          have F2 : ((W ++ (s ++ l[I].p)).length : Int) < (bk : Int) := by omega
          clear hRD HP HI HPL HL Hcan hA hps0 hpS hroom' hO1 hF1 hN1 hg1 hap hass hpl hroom hre hre' hpS1 hlo1 hlo hbk hn
          generalize (W ++ (s ++ l[I].p)).length = lo2 at *
          generalize (W ++ s).length = lo at *
          generalize l[I].p.length = pn at *
          generalize L - 1 = L1 at *
          go_wp2_with (first
            | (at_builtin; refine Lib.wpList_append_run _ rfl _ _ 22 22 rfl (.slice (some ⟨go, 0, none⟩) lo co) (.slice pa pn pc) (by simp [Act.eval]) (by simp [Act.eval]) _ _ (HAP.out _) ?_))
          exact HF'.out
    · have hroom' : (pl W m).room s l[I].p.length = false := by simpa [pl] using hroom
      have hps0 : plS (pl W m) l[I] s = .error 32 := by unfold plS; rw [hroom', if_pos rfl]
      have HF' : Hid (P (.returned (.tuple #[.slice none 0 0, .int .i64 32])) wr) := hRD wr 32 hN hps0
      have F1 : (m : Int) - (((W ++ s).length : Int) - (W.length : Int)) < (l[I].p.length : Int) := by omega
      have hlob : (W ++ s).length ≤ 5000000 := by omega
      have hlom : W.length ≤ (W ++ s).length := by omega
      clear hRD HP HI HPL HL Hcan hA hps0 hpS hroom' hroom hlo
      generalize (W ++ s).length = lo at *
      generalize l[I].p.length = pn at *
      go_wp2
      exact HF'.out
end Go.Proofs.Ytpnacppmdlnjlaa

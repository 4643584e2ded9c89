import Derived.Test.YtdeefemeiggolaaQq
namespace Go.Proofs.Ytdeefemeiggolaa
open Go.RowKit
set_option linter.unusedVariables false
variable {D rb g o c : Nat} {b : List By} {most p : Nat} {out : List By} {K : Nat → Prop} {w : World}
/-- A region without operations: what is left to a walk where a callee has panicked. -/
def Idle : Prop := wpAny Try.prog Region.Mode.any #[] (fun _ _ _ => True) 0 #[] { tmps := #[], defers := [] } default
theorem idle_of {P : Ending → World → Prop} {fn : Func} {ch : _} {a : Act} {w : World} (h : a.defers = [] ∧ P (.panicked ch) w) (_ : Idle) : bodyPost Try.prog fn P (.panic ch) a w := h
/-- What head answers. -/
def Hed (D rb g o c : Nat) (b : List By) (most p : Nat) (out : List By) (K : Nat → Prop) (w : World) (fb : Nat) (f : Fm) (r : Rz (Shp × Nat × Nat)) (e : Ending) (w' : World) : Prop :=
  Fr (fun k => k = rb ∨ k = fb) w w' ∧ match r with
    | .bad a y => e = flt a y
    | .ok (s, n, p1) => e = .returned (.int .u64 n) ∧ RdI D rb g o c b most p1 out K w' ∧ FB fb { f with shape := s } w'
theorem shp_eq (f : Fm) (y d : By) : { shpF f y with shape := { (shpF f y).shape with block := d.toNat / 16 } } = { f with shape := shp y d } := rfl
set_option maxHeartbeats 16000000 in
set_option maxRecDepth 100000 in
theorem rhead_any (h : RdI D rb g o c b most p out K w) (fb : Nat) (f : Fm) (hf : FB fb f w) (hfr : fb ≠ rb) (hKf : K fb) (hDf : D ≤ fb) : Calls Try.prog 75 #[.pointer (some ⟨rb, 0, none⟩), .pointer (some ⟨fb, 4, none⟩)] w (Hed D rb g o c b most p out K w fb f (headF b p)) := by
  obtain ⟨P, hP⟩ : ∃ P : Ending → World → Prop, P = Hed D rb g o c b most p out K w fb f (headF b p) := ⟨_, rfl⟩
  rw [← hP]
  obtain ⟨x0, x1, x2, x3, _⟩ := h.cells
  have hbl := h.bl
  -- a panic of a callee
  have PAN : Hid (∀ a y e w', headF b p = .bad a y → e = flt a y → Fr (fun k => k = rb ∨ k = fb) w w' → P e w') := by
    intro a y e w' h1 h2 h3
    rw [hP]
    refine ⟨h3, ?_⟩
    rw [h1]; exact h2
  cases hy : b[p]? with
  | none =>
    have hh : headF b p = .bad b.length 4 := by unfold headF; rw [hy]
    have HC : Hid (Calls Try.prog 91 #[.pointer (some ⟨rb, 0, none⟩), .pointer (some ⟨fb, 4, none⟩)] w fun e w1 => ∃ ch, e = .panicked ch ∧ Hid (P (.panicked ch) w1)) := by
      show Calls _ _ _ _ _
      refine (rflags_short h _ hy).mono ?_
      rintro e w1 ⟨rfl, h1⟩
      exact ⟨_, rfl, PAN.out _ _ _ _ hh rfl h1.any⟩
    clear h hf hh hy hP PAN
    go_enter Try.func75, Try.ntmps75
    go_wp2_with (first | (go_at_call 91; with_reducible refine HC.out.mono ?_; rintro e w1 ⟨ch, rfl, HF⟩))
    exact ⟨rfl, HF.out⟩
  | some y =>
    by_cases hfl : flg y = 0
    case neg =>
      have hh : headF b p = .bad p (flg y) := by unfold headF; rw [hy]; simp only [if_pos hfl]
      have HC : Hid (Calls Try.prog 91 #[.pointer (some ⟨rb, 0, none⟩), .pointer (some ⟨fb, 4, none⟩)] w fun e w1 => ∃ ch, e = .panicked ch ∧ Hid (P (.panicked ch) w1)) := by
        show Calls _ _ _ _ _
        refine (rflags_any h fb f hf hfr hKf hDf y hy).mono ?_
        rintro e w1 ⟨h1, h2⟩
        rw [if_pos hfl] at h2
        subst h2
        exact ⟨_, rfl, PAN.out _ _ _ _ hh rfl h1⟩
      clear h hf hh hy hP PAN
      go_enter Try.func75, Try.ntmps75
      go_wp2_with (first | (go_at_call 91; with_reducible refine HC.out.mono ?_; rintro e w1 ⟨ch, rfl, HF⟩))
      exact ⟨rfl, HF.out⟩
    case pos =>
      -- what comes behind flags
      have FL : ∀ (Q : World → Prop), (∀ w1, RdI D rb g o c b most (p + 1) out K w1 → FB fb (shpF f y) w1 → Fr (fun k => k = rb ∨ k = fb) w w1 → Q w1) → Calls Try.prog 91 #[.pointer (some ⟨rb, 0, none⟩), .pointer (some ⟨fb, 4, none⟩)] w fun e w1 => (∃ r, e = .returned r) ∧ Q w1 := by
        intro Q hQ
        refine (rflags_any h fb f hf hfr hKf hDf y hy).mono ?_
        rintro e w1 ⟨h1, h2⟩
        rw [if_neg (by omega)] at h2
        exact ⟨h2.1, hQ w1 h2.2.1 h2.2.2 h1⟩
      cases hd : b[p + 1]? with
      | none =>
        have hh : headF b p = .bad b.length 4 := by unfold headF; rw [hy]; simp only [hfl, ne_eq, not_true_eq_false, if_false, hd]
        have HC : Hid (Calls Try.prog 91 #[.pointer (some ⟨rb, 0, none⟩), .pointer (some ⟨fb, 4, none⟩)] w fun e w1 => (∃ r, e = .returned r) ∧ Hid (Calls Try.prog 92 #[.pointer (some ⟨rb, 0, none⟩), .pointer (some ⟨fb, 4, none⟩)] w1 fun e w2 => ∃ ch, e = .panicked ch ∧ Hid (P (.panicked ch) w2))) := by
          refine FL _ (fun w1 h1 h2 h3 => ?_)
          show Calls _ _ _ _ _
          refine (rdesc_any h1 fb _ h2 hfr hKf hDf).mono ?_
          rintro e w2 ⟨h4, h5⟩
          rw [hd] at h5
          simp only at h5
          subst h5
          exact ⟨_, rfl, PAN.out _ _ _ _ hh rfl (h3.trans h4)⟩
        clear h hf hh hy hP PAN FL
        go_enter Try.func75, Try.ntmps75
        go_wp2_with (first | (go_at_call 91; with_reducible refine HC.out.mono ?_; rintro e w1 ⟨⟨r, rfl⟩, HD⟩) | (go_at_call 92; with_reducible refine HD.out.mono ?_; rintro e w2 ⟨ch, rfl, HF⟩))
        exact ⟨rfl, HF.out⟩
      | some d =>
        by_cases hds : dsc d
        · have hh : headF b p = .bad (p + 1) 41 := by unfold headF; rw [hy]; simp only [hfl, ne_eq, not_true_eq_false, if_false, hd, if_pos hds]
          have HC : Hid (Calls Try.prog 91 #[.pointer (some ⟨rb, 0, none⟩), .pointer (some ⟨fb, 4, none⟩)] w fun e w1 => (∃ r, e = .returned r) ∧ Hid (Calls Try.prog 92 #[.pointer (some ⟨rb, 0, none⟩), .pointer (some ⟨fb, 4, none⟩)] w1 fun e w2 => ∃ ch, e = .panicked ch ∧ Hid (P (.panicked ch) w2))) := by
            refine FL _ (fun w1 h1 h2 h3 => ?_)
            show Calls _ _ _ _ _
            refine (rdesc_any h1 fb _ h2 hfr hKf hDf).mono ?_
            rintro e w2 ⟨h4, h5⟩
            rw [hd] at h5
            simp only [if_pos hds] at h5
            subst h5
            exact ⟨_, rfl, PAN.out _ _ _ _ hh rfl (h3.trans h4)⟩
          clear h hf hh hy hP PAN FL
          go_enter Try.func75, Try.ntmps75
          go_wp2_with (first | (go_at_call 91; with_reducible refine HC.out.mono ?_; rintro e w1 ⟨⟨r, rfl⟩, HD⟩) | (go_at_call 92; with_reducible refine HD.out.mono ?_; rintro e w2 ⟨ch, rfl, HF⟩))
          exact ⟨rfl, HF.out⟩
        · have hh : headF b p = if b.length < p + hl (shp y d) + 1 then .bad b.length 4
              else if b[p + hl (shp y d)]? ≠ some (hs (tk b p (hl (shp y d)))) then .bad (p + hl (shp y d)) 42
              else .ok (shp y d, le (tk b (p + 2) (hl (shp y d) - 2)), p + hl (shp y d) + 1) := by
            unfold headF; rw [hy]; simp only [hfl, ne_eq, not_true_eq_false, if_false, hd, if_neg hds]
          have HC : Hid (Calls Try.prog 91 #[.pointer (some ⟨rb, 0, none⟩), .pointer (some ⟨fb, 4, none⟩)] w fun e w1 => (∃ r, e = .returned r) ∧ Hid (Calls Try.prog 92 #[.pointer (some ⟨rb, 0, none⟩), .pointer (some ⟨fb, 4, none⟩)] w1 fun e w2 => (∃ r, e = .returned r) ∧ w2.cell? ⟨fb, 8, none⟩ = some (.bool (shp y d).csize) ∧ Hid (RdI D rb g o c b most (p + 2) out K w2 ∧ FB fb { f with shape := shp y d } w2 ∧ Fr (fun k => k = rb ∨ k = fb) w w2))) := by
            refine FL _ (fun w1 h1 h2 h3 => ?_)
            show Calls _ _ _ _ _
            refine (rdesc_any h1 fb _ h2 hfr hKf hDf).mono ?_
            rintro e w2 ⟨h4, h5⟩
            rw [hd] at h5
            simp only [if_neg hds] at h5
            rw [shp_eq] at h5
            exact ⟨h5.1, (row_cell h5.2.2 8 _ rfl).1, h5.2.1, h5.2.2, h3.trans h4⟩
          have hp2 : p + 2 ≤ b.length := by have := (List.getElem?_eq_some_iff.1 hd).1; omega
          generalize shp y d = s at *
          clear hds hd hy hfl FL
          have hn2 : hl s = if s.csize = true then 10 else 2 := rfl
          have NUM : Hid (∀ V, s.csize = true → RdI D rb g o c b most (p + 2) out K V → FB fb { f with shape := s } V → Fr (fun k => k = rb ∨ k = fb) w V → if b.length < p + 10 then Hid (Calls Try.prog 63 #[.pointer (some ⟨rb, 0, none⟩), .int .i64 8] V fun e w2 => ∃ ch, e = .panicked ch ∧ Hid (P (.panicked ch) w2)) else Hid (Calls Try.prog 63 #[.pointer (some ⟨rb, 0, none⟩), .int .i64 8] V fun e w2 => e = .returned (.int .u64 (le (tk b (p + 2) (hl s - 2)))) ∧ Hid (RdI D rb g o c b most (p + hl s) out K w2 ∧ FB fb { f with shape := s } w2 ∧ Fr (fun k => k = rb ∨ k = fb) w w2))) := by
            intro V hcs h1 h2 h3
            have hn10 : hl s = 10 := by rw [hn2, if_pos hcs]
            split
            · rename_i hlt
              show Calls _ _ _ _ _
              refine (rnumber_bad h1 8 (by decide) (by omega)).mono ?_
              rintro e w2 ⟨rfl, h4⟩
              refine ⟨_, rfl, PAN.out _ _ _ _ (by rw [hh, if_pos (by omega)]) rfl (h3.trans h4.any)⟩
            · rename_i hlt
              show Calls _ _ _ _ _
              refine (rnumber_ok h1 8 (by decide) (by decide) (by omega)).mono ?_
              rintro e w2 ⟨rfl, h4, h5⟩
              rw [hn10]
              exact ⟨rfl, h4, h2.kept h5 hfr, h3.trans (h5.mono (fun k hk => .inl (.inl hk)))⟩
          have NO : Hid (¬ s.csize = true → hl s = 2 ∧ le (tk b (p + 2) (hl s - 2)) = 0) := fun hcs => by
            have : hl s = 2 := by rw [hn2, if_neg hcs]
            rw [this]
            exact ⟨rfl, by simp [tk, le]⟩
          have hhl : 2 ≤ hl s ∧ hl s ≤ 10 := by rw [hn2]; split <;> omega
          have HP : Hid (P = Hed D rb g o c b most p out K w fb f (headF b p)) := hP
          have HH : Hid (headF b p = if b.length < p + hl s + 1 then .bad b.length 4 else if b[p + hl s]? ≠ some (hs (tk b p (hl s))) then .bad (p + hl s) 42 else .ok (s, le (tk b (p + 2) (hl s - 2)), p + hl s + 1)) := hh
          clear hh hP hf hn2
          have hcb := h.hc
          have hc2 := h.hc2
          clear h
          generalize hle : le (tk b (p + 2) (hl s - 2)) = sz at *
          clear hle
          obtain ⟨cz, hcz⟩ : ∃ cz, s.csize = cz := ⟨_, rfl⟩
          rw [hcz] at HC
          have HCZ : Hid (s.csize = cz) := hcz
          clear hcz
          go_enter Try.func75, Try.ntmps75
          go_upto_if 21 with (first | (go_at_call 91; with_reducible refine HC.out.mono ?_; rintro e w1 ⟨⟨r, rfl⟩, HD⟩) | (go_at_call 92; with_reducible refine HD.out.mono ?_; rintro e w2 ⟨⟨r, rfl⟩, hcs, HI⟩))
          go_cut [6] (fun z wx => z = .int .u64 sz ∧ p + hl s ≤ b.length ∧ Hid (RdI D rb g o c b most (p + hl s) out K wx ∧ FB fb { f with shape := s } wx ∧ Fr (fun k => k = rb ∨ k = fb) w wx))
          case first =>
            cases cz with
            | true =>
              have NUM' := NUM.out _ HCZ.out HI.out.1 HI.out.2.1 HI.out.2.2
              by_cases hsh : b.length < p + 10
              · rw [if_pos hsh] at NUM'
                clear NUM NO HP HH PAN HC HI
                go_wp2_with (first | (go_at_call 63; with_reducible refine NUM'.out.mono ?_; rintro e w3 ⟨ch, rfl, HF⟩))
                exact ⟨rfl, HF.out⟩
              · rw [if_neg hsh] at NUM'
                have hn10 : hl s = 10 := by unfold hl; rw [if_pos HCZ.out]
                clear NUM NO HP HH PAN HC HI
                go_wp2_with (first | (go_at_call 63; with_reducible refine NUM'.out.mono ?_; rintro e w3 ⟨rfl, HF⟩))
                go_meet
                exact ⟨rfl, by omega, HF.out⟩
            | false =>
              have hc8 : ¬ s.csize = true := by rw [HCZ.out]; decide
              obtain ⟨e1, e2⟩ := NO.out hc8
              have HF : Hid (RdI D rb g o c b most (p + hl s) out K w2 ∧ FB fb { f with shape := s } w2 ∧ Fr (fun k => k = rb ∨ k = fb) w w2) := by rw [e1]; exact HI.out
              clear NUM NO HP HH PAN HC HI hc8
              subst e2
              go_wp2_with fail
              go_meet
              exact ⟨rfl, by omega, HF.out⟩
          case rest =>
            obtain ⟨rfl, hnb, HI2⟩ := hcut
            clear NUM NO HC HI HD hcs
            obtain ⟨n, hn⟩ : ∃ n, hl s = n := ⟨_, rfl⟩
            rw [hn] at HH HI2 hhl hnb
            obtain ⟨h1, h2, h3⟩ := HI2.out
            obtain ⟨q, hq⟩ : ∃ q, p + n = q := ⟨_, rfl⟩
            rw [hq] at HH h1 hnb
            obtain ⟨z0, z1, z2, z3, _⟩ := h1.cells
            have HSL : Hid (∀ V, Fr (fun k => k = rb) wc V → Calls Try.prog 53 #[.slice (some ⟨g, o + p, none⟩) n (c - p)] V fun e w2 => e = .returned (.int .u8 (hs (tk b p n)).toNat) ∧ Nw V w2) := by
              intro V hV
              have hsl := h1.sl p n (by omega)
              have hsl2 : Old V (.slice (some ⟨g, o + p, none⟩) n (c - p)) (tk b p n) := (hsl.kept hV (fun k hk => by subst hk; exact h1.dr)).mono (fun k hk => by have := h1.lt rb h1.kr; have := h1.dr; have := hV.size; omega)
              exact fheadSum_any _ _ V hsl2
            have hz1 : (p : Int) ≤ (q : Int) := by omega
            have hz2 : (q : Int) ≤ (c : Int) := by omega
            have hz3 : q - p = n := by omega
            have hz4 : ¬ c = p := by omega
            by_cases hsh : b.length < q + 1
            · have HT : Hid (∀ V, Nw wc V → Calls Try.prog 65 #[.pointer (some ⟨rb, 0, none⟩), .int .i64 1] V fun e w2 => ∃ ch, e = .panicked ch ∧ Hid (P (.panicked ch) w2)) := by
                intro V hV
                refine (rtake_bad (h1.nw hV) 1 hsh (by decide)).mono ?_
                rintro e w2 ⟨rfl, h4⟩
                exact ⟨_, rfl, PAN.out _ _ _ _ (by rw [HH.out, if_pos hsh]) rfl (h3.trans (hV.trans h4).any)⟩
              have HS : Hid (∀ V, Nw wc V → Calls Try.prog 53 #[.slice (some ⟨g, o + p, none⟩) n (c - p)] V fun e w2 => e = .returned (.int .u8 (hs (tk b p n)).toNat) ∧ Nw wc w2) := by
                intro V hV
                refine (HSL.out V hV.any).mono ?_
                rintro e w2 ⟨rfl, h4⟩
                exact ⟨rfl, hV.trans h4⟩
              have KEY : Hid (∀ V, Nw wc V → V.cell? ⟨rb, 0, none⟩ = some (.slice (some ⟨g, o, none⟩) b.length c)) := fun V hV => (h1.nw hV).cells.1
              clear PAN HP HH HSL h1 h2 h3 HI2
              generalize hs (tk b p n) = hv at *
              generalize b.length = L at *
              go_wp2_with fail
              go_region_with
                (first
                  | (go_at_call 65; with_reducible refine (HT.out _ ?_).mono ?_; (first | assumption | exact (Fr.refl _ _).drew | exact Fr.refl _ _ | exact (Fr.refl _ _).drewN _); rintro e w3 ⟨ch, rfl, HF⟩; (try dsimp only); apply idle_of ⟨rfl, HF.out⟩; unfold Idle)
                  | (go_at_call 53; with_reducible refine (HS.out _ ?_).mono ?_; (first | assumption | exact (Fr.refl _ _).drew | exact Fr.refl _ _ | exact (Fr.refl _ _).drewN _); rintro e w4 ⟨rfl, hN4⟩; have k0 := KEY.out _ hN4))
              all_goals trivial
            · obtain ⟨y9, hy9⟩ : ∃ y9, b[q]? = some y9 := ⟨b[q], List.getElem?_eq_getElem (by omega)⟩
              obtain ⟨AFT, hAFT⟩ : ∃ AFT : World → Prop, AFT = fun V => RdI D rb g o c b most (q + 1) out K V ∧ FB fb { f with shape := s } V ∧ Fr (fun k => k = rb ∨ k = fb) w V := ⟨_, rfl⟩
              have AN : Hid (∀ V V', AFT V → Nw V V' → AFT V') := fun V V' h4 h5 => by
                rw [hAFT] at h4 ⊢
                exact ⟨h4.1.nw h5, h4.2.1.nw h5, h4.2.2.trans h5.any⟩
              have HT : Hid (∀ V, Nw wc V → Calls Try.prog 65 #[.pointer (some ⟨rb, 0, none⟩), .int .i64 1] V fun e w2 => ∃ g' o' c', e = .returned (.slice (some ⟨g', o', none⟩) 1 c') ∧ 1 ≤ c' ∧ c' < 9223372036854775808 ∧ w2.cell? ⟨g', o', none⟩ = some (.int .u8 y9.toNat) ∧ w2.cell? ⟨rb, 0, none⟩ = some (.slice (some ⟨g, o, none⟩) b.length c) ∧ Fr (fun k => k = rb) wc w2 ∧ Hid (AFT w2)) := by
                intro V hV
                refine (rtake_ok (h1.nw hV) 1 (by omega)).mono ?_
                rintro e w2 ⟨v, rfl, h4, h5, h6⟩
                obtain ⟨g', o', c', rfl, h7, h8, h9⟩ := h4.one hy9
                refine ⟨g', o', c', rfl, h7, h8, h9, h5.cells.1, hV.any.trans h6, ?_⟩
                show AFT w2
                rw [hAFT]
                exact ⟨h5, (h2.nw hV).kept h6 hfr, (h3.trans hV.any).trans (h6.mono (fun k hk => .inl (.inl hk)))⟩
              have HS : Hid (∀ V, Fr (fun k => k = rb) wc V → Calls Try.prog 53 #[.slice (some ⟨g, o + p, none⟩) n (c - p)] V fun e w2 => e = .returned (.int .u8 (hs (tk b p n)).toNat) ∧ Nw V w2) := HSL.out
              have KEY : Hid (∀ V, Nw wc V → V.cell? ⟨rb, 0, none⟩ = some (.slice (some ⟨g, o, none⟩) b.length c)) := fun V hV => (h1.nw hV).cells.1
              have hyl := y9.isLt
              by_cases hsum : b[q]? = some (hs (tk b p n))
              · have hyy : (hs (tk b p n)) = y9 := by rw [hy9] at hsum; exact (Option.some.inj hsum).symm
                have HE : Hid (∀ V, AFT V → P (.returned (.int .u64 sz)) V) := by
                  intro V hV
                  rw [hAFT] at hV
                  rw [HP.out]
                  refine ⟨hV.2.2, ?_⟩
                  rw [HH.out, if_neg hsh, if_neg (by simp [hsum])]
                  exact ⟨rfl, hV.1, hV.2.1⟩
                rw [hyy] at HS
                clear PAN HP HH HSL h1 h2 h3 HI2 hAFT hsum hyy hy9
                generalize b.length = L at *
                go_wp2_with fail
                go_region_with
                  (first
                    | (go_at_call 65; with_reducible refine (HT.out _ ?_).mono ?_; (first | assumption | exact (Fr.refl _ _).drew | exact Fr.refl _ _ | exact (Fr.refl _ _).drewN _); rintro e w3 ⟨g', o', c', rfl, j1, j2, j3, j4, j5, HA⟩)
                    | (go_at_call 53; with_reducible refine (HS.out _ ?_).mono ?_; (first | assumption | exact (Fr.refl _ _).drew | exact Fr.refl _ _); rintro e w4 ⟨rfl, hN4⟩; have j6 := Nw.cell hN4 j3; have HA4 := AN.out _ _ HA.out hN4))
                all_goals go_wp2
                all_goals exact HE.out _ HA4
              · have hyy : ¬ (y9.toNat : Int) = ((hs (tk b p n)).toNat : Int) := by
                  intro e
                  apply hsum
                  rw [hy9]
                  exact congrArg some (BitVec.eq_of_toNat_eq (by omega))
                have hyb : ((y9.toNat : Int) != ((hs (tk b p n)).toNat : Int)) = true := by simp [hyy]
                have hpl : q < 140737488351233 := by omega
                have HG : Hid (∀ V, AFT V → Hid (Calls Try.prog 66 #[.int .i64 q, .int .i64 42] V fun e w2 => ∃ ch, e = .panicked ch ∧ Hid (P (.panicked ch) w2))) := by
                  intro V hV
                  show Calls _ _ _ _ _
                  refine (fgiveUp_any q 42 V).mono ?_
                  rintro e w3 ⟨rfl, rfl⟩
                  rw [hAFT] at hV
                  exact ⟨_, rfl, PAN.out _ _ _ _ (by rw [HH.out, if_neg hsh, if_pos hsum]) rfl hV.2.2⟩
                clear PAN HP HH HSL h1 h2 h3 HI2 hAFT hsum hy9
                generalize hs (tk b p n) = hv at *
                generalize b.length = L at *
                go_wp2_with fail
                go_region_with
                  (first
                    | (go_at_call 65; with_reducible refine (HT.out _ ?_).mono ?_; (first | assumption | exact (Fr.refl _ _).drew | exact Fr.refl _ _ | exact (Fr.refl _ _).drewN _); rintro e w3 ⟨g', o', c', rfl, j1, j2, j3, j4, j5, HA⟩)
                    | (go_at_call 53; with_reducible refine (HS.out _ ?_).mono ?_; (first | assumption | exact (Fr.refl _ _).drew | exact Fr.refl _ _); rintro e w4 ⟨rfl, hN4⟩; have j6 := Nw.cell hN4 j3; have HA4 := AN.out _ _ HA.out hN4))
                all_goals have HG' := HG.out _ HA4
                all_goals go_wp2_with (first | (go_at_call 66; with_reducible refine HG'.out.mono ?_; rintro e w5 ⟨ch, rfl, HF⟩))
                all_goals exact ⟨rfl, HF.out⟩
end Go.Proofs.Ytdeefemeiggolaa

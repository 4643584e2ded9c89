import Derived.Test.YtfmghmidklpdaaaPtE
namespace Go.Proofs.Ytfmghmidklpdaaa
open Go.RowKit
set_option linter.unusedVariables false
namespace pathOrder
set_option maxHeartbeats 16000000 in
set_option maxRecDepth 100000 in
theorem walk (w : World) (a0 a1 a2 : Option Addr) (c0 c1 c2 : Nat) (a b c : List Tx) (h0 : OldS w (.slice a0 a.length c0) a) (h1 : OldS w (.slice a1 b.length c1) b) (h2 : OldS w (.slice a2 c.length c2) c)
    (hl0 : a.length ≤ 8796093022208) (hl1 : b.length ≤ 8796093022208) (hl2 : c.length ≤ 8796093022208) :
    Calls Try.prog 8 #[.slice a0 a.length c0, .slice a1 b.length c1, .slice a2 c.length c2] w fun e w' => e = .returned (.bool true) ∧ Nw w w' := by
  obtain ⟨P, hP⟩ : ∃ P : Ending → World → Prop, P = fun e w' => e = .returned (.bool true) ∧ Nw w w' := ⟨_, rfl⟩
  rw [← hP]
  obtain ⟨gx, cx, W1, HA1, o1, n1, _⟩ := copyS w _ a h0.any hl0
  obtain ⟨gy, cy, W2, HA2, o2, n2, _⟩ := copyS W1 _ b (h1.any.nw n1) hl1
  obtain ⟨gz, cz, W3, HA3, o3, n3, _⟩ := copyS W2 _ c (h2.any.nw (n1.trans n2)) hl2
  have n03 : Nw w W3 := (n1.trans n2).trans n3
  have HF : Hid (∀ V, Nw W3 V → P (.returned (.bool true)) V) := fun V hV => by rw [hP]; exact ⟨rfl, n03.trans hV⟩
  have s0 := h0.any.nw n03
  have s1 := h1.any.nw n03
  have sx := (o1.anyS.nw n2).nw n3
  have sy := o2.anyS.nw n3
  have sz := o3.anyS
  have HXY : Hid (∀ V, Nw W3 V → Calls Try.prog 17 #[.slice (some ⟨gx, 0, none⟩) a.length cx, .slice (some ⟨gy, 0, none⟩) b.length cy] V fun e w' => e = .returned (.int .i64 (cmL a b)) ∧ Hid (Nw W3 w')) := fun V hV => (pcompare_any V _ _ a b (sx.nw hV) (sy.nw hV)).mono (fun e w' ⟨h1, h2⟩ => ⟨h1, hV.trans h2⟩)
  have HYZ : Hid (∀ V, Nw W3 V → Calls Try.prog 17 #[.slice (some ⟨gy, 0, none⟩) b.length cy, .slice (some ⟨gz, 0, none⟩) c.length cz] V fun e w' => e = .returned (.int .i64 (cmL b c)) ∧ Hid (Nw W3 w')) := fun V hV => (pcompare_any V _ _ b c (sy.nw hV) (sz.nw hV)).mono (fun e w' ⟨h1, h2⟩ => ⟨h1, hV.trans h2⟩)
  have HXZ : Hid (∀ V, Nw W3 V → Calls Try.prog 17 #[.slice (some ⟨gx, 0, none⟩) a.length cx, .slice (some ⟨gz, 0, none⟩) c.length cz] V fun e w' => e = .returned (.int .i64 (cmL a c)) ∧ Hid (Nw W3 w')) := fun V hV => (pcompare_any V _ _ a c (sx.nw hV) (sz.nw hV)).mono (fun e w' ⟨h1, h2⟩ => ⟨h1, hV.trans h2⟩)
  have HYX : Hid (∀ V, Nw W3 V → Calls Try.prog 17 #[.slice (some ⟨gy, 0, none⟩) b.length cy, .slice (some ⟨gx, 0, none⟩) a.length cx] V fun e w' => e = .returned (.int .i64 (-cmL a b)) ∧ Hid (Nw W3 w')) := fun V hV => (pcompare_any V _ _ b a (sy.nw hV) (sx.nw hV)).mono (fun e w' ⟨h1, h2⟩ => ⟨by rw [h1, cmL_neg], hV.trans h2⟩)
  have HSM : Hid (∀ V, Nw W3 V → Calls Try.prog 13 #[.slice a0 a.length c0, .slice a1 b.length c1] V fun e w' => e = .returned (.bool (decide (cmL a b = 0))) ∧ Hid (Nw W3 w')) := fun V hV => (usame_any V _ _ a b (s0.nw hV) (s1.nw hV)).mono (fun e w' ⟨h1, h2⟩ => ⟨by rw [h1]; congr 2; exact decide_eq_decide.2 (cmL_zero a b).symm, hV.trans h2⟩)
  have HUXY : Hid (∀ V, Nw W3 V → Calls Try.prog 19 #[.slice (some ⟨gx, 0, none⟩) a.length cx, .slice (some ⟨gy, 0, none⟩) b.length cy] V fun e w' => e = .returned (.bool (und a b)) ∧ Hid (Nw W3 w')) := fun V hV => (punder_any V _ _ a b (sx.nw hV) (sy.nw hV)).mono (fun e w' ⟨h1, h2⟩ => ⟨h1, hV.trans h2⟩)
  have HUZX : Hid (∀ V, Nw W3 V → Calls Try.prog 19 #[.slice (some ⟨gz, 0, none⟩) c.length cz, .slice (some ⟨gx, 0, none⟩) a.length cx] V fun e w' => e = .returned (.bool (und c a)) ∧ Hid (Nw W3 w')) := fun V hV => (punder_any V _ _ c a (sz.nw hV) (sx.nw hV)).mono (fun e w' ⟨h1, h2⟩ => ⟨h1, hV.trans h2⟩)
  have HUYX : Hid (∀ V, Nw W3 V → Calls Try.prog 19 #[.slice (some ⟨gy, 0, none⟩) b.length cy, .slice (some ⟨gx, 0, none⟩) a.length cx] V fun e w' => e = .returned (.bool (und b a)) ∧ Hid (Nw W3 w')) := fun V hV => (punder_any V _ _ b a (sy.nw hV) (sx.nw hV)).mono (fun e w' ⟨h1, h2⟩ => ⟨h1, hV.trans h2⟩)
  have HU2 : Hid (∀ V, Nw W3 V → Calls Try.prog 19 #[.slice (some ⟨V.heap.size, 0, none⟩) 2 2, .slice (some ⟨V.heap.size + 1, 0, none⟩) 1 1] ((V.alloc (.cells #[.string ⟨#[97]⟩, .string ⟨#[98]⟩] 9)).alloc (.cells #[.string ⟨#[97]⟩] 9)) fun e w' => e = .returned (.bool true) ∧ Hid (Nw W3 w')) := fun V hV => by
    have q1 := mk_lit2 V [97] [98] #[97] #[98] rfl rfl
    have q2 := mk_lit1 (V.alloc (.cells #[.string ⟨#[97]⟩, .string ⟨#[98]⟩] 9)) [97] #[97] rfl
    have e : (V.alloc (.cells #[.string ⟨#[97]⟩, .string ⟨#[98]⟩] 9)).heap.size = V.heap.size + 1 := by simp
    rw [e] at q2
    refine (punder_any _ _ _ _ _ (q1.nw ((Fr.refl _ _).alloc _)).anyS q2.anyS).mono (fun e w' ⟨h1, h2⟩ => ⟨h1, ((hV.alloc _).alloc _).trans h2⟩)
  have HC2 : Hid (∀ V, Nw W3 V → Calls Try.prog 17 #[.slice (some ⟨V.heap.size, 0, none⟩) 1 1, .slice (some ⟨V.heap.size + 1, 0, none⟩) 1 1] ((V.alloc (.cells #[.string ⟨#[97]⟩] 9)).alloc (.cells #[.string ⟨#[98]⟩] 9)) fun e w' => e = .returned (.int .i64 (-1)) ∧ Hid (Nw W3 w')) := fun V hV => by
    have q1 := mk_lit1 V [97] #[97] rfl
    have q2 := mk_lit1 (V.alloc (.cells #[.string ⟨#[97]⟩] 9)) [98] #[98] rfl
    have e : (V.alloc (.cells #[.string ⟨#[97]⟩] 9)).heap.size = V.heap.size + 1 := by simp
    rw [e] at q2
    refine (pcompare_any _ _ _ _ _ (q1.nw ((Fr.refl _ _).alloc _)).anyS q2.anyS).mono (fun e w' ⟨h1, h2⟩ => ⟨h1, ((hV.alloc _).alloc _).trans h2⟩)
  have f1 := cmL_range a b
  have f2 := cmL_range b c
  have f3 := cmL_range a c
  have hca : cmL a b = -cmL b a := cmL_neg a b
  have t1 : cmL a b < 0 → cmL b c < 0 → cmL a c < 0 := cmL_trans
  have t2 : cmL a b = 0 → cmL a c = cmL b c := fun h => by rw [(cmL_zero a b).1 h]
  have t3 : cmL b c = 0 → cmL a c = cmL a b := fun h => by rw [(cmL_zero b c).1 h]
  have t4 : und a b = true → cmL a b = 1 := und_cm
  have t5 : und c a = true → cmL a b < 0 → cmL b c < 0 → und b a = true := und_mid
  clear hP s0 s1 sx sy sz o1 o2 o3 h0 h1 h2 n1 n2 n3 hca
  generalize cmL a b = AB at *
  generalize cmL b c = BC at *
  generalize cmL a c = AC at *
  generalize und a b = U1 at *
  generalize und c a = U2 at *
  generalize und b a = U3 at *
  generalize a.length = N0 at *
  generalize b.length = N1 at *
  generalize c.length = N2 at *
  have hN3 : Hid (Nw W3 W3) := Fr.refl _ _
  have T : Hid ((AB = -1 ∨ AB = 0 ∨ AB = 1) ∧ (BC = -1 ∨ BC = 0 ∨ BC = 1) ∧ (AC = -1 ∨ AC = 0 ∨ AC = 1) ∧ (AB < 0 → BC < 0 → AC < 0) ∧ (AB = 0 → AC = BC) ∧ (BC = 0 → AC = AB) ∧ (U1 = true → AB = 1) ∧ (U2 = true → AB < 0 → BC < 0 → U3 = true)) := ⟨f1, f2, f3, t1, t2, t3, t4, t5⟩
  clear f1 f2 f3 t1 t2 t3 t4 t5
  go_enter Try.func8, Try.ntmps8
  go_upto_region 3 with (first
    | (at_builtin; refine Lib.wpList_append_run _ rfl _ _ 22 22 rfl (.slice (some ⟨w.heap.size, 0, none⟩) 0 0) (.slice a0 N0 c0) (by simp [Act.eval]) (by simp [Act.eval]) _ _ (HA1.out _) ?_)
    | (at_builtin; refine Lib.wpList_append_run _ rfl _ _ 22 22 rfl (.slice (some ⟨W1.heap.size, 0, none⟩) 0 0) (.slice a1 N1 c1) (by simp [Act.eval]) (by simp [Act.eval]) _ _ (HA2.out _) ?_)
    | (at_builtin; refine Lib.wpList_append_run _ rfl _ _ 22 22 rfl (.slice (some ⟨W2.heap.size, 0, none⟩) 0 0) (.slice a2 N2 c2) (by simp [Act.eval]) (by simp [Act.eval]) _ _ (HA3.out _) ?_)
    | (go_at_call 17; with_reducible refine (HXY.out _ hN3.out).mono ?_; rintro e wa ⟨rfl, hNa⟩)
    | (go_at_call 17; with_reducible refine (HYZ.out _ hNa.out).mono ?_; rintro e wb ⟨rfl, hNb⟩)
    | (go_at_call 17; with_reducible refine (HXZ.out _ hNb.out).mono ?_; rintro e wc1 ⟨rfl, hNc⟩))
  clear HA1 HA2 HA3 HXY HYZ HXZ
  go_cut [52] (fun x wx => x = .bool false ∧ Hid (Nw W3 wx))
  case first =>
    have hab := T.out.1
    clear T
    rcases hab with rfl | rfl | rfl
    all_goals
      go_wp2_with (first
        | (go_at_call 17; with_reducible refine (HYX.out _ hNc.out).mono ?_; rintro e wd ⟨rfl, hNd⟩)
        | (go_at_call 13; with_reducible refine (HSM.out _ hNd.out).mono ?_; rintro e we ⟨rfl, hNe⟩))
      go_meet
      exact ⟨rfl, hNe⟩
  case rest =>
  obtain ⟨rfl, HCUT⟩ := hcut
  clear HYX HSM
  obtain ⟨wA, h⟩ : ∃ z, z = wc := ⟨_, rfl⟩
  subst h
  go_upto_region 5 with fail
  go_cut [74] (fun x wx => x = .bool false ∧ wx = wA)
  case first =>
    have hab := T.out.1
    have hbc := T.out.2.1
    have hac := T.out.2.2.1
    have t1 := T.out.2.2.2.1
    have t2 := T.out.2.2.2.2.1
    have t3 := T.out.2.2.2.2.2.1
    clear T
    rcases hab with rfl | rfl | rfl <;> rcases hbc with rfl | rfl | rfl <;> rcases hac with rfl | rfl | rfl
    all_goals first
      | (exfalso; revert t1 t2 t3; decide)
      | (clear t1 t2 t3
         go_wp2_with fail
         go_meet
         exact ⟨rfl, rfl⟩)
  case rest =>
  obtain ⟨rfl, hwc⟩ := hcut
  subst hwc
  go_upto_region 7 with fail
  go_cut [81] (fun x wx => x = .bool false ∧ Hid (Nw W3 wx))
  case first =>
    have t4 := T.out.2.2.2.2.2.2.1
    clear T
    cases U1 with
    | true =>
      obtain rfl := t4 rfl
      clear t4
      go_wp2_with (first
        | (go_at_call 19; with_reducible refine (HUXY.out _ HCUT.out).mono ?_; rintro e we ⟨rfl, hNe⟩))
      go_meet
      exact ⟨rfl, hNe⟩
    | false =>
      clear t4
      go_wp2_with (first
        | (go_at_call 19; with_reducible refine (HUXY.out _ HCUT.out).mono ?_; rintro e we ⟨rfl, hNe⟩))
      go_meet
      exact ⟨rfl, hNe⟩
  case rest =>
  obtain ⟨rfl, HCUT2⟩ := hcut
  clear HUXY HCUT
  obtain ⟨wB, h⟩ : ∃ z, z = wc := ⟨_, rfl⟩
  subst h
  go_upto_region 9 with fail
  go_cut [98] (fun x wx => x = .bool false ∧ Hid (Nw W3 wx))
  case first =>
    have hab := T.out.1
    have hbc := T.out.2.1
    have t5 := T.out.2.2.2.2.2.2.2
    clear T
    cases U2 with
    | true =>
      rcases hab with rfl | rfl | rfl <;> rcases hbc with rfl | rfl | rfl
      · obtain rfl := t5 rfl (by decide) (by decide)
        clear t5
        go_wp2_with (first
          | (go_at_call 19; with_reducible refine (HUZX.out _ HCUT2.out).mono ?_; rintro e we ⟨rfl, hNe⟩)
          | (go_at_call 19; with_reducible refine (HUYX.out _ hNe.out).mono ?_; rintro e wf ⟨rfl, hNf⟩))
        go_meet
        exact ⟨rfl, hNf⟩
      all_goals
        clear t5
        go_wp2_with (first
          | (go_at_call 19; with_reducible refine (HUZX.out _ HCUT2.out).mono ?_; rintro e we ⟨rfl, hNe⟩))
        go_meet
        exact ⟨rfl, hNe⟩
    | false =>
      clear t5 hab hbc
      go_wp2_with (first
        | (go_at_call 19; with_reducible refine (HUZX.out _ HCUT2.out).mono ?_; rintro e we ⟨rfl, hNe⟩))
      go_meet
      exact ⟨rfl, hNe⟩
  case rest =>
  obtain ⟨rfl, HCUT3⟩ := hcut
  clear T HCUT2 HUZX HUYX
  obtain ⟨wC, h⟩ : ∃ z, z = wc := ⟨_, rfl⟩
  subst h
  go_wp2_with (first
    | (go_at_call 19; with_reducible refine (HU2.out _ HCUT3.out).mono ?_; rintro e we ⟨rfl, hNe⟩)
    | (go_at_call 17; with_reducible refine (HC2.out _ hNe.out).mono ?_; rintro e wf ⟨rfl, hNf⟩))
  exact HF.out _ hNf.out
end pathOrder
end Go.Proofs.Ytfmghmidklpdaaa

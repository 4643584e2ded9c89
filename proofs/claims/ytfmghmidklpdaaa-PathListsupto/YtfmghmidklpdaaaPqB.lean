import Derived.Test.YtfmghmidklpdaaaPqA
namespace Go.Proofs.Ytfmghmidklpdaaa
open Go.RowKit
set_option linter.unusedVariables false
namespace pathLists
set_option maxHeartbeats 32000000 in
set_option maxRecDepth 100000 in
theorem walk (w : World) (a0 a1 : Option Addr) (c0 c1 : Nat) (a b : List Tx) (z : Int) (h0 : OldS w (.slice a0 a.length c0) a) (h1 : OldS w (.slice a1 b.length c1) b) (ht0 : tot a ≤ 1048576) (ht1 : tot b ≤ 1048576) (hz : -9223372036854775808 ≤ z ∧ z < 9223372036854775808) :
    Calls Try.prog 4 #[.slice a0 a.length c0, .slice a1 b.length c1, .int .i64 z] w fun e w' => e = .returned (.bool true) ∧ Nw w w' := by
  obtain ⟨P, hP⟩ : ∃ P : Ending → World → Prop, P = fun e w' => e = .returned (.bool true) ∧ Nw w w' := ⟨_, rfl⟩
  rw [← hP]
  have hla := tot_len a
  have hlb := tot_len b
  have hsa : ∀ p ∈ a, p.length ≤ 140737488351232 := fun p hp => by have := tot_mem hp; omega
  have hsb : ∀ p ∈ b, p.length ≤ 140737488351232 := fun p hp => by have := tot_mem hp; omega
  have hsab : ∀ p ∈ a ++ b, p.length ≤ 140737488351232 := fun p hp => by
    rcases List.mem_append.1 hp with h | h
    · exact hsa p h
    · exact hsb p h
  obtain ⟨gx0, cx0, W1, HA1, o1, n1, hg1⟩ := copyS w _ a h0.any (by omega)
  obtain ⟨gx, cx, W2, HA2, o2, f2, hg2, hcx1, hcx2⟩ := pushS W1 gx0 a.length cx0 a o1 rfl (by omega) [98, 101, 104, 105, 110, 100]
  have n2 : Nw w W2 := Fr.then n1 f2 (fun i hi => .inr (by omega))
  have hgx : w.heap.size ≤ gx := by
    have := n1.size
    rcases hg2 with e | e <;> omega
  obtain ⟨gy, cy, W3, HA3, o3, n3, hg3⟩ := copyS W2 _ b (h1.any.nw n2) (by omega)
  have n03 : Nw w W3 := n2.trans n3
  have HL0 : Hid (LsI (fun k => W3.heap.size ≤ k) (.slice a0 a.length c0) (.slice a1 b.length c1) (.slice (some ⟨gx, 0, none⟩) a.length cx) (.slice (some ⟨gy, 0, none⟩) b.length cy) (.slice (some ⟨gx, 0, none⟩) (a.length + 1) cx) a b W3) := by
    have hxx := (o2.nw n3).oldS
    refine ⟨(h0.nw n03).mono (fun g hg => Nat.le_trans n03.size hg), (h1.nw n03).mono (fun g hg => Nat.le_trans n03.size hg), ?_, o3.oldS, hxx⟩
    exact SlR.preX hxx rfl
  have HF : Hid (∀ V, Nw w V → P (.returned (.bool true)) V) := fun V hV => by rw [hP]; exact ⟨rfl, hV⟩
  obtain ⟨va, hva⟩ : ∃ v, v = Value.slice a0 a.length c0 := ⟨_, rfl⟩
  have HLV : Hid (∀ V, Nw W3 V → LsI (fun k => W3.heap.size ≤ k) (.slice a0 a.length c0) (.slice a1 b.length c1) (.slice (some ⟨gx, 0, none⟩) a.length cx) (.slice (some ⟨gy, 0, none⟩) b.length cy) (.slice (some ⟨gx, 0, none⟩) (a.length + 1) cx) a b V) := fun V hV => HL0.out.kept hV (fun g h => h.elim)
  have HJ1 : Hid (∀ V, Nw W3 V → Calls Try.prog 15 #[.slice (some ⟨gx, 0, none⟩) a.length cx] V fun e w' => e = .returned (.tuple #[.string (mk (joinF a).1), .int .i64 ((ftF a : Nat) : Int)]) ∧ Hid (Nw W3 w')) := fun V hV => (pjoin_any V _ a (HLV.out V hV).hp.any hsa (by omega)).mono (fun e w' ⟨k1, k2⟩ => ⟨k1, hV.trans k2⟩)
  have HJ2 : Hid (∀ V, Nw W3 V → Calls Try.prog 16 #[.slice a0 a.length c0] V fun e w' => e = .returned (.tuple #[.string (mk (joinF a).1), .int .i64 ((ftF a : Nat) : Int)]) ∧ Hid (Nw W3 w')) := fun V hV => (qjoin_any V _ a (HLV.out V hV).ha.any hsa (by omega)).mono (fun e w' ⟨k1, k2⟩ => ⟨k1, hV.trans k2⟩)
  have HC1 : Hid (∀ V, Nw W3 V → Calls Try.prog 17 #[.slice (some ⟨gx, 0, none⟩) a.length cx, .slice (some ⟨gy, 0, none⟩) b.length cy] V fun e w' => e = .returned (.int .i64 (cmL a b)) ∧ Hid (Nw W3 w')) := fun V hV => (pcompare_any V _ _ a b (HLV.out V hV).hp.any (HLV.out V hV).hy.any).mono (fun e w' ⟨k1, k2⟩ => ⟨k1, hV.trans k2⟩)
  have HC2 : Hid (∀ V, Nw W3 V → Calls Try.prog 18 #[.slice a0 a.length c0, .slice a1 b.length c1] V fun e w' => e = .returned (.int .i64 (cmL a b)) ∧ Hid (Nw W3 w')) := fun V hV => (qcompare_any V _ _ a b (HLV.out V hV).ha.any (HLV.out V hV).hb.any).mono (fun e w' ⟨k1, k2⟩ => ⟨k1, hV.trans k2⟩)
  have HU1 : Hid (∀ V, Nw W3 V → Calls Try.prog 19 #[.slice (some ⟨gx, 0, none⟩) a.length cx, .slice (some ⟨gy, 0, none⟩) b.length cy] V fun e w' => e = .returned (.bool (und a b)) ∧ Hid (Nw W3 w')) := fun V hV => (punder_any V _ _ a b (HLV.out V hV).hp.any (HLV.out V hV).hy.any).mono (fun e w' ⟨k1, k2⟩ => ⟨k1, hV.trans k2⟩)
  have HU2 : Hid (∀ V, Nw W3 V → Calls Try.prog 20 #[.slice a0 a.length c0, .slice a1 b.length c1] V fun e w' => e = .returned (.bool (und a b)) ∧ Hid (Nw W3 w')) := fun V hV => (qunder_any V _ _ a b (HLV.out V hV).ha.any (HLV.out V hV).hb.any).mono (fun e w' ⟨k1, k2⟩ => ⟨k1, hV.trans k2⟩)
  have HS1 : Hid (∀ V, Nw W3 V → Calls Try.prog 21 #[.slice (some ⟨gx, 0, none⟩) a.length cx, .int .i64 z] V fun e w' => ∃ a' n' c', e = .returned (.tuple #[.slice a' n' c', .bool (stF a z).2]) ∧ Hid (NewS V a' n' c' (stF a z).1 w')) := fun V hV => pstrip_any V _ _ _ a (HLV.out V hV).hp.any rfl (by omega) z hz
  have HS2 : Hid (∀ V, Nw W3 V → Calls Try.prog 22 #[.slice a0 a.length c0, .int .i64 z] V fun e w' => ∃ a' n' c', e = .returned (.tuple #[.slice a' n' c', .bool (stF a z).2]) ∧ Hid (SlR RS (fun _ => False) (.slice a' n' c') (stF a z).1 w' ∧ V = w')) := fun V hV => (qstrip_any V _ _ _ a (HLV.out V hV).ha.any rfl z hz).mono (fun e w' ⟨x1, x2, x3, x4, x5, x6⟩ => by subst x6; exact ⟨x1, x2, x3, x4, x5, rfl⟩)
  have HP1 : Hid (∀ V, Nw W3 V → Calls Try.prog 23 #[.slice (some ⟨gx, 0, none⟩) a.length cx, .slice (some ⟨gy, 0, none⟩) b.length cy] V fun e w' => ∃ a' n' c', e = .returned (.tuple #[.slice a' n' c', .int .i64 ((ftF (a ++ b) : Nat) : Int)]) ∧ Hid (NewS V a' n' c' (plF a b) w')) := fun V hV => pplace_any V _ _ _ _ _ _ a b (HLV.out V hV).hp.any (HLV.out V hV).hy.any rfl rfl (by omega) hsab
  have HP2 : Hid (∀ V, Nw W3 V → Calls Try.prog 24 #[.slice a0 a.length c0, .slice a1 b.length c1] V fun e w' => ∃ a' n' c', e = .returned (.tuple #[.slice a' n' c', .int .i64 ((ftF (a ++ b) : Nat) : Int)]) ∧ Hid (NewS V a' n' c' (plF a b) w')) := fun V hV => qplace_any V _ _ _ _ _ _ a b (HLV.out V hV).ha.any (HLV.out V hV).hb.any rfl rfl (by omega) hsab
  have HAB := tHid joinF_ab
  have hplen : (plF a b).length ≤ 2097152 := by
    unfold plF
    split
    · rw [List.length_append]; omega
    · simp
  have hstl : (stF a z).1.length ≤ 1048576 := by
    unfold stF
    split
    · simp
    · simp only [List.length_drop]; omega
  -- behind both writings, whatever the lists D that were written over
  have HEND : Hid (∀ (D : Nat → Prop) V, LsI D (.slice a0 a.length c0) (.slice a1 b.length c1) (.slice (some ⟨gx, 0, none⟩) a.length cx) (.slice (some ⟨gy, 0, none⟩) b.length cy) (.slice (some ⟨gx, 0, none⟩) (a.length + 1) cx) a b V → Calls Try.prog 23 #[.slice (some ⟨gx, 0, none⟩) a.length cx, .slice (some ⟨gy, 0, none⟩) b.length cy] V fun e w' => ∃ a' n' c', e = .returned (.tuple #[.slice a' n' c', .int .i64 ((ftF (a ++ b) : Nat) : Int)]) ∧ Hid (NewS V a' n' c' (plF a b) w')) := fun D V h => pplace_any V _ _ _ _ _ _ a b h.hp.any h.hy.any rfl rfl (by omega) hsab
  clear hP hsa hsb hsab o1 o2 f2 o3 h0 h1 n1 n2 hg1 hg2 hg3 hva va
  obtain ⟨X, hX⟩ : ∃ X, X = (stF a z).1 := ⟨_, rfl⟩
  rw [← hX] at HS1 HS2 hstl
  obtain ⟨Y, hY⟩ : ∃ Y, Y = plF a b := ⟨_, rfl⟩
  rw [← hY] at HP1 HP2 hplen HEND
  clear hX hY
  have hb1 : ((mk (joinF a).1).toList == (mk (joinF a).1).toList) = true := beq_self_eq_true _
  have hb2 : (((ftF a : Nat) : Int) == ((ftF a : Nat) : Int)) = true := beq_self_eq_true _
  have hb3 : (cmL a b == cmL a b) = true := beq_self_eq_true _
  have hb4 : (und a b == und a b) = true := beq_self_eq_true _
  have hb5 : ((stF a z).2 == (stF a z).2) = true := beq_self_eq_true _
  have hb6 : (((ftF (a ++ b) : Nat) : Int) == ((ftF (a ++ b) : Nat) : Int)) = true := beq_self_eq_true _
  have HN3 : Hid (Nw W3 W3) := Fr.refl _ _
  have HN03 : Hid (Nw w W3) := n03
  clear n03 HL0
  have hcz1 := hcx1
  have hA : a.length ≤ 1048576 := by omega
  have hB : b.length ≤ 1048576 := by omega
  obtain ⟨A, hAe⟩ : ∃ A, A = a.length := ⟨_, rfl⟩
  obtain ⟨B, hBe⟩ : ∃ B, B = b.length := ⟨_, rfl⟩
  rw [← hAe] at HA1 HA2 HLV HJ1 HJ2 HC1 HC2 HU1 HU2 HS1 HS2 HP1 HP2 HEND hcx1 hcz1 hA ⊢
  rw [← hBe] at HA3 HLV HC1 HC2 HU1 HU2 HP1 HP2 HEND hB ⊢
  have HAe : Hid (A = a.length) := hAe
  clear hAe hBe ht0 ht1 hla hlb
  generalize mk (joinF a).1 = sj at *
  generalize ftF a = yj at *
  generalize cmL a b = zc at *
  generalize und a b = bu at *
  generalize (stF a z).2 = bs at *
  generalize ftF (a ++ b) = yp at *
  go_enter Try.func4, Try.ntmps4
  go_upto_region 5 with (first
    | (at_builtin; refine Lib.wpList_append_run _ rfl _ _ 22 22 rfl (.slice (some ⟨w.heap.size, 0, none⟩) 0 0) (.slice a0 A c0) (by simp [Act.eval]) (by simp [Act.eval]) _ _ (HA1.out _) ?_)
    | (at_builtin; refine Lib.wpList_append_run _ rfl _ _ 22 22 rfl (.slice (some ⟨gx0, 0, none⟩) A cx0) (.slice (some ⟨W1.heap.size, 0, none⟩) 1 1) (by simp [Act.eval]) (by simp [Act.eval]) _ _ (HA2.out _) ?_)
    | (at_builtin; refine Lib.wpList_append_run _ rfl _ _ 22 22 rfl (.slice (some ⟨W2.heap.size, 0, none⟩) 0 0) (.slice a1 B c1) (by simp [Act.eval]) (by simp [Act.eval]) _ _ (HA3.out _) ?_)
    | (go_at_call 15; with_reducible refine (HJ1.out W3 HN3.out).mono ?_; rintro e wa ⟨rfl, Na⟩)
    | (go_at_call 16; with_reducible refine (HJ2.out wa Na.out).mono ?_; rintro e wb ⟨rfl, Nb⟩))
  clear HA1 HA2 HA3 HJ1 HJ2
  go_cut [74] (fun x wx => x = .bool false ∧ Hid (Nw W3 wx))
  case first =>
    clear HS1 HS2 HP1 HP2 HEND HF HLV HAB
    go_wp2_with (first
      | (go_at_call 17; with_reducible refine (HC1.out _ Nb.out).mono ?_; rintro e wd ⟨rfl, Nd⟩)
      | (go_at_call 18; with_reducible refine (HC2.out _ Nd.out).mono ?_; rintro e we ⟨rfl, Ne⟩)
      | (go_at_call 19; with_reducible refine (HU1.out _ Ne.out).mono ?_; rintro e wf ⟨rfl, Nf⟩)
      | (go_at_call 20; with_reducible refine (HU2.out _ Nf.out).mono ?_; rintro e wg ⟨rfl, Ng⟩))
    go_meet
    exact ⟨rfl, Ng⟩
  case rest =>
  obtain ⟨rfl, HCUT⟩ := hcut
  clear HC1 HC2 HU1 HU2 Na Nb HN3
  obtain ⟨wA, h⟩ : ∃ z, z = wc := ⟨_, rfl⟩
  subst h
  have HS2' : Hid (∀ V a1 n1 c1, NewS wA a1 n1 c1 X V → Calls Try.prog 22 #[.slice a0 A c0, .int .i64 z] V fun e w' => ∃ a' n' c', e = .returned (.tuple #[.slice a' n' c', .bool bs]) ∧ Hid (SlR RS (fun _ => False) (.slice a' n' c') X w' ∧ V = w')) := fun V a1 n1 c1 h => HS2.out V (HCUT.out.trans h.nw)
  go_upto_region 9 with (first
    | (go_at_call 21; with_reducible refine (HS1.out wA HCUT.out).mono ?_; rintro e w5 ⟨ua, un, uc, rfl, H5⟩)
    | (go_at_call 22; with_reducible refine (HS2'.out w5 _ _ _ H5.out).mono ?_; rintro e w6 ⟨va, vn, vc, rfl, H6⟩))
  obtain ⟨h6s, h6e⟩ := H6.out
  subst h6e
  have HV5 := tHid h6s
  clear h6s H6 HS1 HS2 HS2'
  have N5 : Nw W3 w5 := HCUT.out.trans H5.out.nw
  have HP1' := tHid (HP1.out w5 N5)
  have HP2' : Hid (∀ V x1 x2 x3, NewS w5 x1 x2 x3 Y V → Calls Try.prog 24 #[.slice a0 A c0, .slice a1 B c1] V fun e w' => ∃ a' n' c', e = .returned (.tuple #[.slice a' n' c', .int .i64 ((yp : Nat) : Int)]) ∧ Hid (NewS V a' n' c' Y w')) := fun V x1 x2 x3 h => HP2.out V (N5.trans h.nw)
  have HN5 := tHid N5
  clear N5 HP1 HP2
  go_upto_region 11 with (first
    | (go_at_call 23; with_reducible refine HP1'.out.mono ?_; rintro e w7 ⟨la, ln, lc, rfl, H7⟩)
    | (go_at_call 24; with_reducible refine (HP2'.out w7 _ _ _ H7.out).mono ?_; rintro e w8 ⟨ma, mn, mc, rfl, H8⟩))
  clear HP1' HP2'
  -- all that stands now
  obtain ⟨ogu, u1, u2, u3⟩ := H5.out
  obtain ⟨ogl, l1, l2, l3⟩ := H7.out
  obtain ⟨ogm, m1, m2, m3⟩ := H8.out
  have N58 : Nw w5 w8 := l3.trans m3
  have hLs : LsI (fun k => ogu = some k ∨ ogl = some k) (.slice a0 A c0) (.slice a1 B c1) (.slice (some ⟨gx, 0, none⟩) A cx) (.slice (some ⟨gy, 0, none⟩) B cy) (.slice (some ⟨gx, 0, none⟩) (A + 1) cx) a b w8 := by
    refine (HLV.out w8 (HN5.out.trans N58)).mono (fun g hg => ?_)
    rcases hg with e | e
    · exact Nat.le_trans HCUT.out.size (u2 g e)
    · exact Nat.le_trans HN5.out.size (l2 g e)
  have hu8 := u1.nw N58
  have hl8 := l1.nw m3
  have hul : ∀ g, ogl = some g → ¬ ogu = some g := fun g e1 e2 => by
    have := u1.lt g e2
    have := l2 g e1
    omega
  have hmX : SlR RS (fun k => ogu = some k ∨ ogl = some k) (.slice ma mn mc) Y w8 := (m1.slr rsOk).mono (fun k hk e => by
    rcases hk with h | h
    · have := u1.lt k h
      have := m2 k e
      have := l3.size
      omega
    · have := l1.lt k h
      have := m2 k e
      omega)
  have hmlen := (og_len m1).1
  have hDw : ∀ k, (ogu = some k ∨ ogl = some k) → w.heap.size ≤ k := fun k hk => by
    have q1 := HN03.out.size
    have q2 := HCUT.out.size
    have q3 := HN5.out.size
    rcases hk with e | e
    · have := u2 k e; omega
    · have := l2 k e; omega
  have hw8 : Nw w w8 := (HN03.out.trans HN5.out).trans N58
  have HSV : Hid (SlR RS (fun _ => False) (.slice va vn vc) X w8) := HV5.out.nw N58
  have HSU : Hid (SlR RS (fun _ => False) (.slice ua un uc) X w8) := (hu8.slr rsOk).any
  have HSLL : Hid (SlR RS (fun _ => False) (.slice la ln lc) Y w8) := (hl8.slr rsOk).any
  have HLS := tHid hLs
  have HMX := tHid hmX
  have HFACT := tHid (And.intro hu8 (And.intro hl8 (And.intro hul (And.intro hDw (And.intro hw8 (And.intro hmlen (And.intro (og_len u1).1 (og_len l1).1)))))))
  clear u1 u2 u3 l1 l2 l3 m1 m2 m3 N58 hLs hu8 hl8 hul hmX hmlen hDw hw8 H5 H7 H8 HV5 HLV HN5 HCUT
  have HM1 : Hid (∀ V, Nw w8 V → Calls Try.prog 13 #[.slice ua un uc, .slice va vn vc] V fun e w' => e = .returned (.bool true) ∧ Hid (Nw w8 w')) := fun V hV => (usame_any V _ _ X X (HSU.out.nw hV) (HSV.out.nw hV)).mono (fun e w' ⟨k1, k2⟩ => ⟨by rw [k1, decide_eq_true rfl], hV.trans k2⟩)
  have HM2 : Hid (∀ V, Nw w8 V → Calls Try.prog 13 #[.slice la ln lc, .slice ma mn mc] V fun e w' => e = .returned (.bool true) ∧ Hid (Nw w8 w')) := fun V hV => (usame_any V _ _ Y Y (HSLL.out.nw hV) (HMX.out.any.nw hV)).mono (fun e w' ⟨k1, k2⟩ => ⟨by rw [k1, decide_eq_true rfl], hV.trans k2⟩)
  have HM3 : Hid (∀ V, Nw w8 V → Calls Try.prog 13 #[.slice (some ⟨gx, 0, none⟩) A cx, .slice a0 A c0] V fun e w' => e = .returned (.bool true) ∧ Hid (Nw w8 w')) := fun V hV => (usame_any V _ _ a a (HLS.out.hp.any.nw hV) (HLS.out.ha.any.nw hV)).mono (fun e w' ⟨k1, k2⟩ => ⟨by rw [k1, decide_eq_true rfl], hV.trans k2⟩)
  have HM4 : Hid (∀ V, Nw w8 V → Calls Try.prog 13 #[.slice (some ⟨gy, 0, none⟩) B cy, .slice a1 B c1] V fun e w' => e = .returned (.bool true) ∧ Hid (Nw w8 w')) := fun V hV => (usame_any V _ _ b b (HLS.out.hy.any.nw hV) (HLS.out.hb.any.nw hV)).mono (fun e w' ⟨k1, k2⟩ => ⟨by rw [k1, decide_eq_true rfl], hV.trans k2⟩)
  have HN8 : Hid (Nw w8 w8) := Fr.refl _ _
  go_cut [130] (fun x wx => x = .bool false ∧ Hid (Nw w8 wx))
  case first =>
    clear HEND HF HAB HSV HSU HSLL HLS HMX HFACT
    go_wp2_with (first
      | (go_at_call 13; with_reducible refine (HM1.out _ HN8.out).mono ?_; rintro e wd ⟨rfl, Nd⟩)
      | (go_at_call 13; with_reducible refine (HM2.out _ Nd.out).mono ?_; rintro e we ⟨rfl, Ne⟩)
      | (go_at_call 13; with_reducible refine (HM3.out _ Ne.out).mono ?_; rintro e wf ⟨rfl, Nf⟩)
      | (go_at_call 13; with_reducible refine (HM4.out _ Nf.out).mono ?_; rintro e wg ⟨rfl, Ng⟩))
    go_meet
    exact ⟨rfl, Ng⟩
  case rest =>
  obtain ⟨rfl, HCUT9⟩ := hcut
  clear HM1 HM2 HM3 HM4 HN8 HSV HSU HSLL
  obtain ⟨w9, h⟩ : ∃ z, z = wc := ⟨_, rfl⟩
  subst h
  obtain ⟨hu8, hl8, hul, hDw, hw8, hmlen, hun, hln⟩ := HFACT.out
  obtain ⟨gw, cw, W10, HA10, o10, n10, hgw⟩ := copyS w9 _ Y (HMX.out.any.nw HCUT9.out) (by omega)
  rw [hmlen] at HA10 o10
  have N810 : Nw w8 W10 := HCUT9.out.trans n10
  have hwX : SlR RS (fun k => ogu = some k ∨ ogl = some k) (.slice (some ⟨gw, 0, none⟩) mn cw) Y W10 := (o10.slr rsOk).mono (fun k hk e => by
    have q1 := HCUT9.out.size
    rcases hk with h | h
    · have := hu8.lt k h; omega
    · have := hl8.lt k h; omega)
  have hu10 := hu8.nw N810
  have hl10 := hl8.nw N810
  have hLs10 := HLS.out.kept N810 (fun g h => h.elim)
  have HW1 : Hid (Calls Try.prog 14 #[.slice ua un uc] W10 fun e w11 => e = .returned (.tuple #[]) ∧ Hid (Calls Try.prog 14 #[.slice la ln lc] w11 fun e w12 => e = .returned (.tuple #[]) ∧ Hid (LsI (fun k => ogu = some k ∨ ogl = some k) (.slice a0 A c0) (.slice a1 B c1) (.slice (some ⟨gx, 0, none⟩) A cx) (.slice (some ⟨gy, 0, none⟩) B cy) (.slice (some ⟨gx, 0, none⟩) (A + 1) cx) a b w12 ∧ SlR RS (fun k => ogu = some k ∨ ogl = some k) (.slice (some ⟨gw, 0, none⟩) mn cw) Y w12 ∧ Nw w w12))) := by
    show Calls _ _ _ _ _
    refine (written_any W10 ogu ua un uc X hu10 (by omega)).mono ?_
    rintro e w11 ⟨rfl, f11⟩
    refine ⟨rfl, ?_⟩
    show Calls _ _ _ _ _
    refine (written_any w11 ogl la ln lc Y (hl10.kept f11 (fun g hg hk => hul g hg hk)) (by omega)).mono ?_
    rintro e w12 ⟨rfl, f12⟩
    exact ⟨rfl, (hLs10.kept f11 (fun g hg => .inl hg)).kept f12 (fun g hg => .inr hg), (hwX.kept f11 (fun g hg => .inl hg)).kept f12 (fun g hg => .inr hg), Fr.then (Fr.then (hw8.trans N810) f11 (fun i hi => .inr (hDw i (.inl hi)))) f12 (fun i hi => .inr (hDw i (.inr hi)))⟩
  clear hu8 hl8 hul hDw hw8 hun hln HFACT HMX HLS o10 n10 hgw N810 hwX hu10 hl10 hLs10 HCUT9
  go_upto_region 16 with (first
    | (at_builtin; refine Lib.wpList_append_run _ rfl _ _ 22 22 rfl (.slice (some ⟨w9.heap.size, 0, none⟩) 0 0) (.slice ma mn mc) (by simp [Act.eval]) (by simp [Act.eval]) _ _ (HA10.out _) ?_)
    | (go_at_call 14; with_reducible refine HW1.out.mono ?_; rintro e w11 ⟨rfl, H11⟩)
    | (go_at_call 14; with_reducible refine H11.out.mono ?_; rintro e w12 ⟨rfl, H12⟩))
  clear HW1 H11 HA10
  have HPL := tHid (HEND.out _ w12 H12.out.1)
  clear HEND
  go_upto_region 18 with (first
    | (go_at_call 23; with_reducible refine HPL.out.mono ?_; rintro e w13 ⟨ga, gn, gc, rfl, H13⟩)
    | (go_at_call 15; with_reducible refine (HAB.out w13).mono ?_; rintro e w14 ⟨rfl, N14⟩))
  have N12 : Nw w12 w14 := H13.out.nw.trans N14.out
  have HL14 : Hid (∀ V, Nw w14 V → LsI (fun k => ogu = some k ∨ ogl = some k) (.slice a0 A c0) (.slice a1 B c1) (.slice (some ⟨gx, 0, none⟩) A cx) (.slice (some ⟨gy, 0, none⟩) B cy) (.slice (some ⟨gx, 0, none⟩) (A + 1) cx) a b V) := fun V hV => H12.out.1.kept (N12.trans hV) (fun g h => h.elim)
  have HG14 : Hid (SlR RS (fun _ => False) (.slice ga gn gc) Y w14 ∧ SlR RS (fun _ => False) (.slice (some ⟨gw, 0, none⟩) mn cw) Y w14) := ⟨H13.out.sl.nw N14.out, H12.out.2.1.any.nw N12⟩
  have HE1 : Hid (∀ V, Nw w14 V → Calls Try.prog 13 #[.slice (some ⟨gx, 0, none⟩) A cx, .slice a0 A c0] V fun e w' => e = .returned (.bool true) ∧ w'.cell? ⟨gx, A, none⟩ = some (.string ⟨#[98, 101, 104, 105, 110, 100]⟩) ∧ Hid (Nw w14 w')) := fun V hV => (usame_any V _ _ a a (HL14.out V hV).hp.any (HL14.out V hV).ha.any).mono (fun e w' ⟨k1, k2⟩ => by
    refine ⟨by rw [k1, decide_eq_true rfl], ?_, hV.trans k2⟩
    have hx := (HL14.out w' (hV.trans k2)).hx
    have hAl := HAe.out
    obtain ⟨g', o', e', _, hc⟩ := rs_at hx A (by rw [List.length_append, List.length_singleton]; omega)
    injection e' with e'
    injection e' with e1 e2 _
    subst e1 e2
    rw [Nat.zero_add] at hc
    rw [hc]
    congr 2
    rw [List.getElem_append_right (by omega)]
    simp [hAl]
    rfl)
  have HE2 : Hid (∀ V, Nw w14 V → Calls Try.prog 13 #[.slice (some ⟨gy, 0, none⟩) B cy, .slice a1 B c1] V fun e w' => e = .returned (.bool true) ∧ Hid (Nw w14 w')) := fun V hV => (usame_any V _ _ b b (HL14.out V hV).hy.any (HL14.out V hV).hb.any).mono (fun e w' ⟨k1, k2⟩ => ⟨by rw [k1, decide_eq_true rfl], hV.trans k2⟩)
  have HE3 : Hid (∀ V, Nw w14 V → Calls Try.prog 13 #[.slice ga gn gc, .slice (some ⟨gw, 0, none⟩) mn cw] V fun e w' => e = .returned (.bool true) ∧ Hid (Nw w14 w')) := fun V hV => (usame_any V _ _ Y Y (HG14.out.1.nw hV) (HG14.out.2.nw hV)).mono (fun e w' ⟨k1, k2⟩ => ⟨by rw [k1, decide_eq_true rfl], hV.trans k2⟩)
  have HN14 : Hid (Nw w14 w14) := Fr.refl _ _
  have HW14 : Hid (Nw w w14) := H12.out.2.2.trans N12
  have HFF : Hid (∀ V, Nw w14 V → P (.returned (.bool true)) V) := fun V hV => HF.out V (HW14.out.trans hV)
  have y1 : A < A + 1 := by omega
  have y2 : (A : Int) < ((A + 1 : Nat) : Int) := by omega
  clear HL14 HG14 N12 H12 H13 N14 HPL HAB HF HW14
  go_wp2_with (first
    | (go_at_call 13; with_reducible refine (HE1.out _ HN14.out).mono ?_; rintro e we ⟨rfl, hce, Ne⟩)
    | (go_at_call 13; with_reducible refine (HE2.out _ Ne.out).mono ?_; rintro e wf ⟨rfl, Nf⟩)
    | (go_at_call 13; with_reducible refine (HE3.out _ Nf.out).mono ?_; rintro e wg ⟨rfl, Ng⟩))
  exact HFF.out _ Ng.out
end pathLists
end Go.Proofs.Ytfmghmidklpdaaa

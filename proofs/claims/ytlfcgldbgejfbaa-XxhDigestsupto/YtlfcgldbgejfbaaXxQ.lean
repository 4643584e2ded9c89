import Derived.Test.YtlfcgldbgejfbaaXxO
namespace Go.Proofs.Ytlfcgldbgejfbaa
open Go.RowKit
set_option linter.unusedVariables false
set_option maxHeartbeats 40000000 in
set_option maxRecDepth 100000 in
theorem rsum64_few (s : BitVec 64) (g o1 c : Nat) (l : List By) (w : World) (hrd : Rd g o1 l w) (hc : l.length ≤ c) (hc2 : c < 9223372036854775808) (hs : l.length < 32) :
    Calls Try.prog 12 #[.int .u64 s.toNat, .slice (some ⟨g, o1, none⟩) l.length c] w fun e w' => e = .returned (.int .u64 (s64 s l).toNat) ∧ Nw w w' := by
  have RD : Hid (∀ V, Nw w V → Rd g o1 l V) := fun V hV => hrd.nw hV
  obtain ⟨h0, hh0⟩ : ∃ h0, h0 = s + 2870177450012600261#64 + BitVec.ofNat 64 l.length := ⟨_, rfl⟩
  have hE0 : Hid (IntKind.u64.wrap (IntKind.u64.wrap ((s.toNat : Int) + 2870177450012600261) + l.length) = (h0.toNat : Int)) := by
    show _ = _
    rw [hh0, i_add64, i_add64]; simp only [BitVec.toNat_ofNat, IntKind.wrap_u64]; omega
  have HF0 : Hid (s64 s l = fin64 h0 l) := by
    show _ = _
    rw [s64, beg64, if_pos hs, Nat.div_eq_of_lt hs, hh0]; rfl
  have HA0 : Hid (At g o1 (0 * 8) l (.slice (some ⟨g, o1, none⟩) l.length c) l.length) := ⟨o1, c, rfl, by omega, hc, hc2, .inr (by omega)⟩
  have hAc := hc
  have hAc2 := hc2
  have HNS : Hid (Nw w w) := Fr.refl _ _
  have hz0 : (l.length : Int) < 32 := by omega
  clear hrd hh0
  go_enter Try.func12, Try.ntmps12
  go_wp2
  rw [hE0.out]
  generalize IntKind.u64.wrap ((s.toNat : Int) + 2870177450012600261) = e1
  generalize decide ((32 : Int) ≤ (l.length : Int)) = b1
  go_loopg [5, 6] l.length (fun kx h r wr => ∃ k m : Nat, h = .int .u64 (foldc 8 wd64 k h0 l).toNat ∧ Hid (At g o1 (k * 8) l r m) ∧ (∃ o' c', r = .slice (some ⟨g, o', none⟩) m c' ∧ m ≤ c' ∧ c' < 9223372036854775808) ∧ m + k * 8 = l.length ∧ m ≤ kx ∧ Nw w wr)
  case atStart => exact ⟨0, l.length, rfl, HA0, ⟨_, _, rfl, hAc, hAc2⟩, by omega, by omega, HNS.out⟩
  case round =>
    obtain ⟨k, m, rfl, hA, ⟨o', c', rfl, hmc, hc2⟩, hmk, hkx, hN⟩ := hrel
    by_cases hge : 8 ≤ m
    · have hz : (8 : Int) ≤ (m : Int) := by omega
      have AA := At.next (k := 8) hA.out hge (by decide)
      have A1 : Hid (c' = 8 → At g o1 (k * 8 + 8) l (.slice (some ⟨g, o', none⟩) (m - 8) (c' - 8)) (m - 8)) := AA.1
      have A2 : Hid (At g o1 (k * 8 + 8) l (.slice (some ⟨g, o' + 8, none⟩) (m - 8) (c' - 8)) (m - 8)) := AA.2
      clear AA
      have HL : Hid (∀ V, Nw w V → Calls Try.prog 29 #[.slice (some ⟨g, o', none⟩) m c'] V fun e w' => e = .returned (.int .u64 (lo64 (l.drop (k * 8))).toNat) ∧ Nw w w') := fun V hV => cbase hV (rlow64_any g _ _ V (hA.out.sl (RD.out V hV)) (by simp; omega))
      obtain ⟨H, hH⟩ : ∃ H, foldc 8 wd64 k h0 l = H := ⟨_, rfl⟩
      have HQ : Hid (∀ V, Nw w V → Calls Try.prog 28 #[.int .u64 0, .int .u64 (lo64 (l.drop (k * 8))).toNat] V fun e w' => e = .returned (.int .u64 (rd64 0#64 (lo64 (l.drop (k * 8)))).toNat) ∧ Nw w w') := fun V hV => cbase hV (rround_at 0#64 _ _ _ rfl rfl V)
      have HR : Hid (∀ V, Nw w V → Calls Try.prog 30 #[.int .u64 (bits .xor .u64 (H.toNat : Int) ((rd64 0#64 (lo64 (l.drop (k * 8)))).toNat : Int)), .int .i64 27] V fun e w' => e = .returned (.int .u64 ((H ^^^ rd64 0#64 (lo64 (l.drop (k * 8)))).rotateLeft 27).toNat) ∧ Nw w w') := fun V hV => cbase hV (rrot64_at _ 27 _ (i_xor64 _ _) (by decide) (by decide) V)
      have hE : Hid (((((H ^^^ rd64 0#64 (lo64 (l.drop (k * 8)))).rotateLeft 27).toNat * 11400714785074694791 : Int) % 18446744073709551616 + 9650029242287828579) % 18446744073709551616 = ((wd64 H ((l.drop (k * 8)).take 8)).toNat : Int)) := by show _ = _; rw [wd64, lo64_take, i_add64, i_mul64]; rfl
      rw [hH]
      have hH : Hid (foldc 8 wd64 k h0 l = H) := hH
      generalize (H ^^^ rd64 0#64 (lo64 (l.drop (k * 8)))).rotateLeft 27 = R at *
      generalize rd64 0#64 (lo64 (l.drop (k * 8))) = Q at *
      generalize lo64 (l.drop (k * 8)) = A at *
      by_cases hcs : c' = 8
      · subst hcs
        obtain rfl : m = 8 := by omega
        go_wp2_with (first
          | (go_at_call 29; with_reducible refine (HL.out _ ?_).mono ?_; (first | assumption | exact (Fr.refl _ _).drew | exact Fr.refl _ _ | exact (Fr.refl _ _).drewN _); rintro e w1 ⟨rfl, hN1⟩)
          | (go_at_call 28; with_reducible refine (HQ.out _ ?_).mono ?_; (first | assumption | exact (Fr.refl _ _).drew | exact Fr.refl _ _ | exact (Fr.refl _ _).drewN _); rintro e w3 ⟨rfl, hN3⟩)
          | (go_at_call 30; with_reducible refine (HR.out _ ?_).mono ?_; (first | assumption | exact (Fr.refl _ _).drew | exact Fr.refl _ _ | exact (Fr.refl _ _).drewN _); rintro e w2 ⟨rfl, hN2⟩))
        go_roundg 0
        case measure => omega
        case rel => exact ⟨k + 1, 0, by rw [foldc_snoc, hH.out]; exact congrArg (fun z => Value.int .u64 z) (by have := hE.out; (try simp only [IntKind.wrap_u64]); omega), (by rw [Nat.add_mul]; first | exact A1.out rfl | exact A1.out trivial), ⟨_, _, rfl, by omega, by omega⟩, by rw [Nat.add_mul]; omega, by omega, by assumption⟩
      · have hcs' : ¬ 8 = c' := fun h => hcs h.symm
        go_wp2_with (first
          | (go_at_call 29; with_reducible refine (HL.out _ ?_).mono ?_; (first | assumption | exact (Fr.refl _ _).drew | exact Fr.refl _ _ | exact (Fr.refl _ _).drewN _); rintro e w1 ⟨rfl, hN1⟩)
          | (go_at_call 28; with_reducible refine (HQ.out _ ?_).mono ?_; (first | assumption | exact (Fr.refl _ _).drew | exact Fr.refl _ _ | exact (Fr.refl _ _).drewN _); rintro e w3 ⟨rfl, hN3⟩)
          | (go_at_call 30; with_reducible refine (HR.out _ ?_).mono ?_; (first | assumption | exact (Fr.refl _ _).drew | exact Fr.refl _ _ | exact (Fr.refl _ _).drewN _); rintro e w2 ⟨rfl, hN2⟩))
        go_roundg (m - 8)
        case measure => omega
        case rel => exact ⟨k + 1, m - 8, by rw [foldc_snoc, hH.out]; exact congrArg (fun z => Value.int .u64 z) (by have := hE.out; (try simp only [IntKind.wrap_u64]); omega), (by rw [Nat.add_mul]; exact A2.out), ⟨_, _, rfl, by omega, by omega⟩, by rw [Nat.add_mul]; omega, by omega, by assumption⟩
    · have hz : (m : Int) < 8 := by omega
      have hdiv : l.length / 8 = k := div_at (by decide) hmk (by omega)
      have RD1 : Hid (∀ V, Nw w V → Rd g o' (l.drop (k * 8)) V) := by
        intro V hV
        obtain ⟨o2, c2, he, _, _, hrr⟩ := hA.out.sl (RD.out V hV)
        injection he with he _ _
        injection he with he
        injection he with _ he
        subst he
        exact hrr
      obtain ⟨t1, ht2⟩ : ∃ x, x = l.drop (k * 8) := ⟨_, rfl⟩
      obtain ⟨h1, hh2⟩ : ∃ x, x = foldc 8 wd64 k h0 l := ⟨_, rfl⟩
      have ht2l : t1.length = m := by rw [ht2]; simp; omega
      rw [← ht2] at RD1
      rw [← hh2]
      have ht1s : t1.length < 8 := by omega
      have HF1 : Hid (s64 s l = ava64 (foldc 1 bt64 (t1.drop (t1.length / 4 * 4)).length (foldc 4 hw64 (t1.length / 4) h1 t1) (t1.drop (t1.length / 4 * 4)))) := by
        show _ = _
        rw [HF0.out, hh2, ht2, ← hdiv]; rfl
      clear ht2 hh2 hdiv hA hmk RD
      subst ht2l
      clear hAc hAc2
      obtain ⟨o2, hO2⟩ : ∃ x, x = o' := ⟨_, rfl⟩
      have hAc := hmc
      have hAc2 := hc2
      subst hO2
      have HN2 : Hid (Nw w wr) := hN
      obtain ⟨wA, hwA⟩ : ∃ z, z = wr := ⟨_, rfl⟩
      subst hwA
      clear hN hmc hc2 hge
      by_cases hfour : 4 ≤ t1.length
      · have hNA := HN2.out
        have hz4 : (4 : Int) ≤ (t1.length : Int) := by omega
        have HL : Hid (∀ V, Nw w V → Calls Try.prog 27 #[.slice (some ⟨g, o2, none⟩) t1.length c'] V fun e w' => e = .returned (.int .u32 (lo32 t1).toNat) ∧ Nw w w') := fun V hV => cbase hV (rlow32_any g _ _ V ⟨o2, c', rfl, hAc, hAc2, RD1.out V hV⟩ hfour)
        have hY : Hid ((hf64 t1).toNat = (lo32 t1).toNat) := hf64_nat t1 hfour
        obtain ⟨H, hH⟩ : ∃ H, H = h1 := ⟨_, rfl⟩
        have HX : Hid (∀ z V, z = ((lo32 t1).toNat : Int) * 11400714785074694791 % 18446744073709551616 → Nw w V → Calls Try.prog 30 #[.int .u64 (bits .xor .u64 (H.toNat : Int) z), .int .i64 23] V fun e w' => e = .returned (.int .u64 ((H ^^^ (hf64 t1 * 11400714785074694791#64)).rotateLeft 23).toNat) ∧ Nw w w') := fun z V hz hV => cbase hV (rrot64_at _ 23 _ (by rw [show z = (((hf64 t1 * 11400714785074694791#64).toNat : Nat) : Int) by rw [hz, i_mul64, hY.out]; rfl]; exact i_xor64 _ _) (by decide) (by decide) V)
        have hE : Hid (((((H ^^^ (hf64 t1 * 11400714785074694791#64)).rotateLeft 23).toNat * 14029467366897019727 : Int) % 18446744073709551616 + 1609587929392839161) % 18446744073709551616 = ((hw64 H t1).toNat : Int)) := by show _ = _; rw [hw64, i_add64, i_mul64]; rfl
        rw [← hH]
        obtain ⟨h2, hh2⟩ : ∃ h2, h2 = hw64 H t1 := ⟨_, rfl⟩
        obtain ⟨t2, ht2⟩ : ∃ t2, t2 = t1.drop 4 := ⟨_, rfl⟩
        have hd1 : t1.length / 4 = 1 := by omega
        have HF2 : Hid (s64 s l = xc64 (xb64 (xa64 (foldc 1 bt64 t2.length h2 t2)))) := by
          show _ = _
          rw [HF1.out, hd1, hh2, ht2, hH]
          show ava64 (foldc 1 bt64 _ (hw64 h1 (t1.take 4)) _) = _
          rw [hw64, hf64_take]; rfl
        have ht2l : t2.length = t1.length - 4 := by rw [ht2]; simp
        have RD2 : Hid (∀ V, Nw w V → Rd g (o2 + 4) t2 V) := fun V hV => by rw [ht2]; exact (RD1.out V hV).drop 4
        have hlA := (lo32 t1).isLt
        have hw2 : Hid (IntKind.u64.wrap (IntKind.u64.wrap ((((H ^^^ (hf64 t1 * 11400714785074694791#64)).rotateLeft 23).toNat : Int) * 14029467366897019727) + 1609587929392839161) = (h2.toNat : Int)) := by show _ = _; rw [hh2, ← hE.out, IntKind.wrap_u64, IntKind.wrap_u64]
        clear hh2 hE hY hd1 ht2 HF1 hH
        generalize (H ^^^ (hf64 t1 * 11400714785074694791#64)).rotateLeft 23 = R at *
        generalize lo32 t1 = A at *
        generalize t1.length = n1 at *
        by_cases hcs : c' = 4
        · obtain rfl : n1 = 4 := by omega
          subst hcs
          obtain rfl : t2 = [] := List.length_eq_zero_iff.1 (by omega)
          go_wp2_with (first
              | (go_at_call 27; with_reducible refine (HL.out _ ?_).mono ?_; (first | assumption | exact (Fr.refl _ _).drew | exact Fr.refl _ _ | exact (Fr.refl _ _).drewN _); rintro e w1 ⟨rfl, hN1⟩)
              | (go_at_call 30; with_reducible refine (HX.out _ _ ?_ ?_).mono ?_; (first | (focus (simp only [IntKind.wrap_u64]; done)) | (focus (simp only [IntKind.wrap_u64]; omega)) | (focus omega)); (first | assumption | exact (Fr.refl _ _).drew | exact Fr.refl _ _ | exact (Fr.refl _ _).drewN _); rintro e w2 ⟨rfl, hN2⟩))
          rw [hw2.out]
          generalize IntKind.u64.wrap ((R.toNat : Int) * 14029467366897019727) = e20
          try generalize IntKind.u64.wrap ((A.toNat : Int) * 11400714785074694791) = e21
          try generalize IntKind.u64.wrap (IntKind.u64.wrap (A.toNat : Int) * 11400714785074694791) = e22
          try generalize IntKind.u64.wrap (A.toNat : Int) = e23
          have HN3 : Hid (Nw w w2) := hN2
          clear hN1 hN2 HL HX hw2
          obtain ⟨t2, ht2e⟩ : ∃ t2, t2 = ([] : List By) := ⟨_, rfl⟩
          have ht20 : t2.length = 0 := by rw [ht2e]; rfl
          rw [← ht2e] at HF2
          have hAcb : t2.length ≤ 0 := by omega
          clear hAc hAc2 RD2
          have hAc := hAcb
          have hAc2 : (0 : Nat) < 9223372036854775808 := by decide
          have RD2 : Hid (∀ V, Nw w V → Rd g o2 t2 V) := fun V hV => by rw [ht2e]; exact Rd.nil _ _ _
          obtain ⟨o3, ho3⟩ : ∃ o3, o3 = o2 := ⟨_, rfl⟩
          subst ho3
          have HA1 : Hid (At g o3 (0 * 1) t2 (.slice (some ⟨g, o3, none⟩) t2.length 0) t2.length) := ⟨o3, 0, rfl, by omega, hAc, hAc2, .inr (by omega)⟩
          rw [show Value.slice (some ⟨g, o3, none⟩) 0 0 = Value.slice (some ⟨g, o3, none⟩) t2.length 0 by rw [ht20]]
          clear ht2e ht20
          go_loopg [5, 6] t2.length (fun kx h r wr => ∃ k m : Nat, h = .int .u64 (foldc 1 bt64 k h2 t2).toNat ∧ Hid (At g o3 (k * 1) t2 r m) ∧ (∃ o' c', r = .slice (some ⟨g, o', none⟩) m c' ∧ m ≤ c' ∧ c' < 9223372036854775808) ∧ m + k * 1 = t2.length ∧ m ≤ kx ∧ Nw w wr)
          case atStart => exact ⟨0, t2.length, rfl, HA1, ⟨_, _, rfl, hAc, hAc2⟩, by omega, by omega, HN3.out⟩
          case round =>
            obtain ⟨k, m, rfl, hA, ⟨o', c', rfl, hmc, hc2⟩, hmk, hkx, hN⟩ := hrel
            by_cases hge : 1 ≤ m
            · exfalso; omega
            · have hz : (m : Int) < 1 := by omega
              have hdiv : t2.length / 1 = k := div_at (by decide) hmk (by omega)
              obtain ⟨hf, hhf⟩ : ∃ hf, hf = foldc 1 bt64 k h2 t2 := ⟨_, rfl⟩
              have HF : Hid (s64 s l = xc64 (xb64 (xa64 hf))) := by
                show _ = _
                rw [HF2.out, hhf, ← hdiv, mod1]
              rw [← hhf]
              clear hhf hdiv
              have hS' : Hid (((s64 s l).toNat : Int) = ((xc64 (xb64 (xa64 hf))).toNat : Int)) := by show _ = _; rw [HF.out]
              go_wp2
              go_ret
              exact ⟨congrArg (fun z => Ending.returned (.int .u64 z)) (by rw [hS'.out]; (try simp only [IntKind.wrap_u64]); rw [i_xa64, i_xb64, i_xc64]), hN⟩
        · have hcs' : ¬ 4 = c' := fun h => hcs h.symm
          go_wp2_with (first
              | (go_at_call 27; with_reducible refine (HL.out _ ?_).mono ?_; (first | assumption | exact (Fr.refl _ _).drew | exact Fr.refl _ _ | exact (Fr.refl _ _).drewN _); rintro e w1 ⟨rfl, hN1⟩)
              | (go_at_call 30; with_reducible refine (HX.out _ _ ?_ ?_).mono ?_; (first | (focus (simp only [IntKind.wrap_u64]; done)) | (focus (simp only [IntKind.wrap_u64]; omega)) | (focus omega)); (first | assumption | exact (Fr.refl _ _).drew | exact Fr.refl _ _ | exact (Fr.refl _ _).drewN _); rintro e w2 ⟨rfl, hN2⟩))
          rw [hw2.out]
          generalize IntKind.u64.wrap ((R.toNat : Int) * 14029467366897019727) = e20
          try generalize IntKind.u64.wrap ((A.toNat : Int) * 11400714785074694791) = e21
          try generalize IntKind.u64.wrap (IntKind.u64.wrap (A.toNat : Int) * 11400714785074694791) = e22
          try generalize IntKind.u64.wrap (A.toNat : Int) = e23
          have HN3 : Hid (Nw w w2) := hN2
          clear hN1 hN2 HL HX hw2
          have hAcb : t2.length ≤ c' - 4 := by omega
          have hAcd : c' - 4 < 9223372036854775808 := by omega
          clear hAc hAc2
          have hAc := hAcb
          have hAc2 := hAcd
          obtain ⟨o3, ho3⟩ : ∃ o3, o3 = o2 + 4 := ⟨_, rfl⟩
          rw [← ho3] at RD2 ⊢
          rw [← ht2l]
          obtain ⟨c2, hc2e⟩ : ∃ c2, c2 = c' - 4 := ⟨_, rfl⟩
          rw [← hc2e] at hAc hAc2 ⊢
          clear ho3 ht2l hc2e hAcb hAcd
          have HA1 : Hid (At g o3 (0 * 1) t2 (.slice (some ⟨g, o3, none⟩) t2.length c2) t2.length) := ⟨o3, c2, rfl, by omega, hAc, hAc2, .inr (by omega)⟩
          go_loopg [5, 6] t2.length (fun kx h r wr => ∃ k m : Nat, h = .int .u64 (foldc 1 bt64 k h2 t2).toNat ∧ Hid (At g o3 (k * 1) t2 r m) ∧ (∃ o' c', r = .slice (some ⟨g, o', none⟩) m c' ∧ m ≤ c' ∧ c' < 9223372036854775808) ∧ m + k * 1 = t2.length ∧ m ≤ kx ∧ Nw w wr)
          case atStart => exact ⟨0, t2.length, rfl, HA1, ⟨_, _, rfl, hAc, hAc2⟩, by omega, by omega, HN3.out⟩
          case round =>
            obtain ⟨k, m, rfl, hA, ⟨o', c', rfl, hmc, hc2⟩, hmk, hkx, hN⟩ := hrel
            by_cases hge : 1 ≤ m
            · have hz : (1 : Int) ≤ (m : Int) := by omega
              have AA := At.next (k := 1) hA.out hge (by decide)
              have A1 : Hid (c' = 1 → At g o3 (k * 1 + 1) t2 (.slice (some ⟨g, o', none⟩) (m - 1) (c' - 1)) (m - 1)) := AA.1
              have A2 : Hid (At g o3 (k * 1 + 1) t2 (.slice (some ⟨g, o' + 1, none⟩) (m - 1) (c' - 1)) (m - 1)) := AA.2
              clear AA
              obtain ⟨y, hy⟩ : ∃ y, (t2.drop (k * 1))[0]? = some y := ⟨t2[k * 1], by simp⟩
              have hcl : wr.cell? ⟨g, o', none⟩ = some (.int .u8 y.toNat) := by
                obtain ⟨o2, c2, he, _, _, hrr⟩ := hA.out.sl (RD2.out wr hN)
                injection he with he _ _
                injection he with he
                injection he with _ he
                subst he
                exact hrr.at 0 y hy
              have hY : Hid ((by64 (t2.drop (k * 1))).toNat = y.toNat) := by64_nat _ y hy
              obtain ⟨H, hH⟩ : ∃ H, foldc 1 bt64 k h2 t2 = H := ⟨_, rfl⟩
              have HX : Hid (∀ z V, z = (y.toNat : Int) * 2870177450012600261 % 18446744073709551616 → Nw w V → Calls Try.prog 30 #[.int .u64 (bits .xor .u64 (H.toNat : Int) z), .int .i64 11] V fun e w' => e = .returned (.int .u64 ((H ^^^ (by64 (t2.drop (k * 1)) * 2870177450012600261#64)).rotateLeft 11).toNat) ∧ Nw w w') := fun z V hz hV => cbase hV (rrot64_at _ 11 _ (by rw [show z = (((by64 (t2.drop (k * 1)) * 2870177450012600261#64).toNat : Nat) : Int) by rw [hz, i_mul64, hY.out]; rfl]; exact i_xor64 _ _) (by decide) (by decide) V)
              have hE : Hid ((((H ^^^ (by64 (t2.drop (k * 1)) * 2870177450012600261#64)).rotateLeft 11).toNat * 11400714785074694791 : Int) % 18446744073709551616 = ((bt64 H ((t2.drop (k * 1)).take 1)).toNat : Int)) := by show _ = _; rw [bt64, by64_take, i_mul64]; rfl
              rw [hH]
              have hH : Hid (foldc 1 bt64 k h2 t2 = H) := hH
              clear hy
              have hyl := y.isLt
              generalize (H ^^^ (by64 (t2.drop (k * 1)) * 2870177450012600261#64)).rotateLeft 11 = R at *
              by_cases hcs : c' = 1
              · subst hcs
                obtain rfl : m = 1 := by omega
                go_wp2_with (first
                  | (go_at_call 30; with_reducible refine (HX.out _ _ ?_ ?_).mono ?_; (first | (focus (simp only [IntKind.wrap_u64]; done)) | (focus (simp only [IntKind.wrap_u64]; omega)) | (focus omega)); (first | assumption | exact (Fr.refl _ _).drew | exact Fr.refl _ _ | exact (Fr.refl _ _).drewN _); rintro e w2 ⟨rfl, hN2⟩))
                go_roundg 0
                case measure => omega
                case rel => exact ⟨k + 1, 0, by rw [foldc_snoc, hH.out]; exact congrArg (fun z => Value.int .u64 z) (by have := hE.out; (try simp only [IntKind.wrap_u64]); omega), (by rw [Nat.add_mul]; first | exact A1.out rfl | exact A1.out trivial), ⟨_, _, rfl, by omega, by omega⟩, by rw [Nat.add_mul]; omega, by omega, by assumption⟩
              · have hcs' : ¬ 1 = c' := fun h => hcs h.symm
                go_wp2_with (first
                  | (go_at_call 30; with_reducible refine (HX.out _ _ ?_ ?_).mono ?_; (first | (focus (simp only [IntKind.wrap_u64]; done)) | (focus (simp only [IntKind.wrap_u64]; omega)) | (focus omega)); (first | assumption | exact (Fr.refl _ _).drew | exact Fr.refl _ _ | exact (Fr.refl _ _).drewN _); rintro e w2 ⟨rfl, hN2⟩))
                go_roundg (m - 1)
                case measure => omega
                case rel => exact ⟨k + 1, m - 1, by rw [foldc_snoc, hH.out]; exact congrArg (fun z => Value.int .u64 z) (by have := hE.out; (try simp only [IntKind.wrap_u64]); omega), (by rw [Nat.add_mul]; exact A2.out), ⟨_, _, rfl, by omega, by omega⟩, by rw [Nat.add_mul]; omega, by omega, by assumption⟩
            · have hz : (m : Int) < 1 := by omega
              have hdiv : t2.length / 1 = k := div_at (by decide) hmk (by omega)
              obtain ⟨hf, hhf⟩ : ∃ hf, hf = foldc 1 bt64 k h2 t2 := ⟨_, rfl⟩
              have HF : Hid (s64 s l = xc64 (xb64 (xa64 hf))) := by
                show _ = _
                rw [HF2.out, hhf, ← hdiv, mod1]
              rw [← hhf]
              clear hhf hdiv
              have hS' : Hid (((s64 s l).toNat : Int) = ((xc64 (xb64 (xa64 hf))).toNat : Int)) := by show _ = _; rw [HF.out]
              go_wp2
              go_ret
              exact ⟨congrArg (fun z => Ending.returned (.int .u64 z)) (by rw [hS'.out]; (try simp only [IntKind.wrap_u64]); rw [i_xa64, i_xb64, i_xc64]), hN⟩
      · have hz4 : (t1.length : Int) < 4 := by omega
        obtain ⟨t2, ht2⟩ : ∃ t2, t2 = t1 := ⟨_, rfl⟩
        obtain ⟨h2, hh2⟩ : ∃ h2, h2 = h1 := ⟨_, rfl⟩
        obtain ⟨o3, ho3⟩ : ∃ o3, o3 = o2 := ⟨_, rfl⟩
        subst ht2 hh2 ho3
        have HF2 : Hid (s64 s l = xc64 (xb64 (xa64 (foldc 1 bt64 t2.length h2 t2)))) := by
          show _ = _
          rw [HF1.out, show t2.length / 4 = 0 by omega]; rfl
        have RD2 := RD1
        have HN3 := HN2
        have HA1 : Hid (At g o3 (0 * 1) t2 (.slice (some ⟨g, o3, none⟩) t2.length c') t2.length) := ⟨o3, c', rfl, by omega, hAc, hAc2, .inr (by omega)⟩
        go_wp2
        go_loopg [5, 6] t2.length (fun kx h r wr => ∃ k m : Nat, h = .int .u64 (foldc 1 bt64 k h2 t2).toNat ∧ Hid (At g o3 (k * 1) t2 r m) ∧ (∃ o' c', r = .slice (some ⟨g, o', none⟩) m c' ∧ m ≤ c' ∧ c' < 9223372036854775808) ∧ m + k * 1 = t2.length ∧ m ≤ kx ∧ Nw w wr)
        case atStart => exact ⟨0, t2.length, rfl, HA1, ⟨_, _, rfl, hAc, hAc2⟩, by omega, by omega, HN3.out⟩
        case round =>
          obtain ⟨k, m, rfl, hA, ⟨o', c', rfl, hmc, hc2⟩, hmk, hkx, hN⟩ := hrel
          by_cases hge : 1 ≤ m
          · have hz : (1 : Int) ≤ (m : Int) := by omega
            have AA := At.next (k := 1) hA.out hge (by decide)
            have A1 : Hid (c' = 1 → At g o3 (k * 1 + 1) t2 (.slice (some ⟨g, o', none⟩) (m - 1) (c' - 1)) (m - 1)) := AA.1
            have A2 : Hid (At g o3 (k * 1 + 1) t2 (.slice (some ⟨g, o' + 1, none⟩) (m - 1) (c' - 1)) (m - 1)) := AA.2
            clear AA
            obtain ⟨y, hy⟩ : ∃ y, (t2.drop (k * 1))[0]? = some y := ⟨t2[k * 1], by simp⟩
            have hcl : wr.cell? ⟨g, o', none⟩ = some (.int .u8 y.toNat) := by
              obtain ⟨o2, c2, he, _, _, hrr⟩ := hA.out.sl (RD2.out wr hN)
              injection he with he _ _
              injection he with he
              injection he with _ he
              subst he
              exact hrr.at 0 y hy
            have hY : Hid ((by64 (t2.drop (k * 1))).toNat = y.toNat) := by64_nat _ y hy
            obtain ⟨H, hH⟩ : ∃ H, foldc 1 bt64 k h2 t2 = H := ⟨_, rfl⟩
            have HX : Hid (∀ z V, z = (y.toNat : Int) * 2870177450012600261 % 18446744073709551616 → Nw w V → Calls Try.prog 30 #[.int .u64 (bits .xor .u64 (H.toNat : Int) z), .int .i64 11] V fun e w' => e = .returned (.int .u64 ((H ^^^ (by64 (t2.drop (k * 1)) * 2870177450012600261#64)).rotateLeft 11).toNat) ∧ Nw w w') := fun z V hz hV => cbase hV (rrot64_at _ 11 _ (by rw [show z = (((by64 (t2.drop (k * 1)) * 2870177450012600261#64).toNat : Nat) : Int) by rw [hz, i_mul64, hY.out]; rfl]; exact i_xor64 _ _) (by decide) (by decide) V)
            have hE : Hid ((((H ^^^ (by64 (t2.drop (k * 1)) * 2870177450012600261#64)).rotateLeft 11).toNat * 11400714785074694791 : Int) % 18446744073709551616 = ((bt64 H ((t2.drop (k * 1)).take 1)).toNat : Int)) := by show _ = _; rw [bt64, by64_take, i_mul64]; rfl
            rw [hH]
            have hH : Hid (foldc 1 bt64 k h2 t2 = H) := hH
            clear hy
            have hyl := y.isLt
            generalize (H ^^^ (by64 (t2.drop (k * 1)) * 2870177450012600261#64)).rotateLeft 11 = R at *
            by_cases hcs : c' = 1
            · subst hcs
              obtain rfl : m = 1 := by omega
              go_wp2_with (first
                | (go_at_call 30; with_reducible refine (HX.out _ _ ?_ ?_).mono ?_; (first | (focus (simp only [IntKind.wrap_u64]; done)) | (focus (simp only [IntKind.wrap_u64]; omega)) | (focus omega)); (first | assumption | exact (Fr.refl _ _).drew | exact Fr.refl _ _ | exact (Fr.refl _ _).drewN _); rintro e w2 ⟨rfl, hN2⟩))
              go_roundg 0
              case measure => omega
              case rel => exact ⟨k + 1, 0, by rw [foldc_snoc, hH.out]; exact congrArg (fun z => Value.int .u64 z) (by have := hE.out; (try simp only [IntKind.wrap_u64]); omega), (by rw [Nat.add_mul]; first | exact A1.out rfl | exact A1.out trivial), ⟨_, _, rfl, by omega, by omega⟩, by rw [Nat.add_mul]; omega, by omega, by assumption⟩
            · have hcs' : ¬ 1 = c' := fun h => hcs h.symm
              go_wp2_with (first
                | (go_at_call 30; with_reducible refine (HX.out _ _ ?_ ?_).mono ?_; (first | (focus (simp only [IntKind.wrap_u64]; done)) | (focus (simp only [IntKind.wrap_u64]; omega)) | (focus omega)); (first | assumption | exact (Fr.refl _ _).drew | exact Fr.refl _ _ | exact (Fr.refl _ _).drewN _); rintro e w2 ⟨rfl, hN2⟩))
              go_roundg (m - 1)
              case measure => omega
              case rel => exact ⟨k + 1, m - 1, by rw [foldc_snoc, hH.out]; exact congrArg (fun z => Value.int .u64 z) (by have := hE.out; (try simp only [IntKind.wrap_u64]); omega), (by rw [Nat.add_mul]; exact A2.out), ⟨_, _, rfl, by omega, by omega⟩, by rw [Nat.add_mul]; omega, by omega, by assumption⟩
          · have hz : (m : Int) < 1 := by omega
            have hdiv : t2.length / 1 = k := div_at (by decide) hmk (by omega)
            obtain ⟨hf, hhf⟩ : ∃ hf, hf = foldc 1 bt64 k h2 t2 := ⟨_, rfl⟩
            have HF : Hid (s64 s l = xc64 (xb64 (xa64 hf))) := by
              show _ = _
              rw [HF2.out, hhf, ← hdiv, mod1]
            rw [← hhf]
            clear hhf hdiv
            have hS' : Hid (((s64 s l).toNat : Int) = ((xc64 (xb64 (xa64 hf))).toNat : Int)) := by show _ = _; rw [HF.out]
            go_wp2
            go_ret
            exact ⟨congrArg (fun z => Ending.returned (.int .u64 z)) (by rw [hS'.out]; (try simp only [IntKind.wrap_u64]); rw [i_xa64, i_xb64, i_xc64]), hN⟩
end Go.Proofs.Ytlfcgldbgejfbaa

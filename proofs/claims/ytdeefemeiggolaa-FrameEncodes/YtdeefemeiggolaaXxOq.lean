import Derived.Test.YtdeefemeiggolaaQb
namespace Go.Proofs.Ytdeefemeiggolaa
open Go.RowKit
set_option linter.unusedVariables false
theorem lo32_take (l : List By) : lo32 (l.take 4) = lo32 l := by simp [lo32, List.take_take]
theorem lo64_take (l : List By) : lo64 (l.take 8) = lo64 l := by simp [lo64, List.take_take]
theorem hf64_take (l : List By) : hf64 (l.take 4) = hf64 l := by simp [hf64, List.take_take]
theorem by32_take (l : List By) : by32 (l.take 1) = by32 l := by simp [by32, List.take_take]
theorem by64_take (l : List By) : by64 (l.take 1) = by64 l := by simp [by64, List.take_take]
/-- Where a slice of the rest of l, from place q on, may stand. -/
def At (g o q : Nat) (l : List By) (r : Value) (m : Nat) : Prop := ∃ o' c', r = .slice (some ⟨g, o', none⟩) m c' ∧ m + q = l.length ∧ m ≤ c' ∧ c' < 9223372036854775808 ∧ (m = 0 ∨ o' = o + q)
theorem At.sl {g o q m : Nat} {l : List By} {r : Value} {w : World} (h : At g o q l r m) (hr : Rd g o l w) : SlB g r (l.drop q) w := by
  obtain ⟨o', c', rfl, h1, h2, h3, h4⟩ := h
  have hl : (l.drop q).length = m := by simp; omega
  refine ⟨o', c', by rw [hl], by omega, h3, ?_⟩
  rcases h4 with h4 | h4
  · have : l.drop q = [] := by simp; omega
    rw [this]; exact Rd.nil _ _ _
  · rw [h4]; exact hr.drop q
theorem At.next {g o q m k : Nat} {l : List By} {o' c' : Nat} (h : At g o q l (.slice (some ⟨g, o', none⟩) m c') m) (hk : k ≤ m) (hk0 : 0 < k) : (c' = k → At g o (q + k) l (.slice (some ⟨g, o', none⟩) (m - k) (c' - k)) (m - k)) ∧ At g o (q + k) l (.slice (some ⟨g, o' + k, none⟩) (m - k) (c' - k)) (m - k) := by
  obtain ⟨o1, c1, he, h1, h2, h3, h4⟩ := h
  injection he with he _ he2
  injection he with he
  injection he with _ he
  subst he he2
  exact ⟨fun hc => ⟨o', c' - k, rfl, by omega, by omega, by omega, .inl (by omega)⟩, ⟨o' + k, c' - k, rfl, by omega, by omega, by omega, by rcases h4 with h4 | h4; omega; exact .inr (by omega)⟩⟩
theorem div_at {n k m size : Nat} (hs : 0 < size) (h : m + k * size = n) (hm : m < size) : n / size = k := by
  rw [Nat.div_eq_iff hs]; omega
set_option maxHeartbeats 40000000 in
set_option maxRecDepth 100000 in
theorem rsum32_few (s : BitVec 32) (g o1 c : Nat) (l : List By) (w : World) (hrd : Rd g o1 l w) (hc : l.length ≤ c) (hc2 : c < 9223372036854775808) (hs : l.length < 16) :
    Calls Try.prog 45 #[.int .u32 s.toNat, .slice (some ⟨g, o1, none⟩) l.length c] w fun e w' => e = .returned (.int .u32 (s32 s l).toNat) ∧ Nw w w' := by
  have RD : Hid (∀ V, Nw w V → Rd g o1 l V) := fun V hV => hrd.nw hV
  obtain ⟨h0, hh0⟩ : ∃ h0, h0 = s + 374761393#32 + BitVec.ofNat 32 l.length := ⟨_, rfl⟩
  have hE0 : Hid ((((s.toNat : Int) + 374761393) % 4294967296 + l.length) % 4294967296 = (h0.toNat : Int)) := by
    show _ = _
    rw [hh0, i_add32, i_add32]; simp only [BitVec.toNat_ofNat]; omega
  have HF0 : Hid (s32 s l = xc32 (xb32 (xa32 (foldc 1 bt32 (l.length % 4) (foldc 4 wd32 (l.length / 4) h0 l) (l.drop (l.length / 4 * 4)))))) := by
    show _ = _
    rw [s32, beg32, if_pos hs, Nat.div_eq_of_lt hs, hh0]; rfl
  have HA0 : Hid (At g o1 (0 * 4) l (.slice (some ⟨g, o1, none⟩) l.length c) l.length) := ⟨o1, c, rfl, by omega, hc, hc2, .inr (by omega)⟩
  have hAc := hc
  have hAc2 := hc2
  have HNS : Hid (Nw w w) := Fr.refl _ _
  have hz0 : (l.length : Int) < 16 := by omega
  clear hrd hh0
  go_enter Try.func45, Try.ntmps45
  go_wp2
  rw [hE0.out]
  generalize ((s.toNat : Int) + 374761393) % 4294967296 = e1
  generalize decide ((16 : Int) ≤ (l.length : Int)) = b1
  go_loopg [5, 6] l.length (fun kx h r wr => ∃ k m : Nat, h = .int .u32 (foldc 4 wd32 k h0 l).toNat ∧ Hid (At g o1 (k * 4) l r m) ∧ (∃ o' c', r = .slice (some ⟨g, o', none⟩) m c' ∧ m ≤ c' ∧ c' < 9223372036854775808) ∧ m + k * 4 = l.length ∧ m ≤ kx ∧ Nw w wr)
  case atStart => exact ⟨0, l.length, rfl, HA0, ⟨_, _, rfl, hAc, hAc2⟩, by omega, by omega, HNS.out⟩
  case round =>
    obtain ⟨k, m, rfl, hA, ⟨o', c', rfl, hmc, hc2⟩, hmk, hkx, hN⟩ := hrel
    by_cases hge : 4 ≤ m
    · have hz : (4 : Int) ≤ (m : Int) := by omega
      have AA := At.next (k := 4) hA.out hge (by decide)
      have A1 : Hid (c' = 4 → At g o1 (k * 4 + 4) l (.slice (some ⟨g, o', none⟩) (m - 4) (c' - 4)) (m - 4)) := AA.1
      have A2 : Hid (At g o1 (k * 4 + 4) l (.slice (some ⟨g, o' + 4, none⟩) (m - 4) (c' - 4)) (m - 4)) := AA.2
      clear AA
      have HL : Hid (∀ V, Nw w V → Calls Try.prog 62 #[.slice (some ⟨g, o', none⟩) m c'] V fun e w' => e = .returned (.int .u32 (lo32 (l.drop (k * 4))).toNat) ∧ Nw w w') := fun V hV => cbase hV (rlow32_any g _ _ V (hA.out.sl (RD.out V hV)) (by simp; omega))
      obtain ⟨H, hH⟩ : ∃ H, foldc 4 wd32 k h0 l = H := ⟨_, rfl⟩
      have HR : Hid (∀ z V, z = ((H.toNat : Int) + (lo32 (l.drop (k * 4))).toNat * 3266489917) % 4294967296 → Nw w V → Calls Try.prog 61 #[.int .u32 z, .int .i64 17] V fun e w' => e = .returned (.int .u32 ((H + lo32 (l.drop (k * 4)) * 3266489917#32).rotateLeft 17).toNat) ∧ Nw w w') := fun z V hz hV => cbase hV (rrot32_at _ 17 z (hz.trans (by rw [i_add32, i_mul32]; simp)) (by decide) (by decide) V)
      have hE : Hid ((((H + lo32 (l.drop (k * 4)) * 3266489917#32).rotateLeft 17).toNat * 668265263 : Int) % 4294967296 = ((wd32 H ((l.drop (k * 4)).take 4)).toNat : Int)) := by show _ = _; rw [wd32, lo32_take, i_mul32]; rfl
      rw [hH]
      have hH : Hid (foldc 4 wd32 k h0 l = H) := hH
      generalize (H + lo32 (l.drop (k * 4)) * 3266489917#32).rotateLeft 17 = R at *
      generalize lo32 (l.drop (k * 4)) = A at *
      by_cases hcs : c' = 4
      · subst hcs
        obtain rfl : m = 4 := by omega
        go_wp2_with (first
          | (go_at_call 62; with_reducible refine (HL.out _ ?_).mono ?_; (first | assumption | exact (Fr.refl _ _).drew | exact Fr.refl _ _ | exact (Fr.refl _ _).drewN _); rintro e w1 ⟨rfl, hN1⟩)
          | (go_at_call 61; with_reducible refine (HR.out _ _ ?_ ?_).mono ?_; (first | rfl | (simp only [IntKind.wrap_u32]; omega) | omega); (first | assumption | exact (Fr.refl _ _).drew | exact Fr.refl _ _ | exact (Fr.refl _ _).drewN _); rintro e w2 ⟨rfl, hN2⟩))
        go_roundg 0
        case measure => omega
        case rel => exact ⟨k + 1, 0, by rw [foldc_snoc, hH.out]; exact congrArg (fun z => Value.int .u32 z) (by have := hE.out; (try simp only [IntKind.wrap_u32]); omega), (by rw [Nat.add_mul]; first | exact A1.out rfl | exact A1.out trivial), ⟨_, _, rfl, by omega, by omega⟩, by rw [Nat.add_mul]; omega, by omega, by assumption⟩
      · have hcs' : ¬ 4 = c' := fun h => hcs h.symm
        go_wp2_with (first
          | (go_at_call 62; with_reducible refine (HL.out _ ?_).mono ?_; (first | assumption | exact (Fr.refl _ _).drew | exact Fr.refl _ _ | exact (Fr.refl _ _).drewN _); rintro e w1 ⟨rfl, hN1⟩)
          | (go_at_call 61; with_reducible refine (HR.out _ _ ?_ ?_).mono ?_; (first | rfl | (simp only [IntKind.wrap_u32]; omega) | omega); (first | assumption | exact (Fr.refl _ _).drew | exact Fr.refl _ _ | exact (Fr.refl _ _).drewN _); rintro e w2 ⟨rfl, hN2⟩))
        go_roundg (m - 4)
        case measure => omega
        case rel => exact ⟨k + 1, m - 4, by rw [foldc_snoc, hH.out]; exact congrArg (fun z => Value.int .u32 z) (by have := hE.out; (try simp only [IntKind.wrap_u32]); omega), (by rw [Nat.add_mul]; exact A2.out), ⟨_, _, rfl, by omega, by omega⟩, by rw [Nat.add_mul]; omega, by omega, by assumption⟩
    · have hz : (m : Int) < 4 := by omega
      have hdiv : l.length / 4 = k := div_at (by decide) hmk (by omega)
      have RD4 : Hid (∀ V, Nw w V → Rd g o' (l.drop (k * 4)) V) := by
        intro V hV
        obtain ⟨o2, c2, he, _, _, hrr⟩ := hA.out.sl (RD.out V hV)
        injection he with he _ _
        injection he with he
        injection he with _ he
        subst he
        exact hrr
      obtain ⟨t4, ht2⟩ : ∃ x, x = l.drop (k * 4) := ⟨_, rfl⟩
      obtain ⟨h4, hh2⟩ : ∃ x, x = foldc 4 wd32 k h0 l := ⟨_, rfl⟩
      have ht2l : t4.length = m := by rw [ht2]; simp; omega
      rw [← ht2] at RD4
      rw [← hh2]
      have HF4 : Hid (s32 s l = xc32 (xb32 (xa32 (foldc 1 bt32 t4.length h4 t4)))) := by
        show _ = _
        rw [HF0.out, hh2, ht2, ← hdiv]
        have hml := mod_split l.length 4
        rw [show (l.drop (l.length / 4 * 4)).length = l.length % 4 by simp; omega]
      clear ht2 hh2 hdiv hA hmk RD
      subst ht2l
      clear hAc hAc2
      obtain ⟨o4, hO2⟩ : ∃ x, x = o' := ⟨_, rfl⟩
      have hAc := hmc
      have hAc2 := hc2
      subst hO2
      have HN2 : Hid (Nw w wr) := hN
      obtain ⟨wA, hwA⟩ : ∃ z, z = wr := ⟨_, rfl⟩
      subst hwA
      clear hN hmc hc2 hge
      have HA1 : Hid (At g o4 (0 * 1) t4 (.slice (some ⟨g, o4, none⟩) t4.length c') t4.length) := ⟨o4, c', rfl, by omega, hAc, hAc2, .inr (by omega)⟩
      go_wp2
      go_loopg [5, 6] t4.length (fun kx h r wr => ∃ k m : Nat, h = .int .u32 (foldc 1 bt32 k h4 t4).toNat ∧ Hid (At g o4 (k * 1) t4 r m) ∧ (∃ o' c', r = .slice (some ⟨g, o', none⟩) m c' ∧ m ≤ c' ∧ c' < 9223372036854775808) ∧ m + k * 1 = t4.length ∧ m ≤ kx ∧ Nw w wr)
      case atStart => exact ⟨0, t4.length, rfl, HA1, ⟨_, _, rfl, hAc, hAc2⟩, by omega, by omega, HN2.out⟩
      case round =>
        obtain ⟨k, m, rfl, hA, ⟨o', c', rfl, hmc, hc2⟩, hmk, hkx, hN⟩ := hrel
        by_cases hge : 1 ≤ m
        · have hz : (1 : Int) ≤ (m : Int) := by omega
          have AA := At.next (k := 1) hA.out hge (by decide)
          have A1 : Hid (c' = 1 → At g o4 (k * 1 + 1) t4 (.slice (some ⟨g, o', none⟩) (m - 1) (c' - 1)) (m - 1)) := AA.1
          have A2 : Hid (At g o4 (k * 1 + 1) t4 (.slice (some ⟨g, o' + 1, none⟩) (m - 1) (c' - 1)) (m - 1)) := AA.2
          clear AA
          obtain ⟨y, hy⟩ : ∃ y, (t4.drop (k * 1))[0]? = some y := ⟨t4[k * 1], by simp⟩
          have hcl : wr.cell? ⟨g, o', none⟩ = some (.int .u8 y.toNat) := by
            obtain ⟨o2, c2, he, _, _, hrr⟩ := hA.out.sl (RD4.out wr hN)
            injection he with he _ _
            injection he with he
            injection he with _ he
            subst he
            exact hrr.at 0 y hy
          have hY : Hid ((by32 (t4.drop (k * 1))).toNat = y.toNat) := by32_nat _ y hy
          obtain ⟨H, hH⟩ : ∃ H, foldc 1 bt32 k h4 t4 = H := ⟨_, rfl⟩
          have HR : Hid (∀ z V, z = ((H.toNat : Int) + y.toNat * 374761393) % 4294967296 → Nw w V → Calls Try.prog 61 #[.int .u32 z, .int .i64 11] V fun e w' => e = .returned (.int .u32 ((H + by32 (t4.drop (k * 1)) * 374761393#32).rotateLeft 11).toNat) ∧ Nw w w') := fun z V hz hV => cbase hV (rrot32_at _ 11 z (hz.trans (by rw [i_add32, i_mul32, hY.out]; simp)) (by decide) (by decide) V)
          have hE : Hid ((((H + by32 (t4.drop (k * 1)) * 374761393#32).rotateLeft 11).toNat * 2654435761 : Int) % 4294967296 = ((bt32 H ((t4.drop (k * 1)).take 1)).toNat : Int)) := by show _ = _; rw [bt32, by32_take, i_mul32]; rfl
          rw [hH]
          have hH : Hid (foldc 1 bt32 k h4 t4 = H) := hH
          clear hy
          generalize (H + by32 (t4.drop (k * 1)) * 374761393#32).rotateLeft 11 = R at *
          by_cases hcs : c' = 1
          · subst hcs
            obtain rfl : m = 1 := by omega
            go_wp2_with (first
              | (go_at_call 61; with_reducible refine (HR.out _ _ ?_ ?_).mono ?_; (first | rfl | (simp only [IntKind.wrap_u32]; omega) | omega); (first | assumption | exact (Fr.refl _ _).drew | exact Fr.refl _ _ | exact (Fr.refl _ _).drewN _); rintro e w2 ⟨rfl, hN2⟩))
            go_roundg 0
            case measure => omega
            case rel => exact ⟨k + 1, 0, by rw [foldc_snoc, hH.out]; exact congrArg (fun z => Value.int .u32 z) (by have := hE.out; (try simp only [IntKind.wrap_u32]); omega), (by rw [Nat.add_mul]; first | exact A1.out rfl | exact A1.out trivial), ⟨_, _, rfl, by omega, by omega⟩, by rw [Nat.add_mul]; omega, by omega, by assumption⟩
          · have hcs' : ¬ 1 = c' := fun h => hcs h.symm
            go_wp2_with (first
              | (go_at_call 61; with_reducible refine (HR.out _ _ ?_ ?_).mono ?_; (first | rfl | (simp only [IntKind.wrap_u32]; omega) | omega); (first | assumption | exact (Fr.refl _ _).drew | exact Fr.refl _ _ | exact (Fr.refl _ _).drewN _); rintro e w2 ⟨rfl, hN2⟩))
            go_roundg (m - 1)
            case measure => omega
            case rel => exact ⟨k + 1, m - 1, by rw [foldc_snoc, hH.out]; exact congrArg (fun z => Value.int .u32 z) (by have := hE.out; (try simp only [IntKind.wrap_u32]); omega), (by rw [Nat.add_mul]; exact A2.out), ⟨_, _, rfl, by omega, by omega⟩, by rw [Nat.add_mul]; omega, by omega, by assumption⟩
        · have hz : (m : Int) < 1 := by omega
          have hdiv : t4.length / 1 = k := div_at (by decide) hmk (by omega)
          obtain ⟨hf, hhf⟩ : ∃ hf, hf = foldc 1 bt32 k h4 t4 := ⟨_, rfl⟩
          have HF : Hid (s32 s l = xc32 (xb32 (xa32 hf))) := by
            show _ = _
            rw [HF4.out, hhf, ← hdiv, mod1]
          rw [← hhf]
          clear hhf hdiv
          have hS' : Hid (((s32 s l).toNat : Int) = ((xc32 (xb32 (xa32 hf))).toNat : Int)) := by show _ = _; rw [HF.out]
          go_wp2
          go_ret
          exact ⟨congrArg (fun z => Ending.returned (.int .u32 z)) (by rw [hS'.out]; (try simp only [IntKind.wrap_u32]); rw [i_xa32, i_xb32, i_xc32]), hN⟩
end Go.Proofs.Ytdeefemeiggolaa

import Derived.Test.YtdeefemeiggolaaQb
import Derived.Deep.RegionWith
import Derived.Test.YtdeefemeiggolaaQf
namespace Go.Proofs.Ytdeefemeiggolaa
open Go.RowKit
set_option linter.unusedVariables false
theorem lo32_take (l : List By) : lo32 (l.take 4) = lo32 l := by simp [lo32, List.take_take]
theorem lo64_take (l : List By) : lo64 (l.take 8) = lo64 l := by simp [lo64, List.take_take]
theorem hf64_take (l : List By) : hf64 (l.take 4) = hf64 l := by simp [hf64, List.take_take]
theorem by32_take (l : List By) : by32 (l.take 1) = by32 l := by simp [by32, List.take_take]
theorem by64_take (l : List By) : by64 (l.take 1) = by64 l := by simp [by64, List.take_take]
/-- Where a slice of the rest of l, from place q on, may stand. -/
def At (g o q : Nat) (l : List By) (r : Value) (m : Nat) : Prop := ∃ o' c', r = .slice (some ⟨g, o', none⟩) m c' ∧ m + q = l.length ∧ m ≤ c' ∧ c' < 9223372036854775808 ∧ (m = 0 ∨ o' = o + q)
theorem At.sl {g o q m : Nat} {l : List By} {r : Value} {w : World} (h : At g o q l r m) (hr : Rd g o l w) : SlB g r (l.drop q) w := by
  obtain ⟨o', c', rfl, h1, h2, h3, h4⟩ := h
  have hl : (l.drop q).length = m := by simp; omega
  refine ⟨o', c', by rw [hl], by omega, h3, ?_⟩
  rcases h4 with h4 | h4
  · have : l.drop q = [] := by simp; omega
    rw [this]; exact Rd.nil _ _ _
  · rw [h4]; exact hr.drop q
theorem At.next {g o q m k : Nat} {l : List By} {o' c' : Nat} (h : At g o q l (.slice (some ⟨g, o', none⟩) m c') m) (hk : k ≤ m) (hk0 : 0 < k) : (c' = k → At g o (q + k) l (.slice (some ⟨g, o', none⟩) (m - k) (c' - k)) (m - k)) ∧ At g o (q + k) l (.slice (some ⟨g, o' + k, none⟩) (m - k) (c' - k)) (m - k) := by
  obtain ⟨o1, c1, he, h1, h2, h3, h4⟩ := h
  injection he with he _ he2
  injection he with he
  injection he with _ he
  subst he he2
  exact ⟨fun hc => ⟨o', c' - k, rfl, by omega, by omega, by omega, .inl (by omega)⟩, ⟨o' + k, c' - k, rfl, by omega, by omega, by omega, by rcases h4 with h4 | h4; omega; exact .inr (by omega)⟩⟩
theorem div_at {n k m size : Nat} (hs : 0 < size) (h : m + k * size = n) (hm : m < size) : n / size = k := by
  rw [Nat.div_eq_iff hs]; omega
set_option maxHeartbeats 40000000 in
set_option maxRecDepth 100000 in
theorem rsum32_few (s : BitVec 32) (g o1 c : Nat) (l : List By) (w : World) (hrd : Rd g o1 l w) (hc : l.length ≤ c) (hc2 : c < 9223372036854775808) (hs : l.length < 16) :
    Calls Try.prog 45 #[.int .u32 s.toNat, .slice (some ⟨g, o1, none⟩) l.length c] w fun e w' => e = .returned (.int .u32 (s32 s l).toNat) ∧ Nw w w' := by
  have RD : Hid (∀ V, Nw w V → Rd g o1 l V) := fun V hV => hrd.nw hV
  obtain ⟨h0, hh0⟩ : ∃ h0, h0 = s + 374761393#32 + BitVec.ofNat 32 l.length := ⟨_, rfl⟩
  have hE0 : Hid ((((s.toNat : Int) + 374761393) % 4294967296 + l.length) % 4294967296 = (h0.toNat : Int)) := by
    show _ = _
    rw [hh0, i_add32, i_add32]; simp only [BitVec.toNat_ofNat]; omega
  have HF0 : Hid (s32 s l = xc32 (xb32 (xa32 (foldc 1 bt32 (l.length % 4) (foldc 4 wd32 (l.length / 4) h0 l) (l.drop (l.length / 4 * 4)))))) := by
    show _ = _
    rw [s32, beg32, if_pos hs, Nat.div_eq_of_lt hs, hh0]; rfl
  have HA0 : Hid (At g o1 (0 * 4) l (.slice (some ⟨g, o1, none⟩) l.length c) l.length) := ⟨o1, c, rfl, by omega, hc, hc2, .inr (by omega)⟩
  have hAc := hc
  have hAc2 := hc2
  have HNS : Hid (Nw w w) := Fr.refl _ _
  have hz0 : (l.length : Int) < 16 := by omega
  clear hrd hh0
  go_enter Try.func45, Try.ntmps45
  go_wp2
  rw [hE0.out]
  generalize ((s.toNat : Int) + 374761393) % 4294967296 = e1
  generalize decide ((16 : Int) ≤ (l.length : Int)) = b1
  go_loopg [5, 6] l.length (fun kx h r wr => ∃ k m : Nat, h = .int .u32 (foldc 4 wd32 k h0 l).toNat ∧ Hid (At g o1 (k * 4) l r m) ∧ (∃ o' c', r = .slice (some ⟨g, o', none⟩) m c' ∧ m ≤ c' ∧ c' < 9223372036854775808) ∧ m + k * 4 = l.length ∧ m ≤ kx ∧ Nw w wr)
  case atStart => exact ⟨0, l.length, rfl, HA0, ⟨_, _, rfl, hAc, hAc2⟩, by omega, by omega, HNS.out⟩
  case round =>
    obtain ⟨k, m, rfl, hA, ⟨o', c', rfl, hmc, hc2⟩, hmk, hkx, hN⟩ := hrel
    by_cases hge : 4 ≤ m
    · have hz : (4 : Int) ≤ (m : Int) := by omega
      have AA := At.next (k := 4) hA.out hge (by decide)
      have A1 : Hid (c' = 4 → At g o1 (k * 4 + 4) l (.slice (some ⟨g, o', none⟩) (m - 4) (c' - 4)) (m - 4)) := AA.1
      have A2 : Hid (At g o1 (k * 4 + 4) l (.slice (some ⟨g, o' + 4, none⟩) (m - 4) (c' - 4)) (m - 4)) := AA.2
      clear AA
      have HL : Hid (∀ V, Nw w V → Calls Try.prog 62 #[.slice (some ⟨g, o', none⟩) m c'] V fun e w' => e = .returned (.int .u32 (lo32 (l.drop (k * 4))).toNat) ∧ Nw w w') := fun V hV => cbase hV (rlow32_any g _ _ V (hA.out.sl (RD.out V hV)) (by simp; omega))
      obtain ⟨H, hH⟩ : ∃ H, foldc 4 wd32 k h0 l = H := ⟨_, rfl⟩
      have HR : Hid (∀ z V, z = ((H.toNat : Int) + (lo32 (l.drop (k * 4))).toNat * 3266489917) % 4294967296 → Nw w V → Calls Try.prog 61 #[.int .u32 z, .int .i64 17] V fun e w' => e = .returned (.int .u32 ((H + lo32 (l.drop (k * 4)) * 3266489917#32).rotateLeft 17).toNat) ∧ Nw w w') := fun z V hz hV => cbase hV (rrot32_at _ 17 z (hz.trans (by rw [i_add32, i_mul32]; simp)) (by decide) (by decide) V)
      have hE : Hid ((((H + lo32 (l.drop (k * 4)) * 3266489917#32).rotateLeft 17).toNat * 668265263 : Int) % 4294967296 = ((wd32 H ((l.drop (k * 4)).take 4)).toNat : Int)) := by show _ = _; rw [wd32, lo32_take, i_mul32]; rfl
      rw [hH]
      have hH : Hid (foldc 4 wd32 k h0 l = H) := hH
      generalize (H + lo32 (l.drop (k * 4)) * 3266489917#32).rotateLeft 17 = R at *
      generalize lo32 (l.drop (k * 4)) = A at *
      by_cases hcs : c' = 4
      · subst hcs
        obtain rfl : m = 4 := by omega
        go_wp2_with (first
          | (go_at_call 62; with_reducible refine (HL.out _ ?_).mono ?_; (first | assumption | exact (Fr.refl _ _).drew | exact Fr.refl _ _ | exact (Fr.refl _ _).drewN _); rintro e w1 ⟨rfl, hN1⟩)
          | (go_at_call 61; with_reducible refine (HR.out _ _ ?_ ?_).mono ?_; (first | rfl | (simp only [IntKind.wrap_u32]; omega) | omega); (first | assumption | exact (Fr.refl _ _).drew | exact Fr.refl _ _ | exact (Fr.refl _ _).drewN _); rintro e w2 ⟨rfl, hN2⟩))
        go_roundg 0
        case measure => omega
        case rel => exact ⟨k + 1, 0, by rw [foldc_snoc, hH.out]; exact congrArg (fun z => Value.int .u32 z) (by have := hE.out; (try simp only [IntKind.wrap_u32]); omega), (by rw [Nat.add_mul]; first | exact A1.out rfl | exact A1.out trivial), ⟨_, _, rfl, by omega, by omega⟩, by rw [Nat.add_mul]; omega, by omega, by assumption⟩
      · have hcs' : ¬ 4 = c' := fun h => hcs h.symm
        go_wp2_with (first
          | (go_at_call 62; with_reducible refine (HL.out _ ?_).mono ?_; (first | assumption | exact (Fr.refl _ _).drew | exact Fr.refl _ _ | exact (Fr.refl _ _).drewN _); rintro e w1 ⟨rfl, hN1⟩)
          | (go_at_call 61; with_reducible refine (HR.out _ _ ?_ ?_).mono ?_; (first | rfl | (simp only [IntKind.wrap_u32]; omega) | omega); (first | assumption | exact (Fr.refl _ _).drew | exact Fr.refl _ _ | exact (Fr.refl _ _).drewN _); rintro e w2 ⟨rfl, hN2⟩))
        go_roundg (m - 4)
        case measure => omega
        case rel => exact ⟨k + 1, m - 4, by rw [foldc_snoc, hH.out]; exact congrArg (fun z => Value.int .u32 z) (by have := hE.out; (try simp only [IntKind.wrap_u32]); omega), (by rw [Nat.add_mul]; exact A2.out), ⟨_, _, rfl, by omega, by omega⟩, by rw [Nat.add_mul]; omega, by omega, by assumption⟩
    · have hz : (m : Int) < 4 := by omega
      have hdiv : l.length / 4 = k := div_at (by decide) hmk (by omega)
      have RD4 : Hid (∀ V, Nw w V → Rd g o' (l.drop (k * 4)) V) := by
        intro V hV
        obtain ⟨o2, c2, he, _, _, hrr⟩ := hA.out.sl (RD.out V hV)
        injection he with he _ _
        injection he with he
        injection he with _ he
        subst he
        exact hrr
      obtain ⟨t4, ht2⟩ : ∃ x, x = l.drop (k * 4) := ⟨_, rfl⟩
      obtain ⟨h4, hh2⟩ : ∃ x, x = foldc 4 wd32 k h0 l := ⟨_, rfl⟩
      have ht2l : t4.length = m := by rw [ht2]; simp; omega
      rw [← ht2] at RD4
      rw [← hh2]
      have HF4 : Hid (s32 s l = xc32 (xb32 (xa32 (foldc 1 bt32 t4.length h4 t4)))) := by
        show _ = _
        rw [HF0.out, hh2, ht2, ← hdiv]
        have hml := mod_split l.length 4
        rw [show (l.drop (l.length / 4 * 4)).length = l.length % 4 by simp; omega]
      clear ht2 hh2 hdiv hA hmk RD
      subst ht2l
      clear hAc hAc2
      obtain ⟨o4, hO2⟩ : ∃ x, x = o' := ⟨_, rfl⟩
      have hAc := hmc
      have hAc2 := hc2
      subst hO2
      have HN2 : Hid (Nw w wr) := hN
      obtain ⟨wA, hwA⟩ : ∃ z, z = wr := ⟨_, rfl⟩
      subst hwA
      clear hN hmc hc2 hge
      have HA1 : Hid (At g o4 (0 * 1) t4 (.slice (some ⟨g, o4, none⟩) t4.length c') t4.length) := ⟨o4, c', rfl, by omega, hAc, hAc2, .inr (by omega)⟩
      go_wp2
      go_loopg [5, 6] t4.length (fun kx h r wr => ∃ k m : Nat, h = .int .u32 (foldc 1 bt32 k h4 t4).toNat ∧ Hid (At g o4 (k * 1) t4 r m) ∧ (∃ o' c', r = .slice (some ⟨g, o', none⟩) m c' ∧ m ≤ c' ∧ c' < 9223372036854775808) ∧ m + k * 1 = t4.length ∧ m ≤ kx ∧ Nw w wr)
      case atStart => exact ⟨0, t4.length, rfl, HA1, ⟨_, _, rfl, hAc, hAc2⟩, by omega, by omega, HN2.out⟩
      case round =>
        obtain ⟨k, m, rfl, hA, ⟨o', c', rfl, hmc, hc2⟩, hmk, hkx, hN⟩ := hrel
        by_cases hge : 1 ≤ m
        · have hz : (1 : Int) ≤ (m : Int) := by omega
          have AA := At.next (k := 1) hA.out hge (by decide)
          have A1 : Hid (c' = 1 → At g o4 (k * 1 + 1) t4 (.slice (some ⟨g, o', none⟩) (m - 1) (c' - 1)) (m - 1)) := AA.1
          have A2 : Hid (At g o4 (k * 1 + 1) t4 (.slice (some ⟨g, o' + 1, none⟩) (m - 1) (c' - 1)) (m - 1)) := AA.2
          clear AA
          obtain ⟨y, hy⟩ : ∃ y, (t4.drop (k * 1))[0]? = some y := ⟨t4[k * 1], by simp⟩
          have hcl : wr.cell? ⟨g, o', none⟩ = some (.int .u8 y.toNat) := by
            obtain ⟨o2, c2, he, _, _, hrr⟩ := hA.out.sl (RD4.out wr hN)
            injection he with he _ _
            injection he with he
            injection he with _ he
            subst he
            exact hrr.at 0 y hy
          have hY : Hid ((by32 (t4.drop (k * 1))).toNat = y.toNat) := by32_nat _ y hy
          obtain ⟨H, hH⟩ : ∃ H, foldc 1 bt32 k h4 t4 = H := ⟨_, rfl⟩
          have HR : Hid (∀ z V, z = ((H.toNat : Int) + y.toNat * 374761393) % 4294967296 → Nw w V → Calls Try.prog 61 #[.int .u32 z, .int .i64 11] V fun e w' => e = .returned (.int .u32 ((H + by32 (t4.drop (k * 1)) * 374761393#32).rotateLeft 11).toNat) ∧ Nw w w') := fun z V hz hV => cbase hV (rrot32_at _ 11 z (hz.trans (by rw [i_add32, i_mul32, hY.out]; simp)) (by decide) (by decide) V)
          have hE : Hid ((((H + by32 (t4.drop (k * 1)) * 374761393#32).rotateLeft 11).toNat * 2654435761 : Int) % 4294967296 = ((bt32 H ((t4.drop (k * 1)).take 1)).toNat : Int)) := by show _ = _; rw [bt32, by32_take, i_mul32]; rfl
          rw [hH]
          have hH : Hid (foldc 1 bt32 k h4 t4 = H) := hH
          clear hy
          generalize (H + by32 (t4.drop (k * 1)) * 374761393#32).rotateLeft 11 = R at *
          by_cases hcs : c' = 1
          · subst hcs
            obtain rfl : m = 1 := by omega
            go_wp2_with (first
              | (go_at_call 61; with_reducible refine (HR.out _ _ ?_ ?_).mono ?_; (first | rfl | (simp only [IntKind.wrap_u32]; omega) | omega); (first | assumption | exact (Fr.refl _ _).drew | exact Fr.refl _ _ | exact (Fr.refl _ _).drewN _); rintro e w2 ⟨rfl, hN2⟩))
            go_roundg 0
            case measure => omega
            case rel => exact ⟨k + 1, 0, by rw [foldc_snoc, hH.out]; exact congrArg (fun z => Value.int .u32 z) (by have := hE.out; (try simp only [IntKind.wrap_u32]); omega), (by rw [Nat.add_mul]; first | exact A1.out rfl | exact A1.out trivial), ⟨_, _, rfl, by omega, by omega⟩, by rw [Nat.add_mul]; omega, by omega, by assumption⟩
          · have hcs' : ¬ 1 = c' := fun h => hcs h.symm
            go_wp2_with (first
              | (go_at_call 61; with_reducible refine (HR.out _ _ ?_ ?_).mono ?_; (first | rfl | (simp only [IntKind.wrap_u32]; omega) | omega); (first | assumption | exact (Fr.refl _ _).drew | exact Fr.refl _ _ | exact (Fr.refl _ _).drewN _); rintro e w2 ⟨rfl, hN2⟩))
            go_roundg (m - 1)
            case measure => omega
            case rel => exact ⟨k + 1, m - 1, by rw [foldc_snoc, hH.out]; exact congrArg (fun z => Value.int .u32 z) (by have := hE.out; (try simp only [IntKind.wrap_u32]); omega), (by rw [Nat.add_mul]; exact A2.out), ⟨_, _, rfl, by omega, by omega⟩, by rw [Nat.add_mul]; omega, by omega, by assumption⟩
        · have hz : (m : Int) < 1 := by omega
          have hdiv : t4.length / 1 = k := div_at (by decide) hmk (by omega)
          obtain ⟨hf, hhf⟩ : ∃ hf, hf = foldc 1 bt32 k h4 t4 := ⟨_, rfl⟩
          have HF : Hid (s32 s l = xc32 (xb32 (xa32 hf))) := by
            show _ = _
            rw [HF4.out, hhf, ← hdiv, mod1]
          rw [← hhf]
          clear hhf hdiv
          have hS' : Hid (((s32 s l).toNat : Int) = ((xc32 (xb32 (xa32 hf))).toNat : Int)) := by show _ = _; rw [HF.out]
          go_wp2
          go_ret
          exact ⟨congrArg (fun z => Ending.returned (.int .u32 z)) (by rw [hS'.out]; (try simp only [IntKind.wrap_u32]); rw [i_xa32, i_xb32, i_xc32]), hN⟩
end Go.Proofs.Ytdeefemeiggolaa

namespace Go.Proofs.Ytdeefemeiggolaa
open Go.RowKit
set_option linter.unusedVariables false
theorem lo32_mid (x : List By) (n off : Nat) (h : off + 4 ≤ n) : lo32 ((x.take n).drop off) = lo32 (x.drop off) := by
  unfold lo32
  rw [List.drop_take, List.take_take, Nat.min_eq_left (by omega)]
/-- Four lanes in memory. -/
def LB32l (x : La 32) : List Value := [.int .u32 x.a.toNat, .int .u32 x.b.toNat, .int .u32 x.c.toNat, .int .u32 x.d.toNat]
def LB32 (b : Nat) (x : La 32) (w : World) : Prop := w.heap[b]? = some (.cells (LB32l x).toArray 108)
theorem LB32.kept {b : Nat} {x : La 32} {w w' : World} {X : Nat → Prop} (h : LB32 b x w) (f : Fr X w w') (hx : ¬ X b) : LB32 b x w' := (f.block b (Array.getElem?_eq_some_iff.1 h).1 hx).trans h
theorem LB32.nw {b : Nat} {x : La 32} {w w' : World} (h : LB32 b x w) (f : Nw w w') : LB32 b x w' := h.kept f (fun h => h)
theorem LB32.cell {b : Nat} {x : La 32} {w : World} (h : LB32 b x w) (i : Nat) (v : Value) (hv : (LB32l x)[i]? = some v) : w.cell? ⟨b, i, none⟩ = some v ∧ w.frozen? ⟨b, i, none⟩ = false := by
  unfold LB32 at h
  constructor <;> simp [World.cell?, World.frozen?, h, hv]
theorem LB32.set {b : Nat} {x y : La 32} {w : World} (h : LB32 b x w) (i : Nat) (v : Value) (hy : (LB32l x).set i v = LB32l y) : LB32 b y (w.setCell ⟨b, i, none⟩ v) := by
  unfold LB32 at h ⊢
  simp only [World.setCell, Array.getElem?_modify, h]
  simp [← hy]
theorem LB32.new (w : World) (x : La 32) (l : List Value) (hl : LB32l x = l) : LB32 w.heap.size x (w.alloc (.cells l.toArray 108)) := by
  subst hl
  show (w.heap.push _)[w.heap.size]? = _
  simp
theorem LB32_set0 (x y : La 32) : (LB32l (La.upto x y 0)).set 0 (.int .u32 y.a.toNat) = LB32l (La.upto x y 1) := by simp [LB32l, La.upto]
theorem LB32_get0 (x : La 32) : (LB32l x)[0]? = some (.int .u32 x.a.toNat) := rfl
theorem LB32_set1 (x y : La 32) : (LB32l (La.upto x y 1)).set 1 (.int .u32 y.b.toNat) = LB32l (La.upto x y 2) := by simp [LB32l, La.upto]
theorem LB32_get1 (x : La 32) : (LB32l x)[1]? = some (.int .u32 x.b.toNat) := rfl
theorem LB32_set2 (x y : La 32) : (LB32l (La.upto x y 2)).set 2 (.int .u32 y.c.toNat) = LB32l (La.upto x y 3) := by simp [LB32l, La.upto]
theorem LB32_get2 (x : La 32) : (LB32l x)[2]? = some (.int .u32 x.c.toNat) := rfl
theorem LB32_set3 (x y : La 32) : (LB32l (La.upto x y 3)).set 3 (.int .u32 y.d.toNat) = LB32l (La.upto x y 4) := by simp [LB32l, La.upto]
theorem LB32_get3 (x : La 32) : (LB32l x)[3]? = some (.int .u32 x.d.toNat) := rfl
theorem ini32_cells (s : BitVec 32) : LB32l (ini32 s) = [.int .u32 (((s.toNat : Int) + 2654435761 + 2246822519) % 4294967296), .int .u32 (((s.toNat : Int) + 2246822519) % 4294967296), .int .u32 s.toNat, .int .u32 (((s.toNat : Int) - 2654435761) % 4294967296)] := by
  have e1 : ((ini32 s).a.toNat : Int) = ((s.toNat : Int) + 2654435761 + 2246822519) % 4294967296 := by rw [ini32, i_add32, i_add32]; simp
  have e2 : ((ini32 s).b.toNat : Int) = ((s.toNat : Int) + 2246822519) % 4294967296 := by rw [ini32, i_add32]; rfl
  have e4 : ((ini32 s).d.toNat : Int) = ((s.toNat : Int) - 2654435761) % 4294967296 := by rw [ini32, i_sub32]; rfl
  simp only [LB32l, e1, e2, e4]
  rfl
set_option maxHeartbeats 40000000 in
set_option maxRecDepth 100000 in
theorem rsum32_many (s : BitVec 32) (g o0 c : Nat) (l : List By) (w : World) (hg : g < w.heap.size) (hrd : Rd g o0 l w) (hc : l.length ≤ c) (hc2 : c < 9223372036854775808) (hs : ¬ l.length < 16) :
    Calls Try.prog 45 #[.int .u32 s.toNat, .slice (some ⟨g, o0, none⟩) l.length c] w fun e w' => e = .returned (.int .u32 (s32 s l).toNat) ∧ Nw w w' := by
  have RD0 : Hid (∀ V, Nw w V → Rd g o0 l V) := fun V hV => hrd.nw hV
  have HA0 : Hid (At g o0 (0 * 16) l (.slice (some ⟨g, o0, none⟩) l.length c) l.length) := ⟨o0, c, rfl, by omega, hc, hc2, .inr (by omega)⟩
  have hAc := hc
  have hAc2 := hc2
  have hz0 : (16 : Int) ≤ (l.length : Int) := by omega
  have HI : Hid (∀ L, L = LB32l (ini32 s) → LB32 w.heap.size (ini32 s) (w.alloc (.cells L.toArray 108)) ∧ Nw w (w.alloc (.cells L.toArray 108))) := fun L hL => ⟨LB32.new w (ini32 s) L hL.symm, (Fr.refl _ _).alloc _⟩
  clear hrd
  go_enter Try.func45, Try.ntmps45
  go_wp2
  obtain ⟨hI1, hI2⟩ := HI.out _ (ini32_cells s).symm
  have HI0 : Hid (LB32 w.heap.size (foldc 16 mix32 0 (ini32 s) l) _ ∧ Nw w _) := ⟨hI1, hI2⟩
  clear hI1 hI2 HI
  obtain ⟨bv, hbv⟩ : ∃ bv, bv = w.heap.size := ⟨_, rfl⟩
  rw [← hbv] at HI0 ⊢
  have hbv' : Hid (w.heap.size ≤ bv) := by show _ ≤ _; omega
  have hgb : g ≠ bv := by omega
  clear hbv
  generalize w.alloc (.cells #[.int .u32 (((s.toNat : Int) + 2654435761 + 2246822519) % 4294967296), .int .u32 (((s.toNat : Int) + 2246822519) % 4294967296), .int .u32 ((s.toNat : Int)), .int .u32 (((s.toNat : Int) - 2654435761) % 4294967296)] 108) = W0 at HI0 ⊢
  generalize ((s.toNat : Int) + 2654435761 + 2246822519) % 4294967296 = e6
  generalize (((s.toNat : Int) + 2654435761) % 4294967296 + 2246822519) % 4294967296 = e3
  generalize ((s.toNat : Int) + 2654435761) % 4294967296 = e2
  generalize ((s.toNat : Int) + 2246822519) % 4294967296 = e4
  generalize ((s.toNat : Int) - 2654435761) % 4294967296 = e5
  generalize ((s.toNat : Int) + 374761393) % 4294967296 = e1
  go_loopg [6] l.length (fun kx r wr => ∃ k m : Nat, Hid (At g o0 (k * 16) l r m) ∧ (∃ o' c', r = .slice (some ⟨g, o', none⟩) m c' ∧ m ≤ c' ∧ c' < 9223372036854775808) ∧ m + k * 16 = l.length ∧ m ≤ kx ∧ Hid (LB32 bv (foldc 16 mix32 k (ini32 s) l) wr ∧ Nw w wr))
  case atStart => exact ⟨0, l.length, HA0, ⟨_, _, rfl, hAc, hAc2⟩, by omega, by omega, HI0⟩
  case round =>
    obtain ⟨k, m, hA, ⟨o', c', rfl, hmc, hcc⟩, hmk, hkx, HL0⟩ := hrel
    by_cases hge : 16 ≤ m
    · have hz : (16 : Int) ≤ (m : Int) := by omega
      have AA := At.next (k := 16) hA.out hge (by decide)
      have A1 : Hid (c' = 16 → At g o0 (k * 16 + 16) l (.slice (some ⟨g, o', none⟩) (m - 16) (c' - 16)) (m - 16)) := AA.1
      have A2 : Hid (At g o0 (k * 16 + 16) l (.slice (some ⟨g, o' + 16, none⟩) (m - 16) (c' - 16)) (m - 16)) := AA.2
      clear AA
      have RK : Hid (∀ V, Nw w V → Rd g o' (l.drop (k * 16)) V) := by
        intro V hV
        obtain ⟨o2, c2, he, _, _, hrr⟩ := hA.out.sl (RD0.out V hV)
        injection he with he _ _
        injection he with he
        injection he with _ he
        subst he
        exact hrr
      have hlk : (l.drop (k * 16)).length = m := by simp; omega
      obtain ⟨x, hx⟩ : ∃ x, foldc 16 mix32 k (ini32 s) l = x := ⟨_, rfl⟩
      obtain ⟨q, hq⟩ : ∃ q, l.drop (k * 16) = q := ⟨_, rfl⟩
      rw [hq] at RK hlk
      rw [hx] at HL0
      obtain ⟨y, hy⟩ : ∃ y, mix32 x (q.take 16) = y := ⟨_, rfl⟩
      have HNX : Hid (foldc 16 mix32 (k + 1) (ini32 s) l = y) := by show _ = _; rw [foldc_snoc, hx, hq, hy]
      have HS0 : Hid (LB32 bv (La.upto x y 0) wr ∧ Nw w wr) := ⟨by rw [La.upto0]; exact HL0.out.1, HL0.out.2⟩
      have hyH : Hid (mix32 x (q.take 16) = y) := hy
      have hlkH : Hid (q.length = m) := hlk
      clear hx hq hy hlk HL0 hA
      go_wp2
      obtain ⟨wA, hwA⟩ : ∃ z, z = wr := ⟨_, rfl⟩
      subst hwA
      go_loopg [8] 4 (fun kx t wr2 => ∃ (i : Nat) (z : Int), i ≤ 4 ∧ 4 - i ≤ kx ∧ t = .int .i64 z ∧ z = i ∧ Hid (LB32 bv (La.upto x y i) wr2 ∧ Nw w wr2))
      case atStart => exact ⟨0, 0, by decide, by decide, rfl, rfl, HS0⟩
      case round =>
        obtain ⟨i, z, hi, hkx2, rfl, hz', HI⟩ := hrel
        by_cases hlt : i < 4
        · obtain rfl | rfl | rfl | rfl : i = 0 ∨ i = 1 ∨ i = 2 ∨ i = 3 := by omega
          · obtain rfl : z = 0 := hz'
            obtain ⟨hLB, hNw⟩ := HI.out
            have hl0 := hLB.cell 0 _ (LB32_get0 _)
            rw [upto_at0] at hl0
            obtain ⟨c1, c2⟩ := hl0
            have KC : Hid (∀ V, Nw wr V → V.cell? ⟨bv, 0, none⟩ = some (.int .u32 x.a.toNat) ∧ V.frozen? ⟨bv, 0, none⟩ = false) := by
              intro V hV
              have := (hLB.nw hV).cell 0 _ (LB32_get0 _)
              rw [upto_at0] at this; exact this
            have hnc : ¬ c' = 0 := by omega
            have hwr : IntKind.i64.wrap 0 = 0 := by decide
            have hoz : (0 : Int) ≤ (m : Int) := by omega
            have HL : Hid (∀ V, Nw wr V → Calls Try.prog 62 #[.slice (some ⟨g, o', none⟩) m c'] V fun e w' => e = .returned (.int .u32 (lo32 ((q.take 16).drop 0)).toNat) ∧ Nw wr w') := by
              intro V hV
              have hlk := hlkH.out
              rw [lo32_mid q 16 0 (by decide)]
              exact cbase hV (rlow32_any g _ _ V ⟨o', c', by simp [hlk], by simp [hlk]; omega, by omega, (RK.out V (hNw.trans hV))⟩ (by simp [hlk]; omega))
            have HR : Hid (∀ z V, z = (((x.a.toNat : Int) + (lo32 ((q.take 16).drop 0)).toNat * 2246822519) % 4294967296) → Nw wr V → Calls Try.prog 61 #[.int .u32 z, .int .i64 13] V fun e w' => e = .returned (.int .u32 ((x.a + lo32 ((q.take 16).drop 0) * 2246822519#32).rotateLeft 13).toNat) ∧ Nw wr w') := fun z V hz hV => cbase hV (rrot32_at _ 13 z (hz.trans (by rw [i_add32, i_mul32]; simp)) (by decide) (by decide) V)
            have hE : Hid ((y.a.toNat : Int) = (((x.a + lo32 ((q.take 16).drop 0) * 2246822519#32).rotateLeft 13).toNat * 2654435761 : Int) % 4294967296) := by show _ = _; rw [← hyH.out]; show (((rd32 x.a (lo32 ((q.take 16).drop 0))).toNat : Int)) = _; rw [rd32, i_mul32]; rfl
            generalize (x.a + lo32 ((q.take 16).drop 0) * 2246822519#32).rotateLeft 13 = R at *
            generalize lo32 ((q.take 16).drop 0) = A at *
            have FIN : Hid (∀ V v, Nw wr V → v = (y.a.toNat : Int) → LB32 bv (La.upto x y 1) (V.setCell ⟨bv, 0, none⟩ (.int .u32 v)) ∧ Nw w (V.setCell ⟨bv, 0, none⟩ (.int .u32 v))) := by
              intro V v hV hv
              subst hv
              exact ⟨(hLB.nw hV).set 0 _ (LB32_set0 x y), (hNw.trans hV).setCell _ _ (.inr hbv'.out)⟩
            clear hLB hNw HI
            go_wp2_with fail
            go_region_with (first
              | (go_at_call 62; with_reducible refine (HL.out _ ?_).mono ?_; (first | assumption | exact (Fr.refl _ _).drew | exact Fr.refl _ _ | exact (Fr.refl _ _).drewN _); rintro e w1 ⟨rfl, hN1⟩; obtain ⟨c3, c4⟩ := KC.out w1 hN1)
              | (go_at_call 61; with_reducible refine (HR.out _ _ ?_ ?_).mono ?_; (first | rfl | (simp only [IntKind.wrap_u32]; omega) | omega); (first | assumption | exact (Fr.refl _ _).drew | exact Fr.refl _ _ | exact (Fr.refl _ _).drewN _); rintro e w2 ⟨rfl, hN2⟩; obtain ⟨c5, c6⟩ := KC.out w2 hN2))
            all_goals go_wp2
            all_goals go_roundg 3
            all_goals (first | omega | exact ⟨1, 1, by decide, by decide, rfl, rfl, FIN.out _ _ (by assumption) (by rw [hE.out]; (try simp only [IntKind.wrap_u32]))⟩)
          · obtain rfl : z = 1 := hz'
            obtain ⟨hLB, hNw⟩ := HI.out
            have hl0 := hLB.cell 1 _ (LB32_get1 _)
            rw [upto_at1] at hl0
            obtain ⟨c1, c2⟩ := hl0
            have KC : Hid (∀ V, Nw wr V → V.cell? ⟨bv, 1, none⟩ = some (.int .u32 x.b.toNat) ∧ V.frozen? ⟨bv, 1, none⟩ = false) := by
              intro V hV
              have := (hLB.nw hV).cell 1 _ (LB32_get1 _)
              rw [upto_at1] at this; exact this
            have hnc : ¬ c' = 4 := by omega
            have hwr : IntKind.i64.wrap 4 = 4 := by decide
            have hoz : (4 : Int) ≤ (m : Int) := by omega
            have HL : Hid (∀ V, Nw wr V → Calls Try.prog 62 #[.slice (some ⟨g, o' + 4, none⟩) (m - 4) (c' - 4)] V fun e w' => e = .returned (.int .u32 (lo32 ((q.take 16).drop 4)).toNat) ∧ Nw wr w') := by
              intro V hV
              have hlk := hlkH.out
              rw [lo32_mid q 16 4 (by decide)]
              exact cbase hV (rlow32_any g _ _ V ⟨o' + 4, (c' - 4), by simp [hlk], by simp [hlk]; omega, by omega, (RK.out V (hNw.trans hV)).drop 4⟩ (by simp [hlk]; omega))
            have HR : Hid (∀ z V, z = (((x.b.toNat : Int) + (lo32 ((q.take 16).drop 4)).toNat * 2246822519) % 4294967296) → Nw wr V → Calls Try.prog 61 #[.int .u32 z, .int .i64 13] V fun e w' => e = .returned (.int .u32 ((x.b + lo32 ((q.take 16).drop 4) * 2246822519#32).rotateLeft 13).toNat) ∧ Nw wr w') := fun z V hz hV => cbase hV (rrot32_at _ 13 z (hz.trans (by rw [i_add32, i_mul32]; simp)) (by decide) (by decide) V)
            have hE : Hid ((y.b.toNat : Int) = (((x.b + lo32 ((q.take 16).drop 4) * 2246822519#32).rotateLeft 13).toNat * 2654435761 : Int) % 4294967296) := by show _ = _; rw [← hyH.out]; show (((rd32 x.b (lo32 ((q.take 16).drop 4))).toNat : Int)) = _; rw [rd32, i_mul32]; rfl
            generalize (x.b + lo32 ((q.take 16).drop 4) * 2246822519#32).rotateLeft 13 = R at *
            generalize lo32 ((q.take 16).drop 4) = A at *
            have FIN : Hid (∀ V v, Nw wr V → v = (y.b.toNat : Int) → LB32 bv (La.upto x y 2) (V.setCell ⟨bv, 1, none⟩ (.int .u32 v)) ∧ Nw w (V.setCell ⟨bv, 1, none⟩ (.int .u32 v))) := by
              intro V v hV hv
              subst hv
              exact ⟨(hLB.nw hV).set 1 _ (LB32_set1 x y), (hNw.trans hV).setCell _ _ (.inr hbv'.out)⟩
            clear hLB hNw HI
            go_wp2_with fail
            go_region_with (first
              | (go_at_call 62; with_reducible refine (HL.out _ ?_).mono ?_; (first | assumption | exact (Fr.refl _ _).drew | exact Fr.refl _ _ | exact (Fr.refl _ _).drewN _); rintro e w1 ⟨rfl, hN1⟩; obtain ⟨c3, c4⟩ := KC.out w1 hN1)
              | (go_at_call 61; with_reducible refine (HR.out _ _ ?_ ?_).mono ?_; (first | rfl | (simp only [IntKind.wrap_u32]; omega) | omega); (first | assumption | exact (Fr.refl _ _).drew | exact Fr.refl _ _ | exact (Fr.refl _ _).drewN _); rintro e w2 ⟨rfl, hN2⟩; obtain ⟨c5, c6⟩ := KC.out w2 hN2))
            all_goals go_wp2
            all_goals go_roundg 2
            all_goals (first | omega | exact ⟨2, 2, by decide, by decide, rfl, rfl, FIN.out _ _ (by assumption) (by rw [hE.out]; (try simp only [IntKind.wrap_u32]))⟩)
          · obtain rfl : z = 2 := hz'
            obtain ⟨hLB, hNw⟩ := HI.out
            have hl0 := hLB.cell 2 _ (LB32_get2 _)
            rw [upto_at2] at hl0
            obtain ⟨c1, c2⟩ := hl0
            have KC : Hid (∀ V, Nw wr V → V.cell? ⟨bv, 2, none⟩ = some (.int .u32 x.c.toNat) ∧ V.frozen? ⟨bv, 2, none⟩ = false) := by
              intro V hV
              have := (hLB.nw hV).cell 2 _ (LB32_get2 _)
              rw [upto_at2] at this; exact this
            have hnc : ¬ c' = 8 := by omega
            have hwr : IntKind.i64.wrap 8 = 8 := by decide
            have hoz : (8 : Int) ≤ (m : Int) := by omega
            have HL : Hid (∀ V, Nw wr V → Calls Try.prog 62 #[.slice (some ⟨g, o' + 8, none⟩) (m - 8) (c' - 8)] V fun e w' => e = .returned (.int .u32 (lo32 ((q.take 16).drop 8)).toNat) ∧ Nw wr w') := by
              intro V hV
              have hlk := hlkH.out
              rw [lo32_mid q 16 8 (by decide)]
              exact cbase hV (rlow32_any g _ _ V ⟨o' + 8, (c' - 8), by simp [hlk], by simp [hlk]; omega, by omega, (RK.out V (hNw.trans hV)).drop 8⟩ (by simp [hlk]; omega))
            have HR : Hid (∀ z V, z = (((x.c.toNat : Int) + (lo32 ((q.take 16).drop 8)).toNat * 2246822519) % 4294967296) → Nw wr V → Calls Try.prog 61 #[.int .u32 z, .int .i64 13] V fun e w' => e = .returned (.int .u32 ((x.c + lo32 ((q.take 16).drop 8) * 2246822519#32).rotateLeft 13).toNat) ∧ Nw wr w') := fun z V hz hV => cbase hV (rrot32_at _ 13 z (hz.trans (by rw [i_add32, i_mul32]; simp)) (by decide) (by decide) V)
            have hE : Hid ((y.c.toNat : Int) = (((x.c + lo32 ((q.take 16).drop 8) * 2246822519#32).rotateLeft 13).toNat * 2654435761 : Int) % 4294967296) := by show _ = _; rw [← hyH.out]; show (((rd32 x.c (lo32 ((q.take 16).drop 8))).toNat : Int)) = _; rw [rd32, i_mul32]; rfl
            generalize (x.c + lo32 ((q.take 16).drop 8) * 2246822519#32).rotateLeft 13 = R at *
            generalize lo32 ((q.take 16).drop 8) = A at *
            have FIN : Hid (∀ V v, Nw wr V → v = (y.c.toNat : Int) → LB32 bv (La.upto x y 3) (V.setCell ⟨bv, 2, none⟩ (.int .u32 v)) ∧ Nw w (V.setCell ⟨bv, 2, none⟩ (.int .u32 v))) := by
              intro V v hV hv
              subst hv
              exact ⟨(hLB.nw hV).set 2 _ (LB32_set2 x y), (hNw.trans hV).setCell _ _ (.inr hbv'.out)⟩
            clear hLB hNw HI
            go_wp2_with fail
            go_region_with (first
              | (go_at_call 62; with_reducible refine (HL.out _ ?_).mono ?_; (first | assumption | exact (Fr.refl _ _).drew | exact Fr.refl _ _ | exact (Fr.refl _ _).drewN _); rintro e w1 ⟨rfl, hN1⟩; obtain ⟨c3, c4⟩ := KC.out w1 hN1)
              | (go_at_call 61; with_reducible refine (HR.out _ _ ?_ ?_).mono ?_; (first | rfl | (simp only [IntKind.wrap_u32]; omega) | omega); (first | assumption | exact (Fr.refl _ _).drew | exact Fr.refl _ _ | exact (Fr.refl _ _).drewN _); rintro e w2 ⟨rfl, hN2⟩; obtain ⟨c5, c6⟩ := KC.out w2 hN2))
            all_goals go_wp2
            all_goals go_roundg 1
            all_goals (first | omega | exact ⟨3, 3, by decide, by decide, rfl, rfl, FIN.out _ _ (by assumption) (by rw [hE.out]; (try simp only [IntKind.wrap_u32]))⟩)
          · obtain rfl : z = 3 := hz'
            obtain ⟨hLB, hNw⟩ := HI.out
            have hl0 := hLB.cell 3 _ (LB32_get3 _)
            rw [upto_at3] at hl0
            obtain ⟨c1, c2⟩ := hl0
            have KC : Hid (∀ V, Nw wr V → V.cell? ⟨bv, 3, none⟩ = some (.int .u32 x.d.toNat) ∧ V.frozen? ⟨bv, 3, none⟩ = false) := by
              intro V hV
              have := (hLB.nw hV).cell 3 _ (LB32_get3 _)
              rw [upto_at3] at this; exact this
            have hnc : ¬ c' = 12 := by omega
            have hwr : IntKind.i64.wrap 12 = 12 := by decide
            have hoz : (12 : Int) ≤ (m : Int) := by omega
            have HL : Hid (∀ V, Nw wr V → Calls Try.prog 62 #[.slice (some ⟨g, o' + 12, none⟩) (m - 12) (c' - 12)] V fun e w' => e = .returned (.int .u32 (lo32 ((q.take 16).drop 12)).toNat) ∧ Nw wr w') := by
              intro V hV
              have hlk := hlkH.out
              rw [lo32_mid q 16 12 (by decide)]
              exact cbase hV (rlow32_any g _ _ V ⟨o' + 12, (c' - 12), by simp [hlk], by simp [hlk]; omega, by omega, (RK.out V (hNw.trans hV)).drop 12⟩ (by simp [hlk]; omega))
            have HR : Hid (∀ z V, z = (((x.d.toNat : Int) + (lo32 ((q.take 16).drop 12)).toNat * 2246822519) % 4294967296) → Nw wr V → Calls Try.prog 61 #[.int .u32 z, .int .i64 13] V fun e w' => e = .returned (.int .u32 ((x.d + lo32 ((q.take 16).drop 12) * 2246822519#32).rotateLeft 13).toNat) ∧ Nw wr w') := fun z V hz hV => cbase hV (rrot32_at _ 13 z (hz.trans (by rw [i_add32, i_mul32]; simp)) (by decide) (by decide) V)
            have hE : Hid ((y.d.toNat : Int) = (((x.d + lo32 ((q.take 16).drop 12) * 2246822519#32).rotateLeft 13).toNat * 2654435761 : Int) % 4294967296) := by show _ = _; rw [← hyH.out]; show (((rd32 x.d (lo32 ((q.take 16).drop 12))).toNat : Int)) = _; rw [rd32, i_mul32]; rfl
            generalize (x.d + lo32 ((q.take 16).drop 12) * 2246822519#32).rotateLeft 13 = R at *
            generalize lo32 ((q.take 16).drop 12) = A at *
            have FIN : Hid (∀ V v, Nw wr V → v = (y.d.toNat : Int) → LB32 bv (La.upto x y 4) (V.setCell ⟨bv, 3, none⟩ (.int .u32 v)) ∧ Nw w (V.setCell ⟨bv, 3, none⟩ (.int .u32 v))) := by
              intro V v hV hv
              subst hv
              exact ⟨(hLB.nw hV).set 3 _ (LB32_set3 x y), (hNw.trans hV).setCell _ _ (.inr hbv'.out)⟩
            clear hLB hNw HI
            go_wp2_with fail
            go_region_with (first
              | (go_at_call 62; with_reducible refine (HL.out _ ?_).mono ?_; (first | assumption | exact (Fr.refl _ _).drew | exact Fr.refl _ _ | exact (Fr.refl _ _).drewN _); rintro e w1 ⟨rfl, hN1⟩; obtain ⟨c3, c4⟩ := KC.out w1 hN1)
              | (go_at_call 61; with_reducible refine (HR.out _ _ ?_ ?_).mono ?_; (first | rfl | (simp only [IntKind.wrap_u32]; omega) | omega); (first | assumption | exact (Fr.refl _ _).drew | exact Fr.refl _ _ | exact (Fr.refl _ _).drewN _); rintro e w2 ⟨rfl, hN2⟩; obtain ⟨c5, c6⟩ := KC.out w2 hN2))
            all_goals go_wp2
            all_goals go_roundg 0
            all_goals (first | omega | exact ⟨4, 4, by decide, by decide, rfl, rfl, FIN.out _ _ (by assumption) (by rw [hE.out]; (try simp only [IntKind.wrap_u32]))⟩)
        · obtain rfl : i = 4 := by omega
          obtain rfl : z = 4 := hz'
          have HY : Hid (LB32 bv (foldc 16 mix32 (k + 1) (ini32 s) l) wr ∧ Nw w wr) := by
            have := HI.out
            rw [La.upto4] at this
            rw [HNX.out]; exact this
          clear HI HS0 HNX hyH hlkH RK
          by_cases hcs : c' = 16
          · subst hcs
            obtain rfl : m = 16 := by omega
            go_wp2
            go_roundg 0
            case measure => omega
            case rel => exact ⟨k + 1, 0, (by rw [Nat.add_mul]; first | exact A1.out rfl | exact A1.out trivial), ⟨_, _, rfl, by omega, by omega⟩, by rw [Nat.add_mul]; omega, by omega, HY⟩
          · have hcs' : ¬ 16 = c' := fun h => hcs h.symm
            go_wp2
            go_roundg (m - 16)
            case measure => omega
            case rel => exact ⟨k + 1, m - 16, (by rw [Nat.add_mul]; exact A2.out), ⟨_, _, rfl, by omega, by omega⟩, by rw [Nat.add_mul]; omega, by omega, HY⟩
    · have hz : (m : Int) < 16 := by omega
      have hdiv : l.length / 16 = k := div_at (by decide) hmk (by omega)
      have RK : Hid (∀ V, Nw w V → Rd g o' (l.drop (k * 16)) V) := by
        intro V hV
        obtain ⟨o2, c2, he, _, _, hrr⟩ := hA.out.sl (RD0.out V hV)
        injection he with he _ _
        injection he with he
        injection he with _ he
        subst he
        exact hrr
      have hlk : (l.drop (k * 16)).length = m := by simp; omega
      obtain ⟨x, hx⟩ : ∃ x, x = foldc 16 mix32 k (ini32 s) l := ⟨_, rfl⟩
      obtain ⟨t, ht⟩ : ∃ t, t = l.drop (k * 16) := ⟨_, rfl⟩
      rw [← ht] at RK hlk
      rw [← hx] at HL0
      have hxs : Hid (x = str32 s l) := by show _ = _; rw [hx, ← hdiv]; rfl
      have htt : Hid (t = l.drop (l.length / 16 * 16)) := by show _ = _; rw [ht, hdiv]
      subst hlk
      have hAcX := hmc
      have hAcY := hcc
      clear hAc hAc2 hx ht hdiv hA RD0
      obtain ⟨hLB, hNw⟩ := HL0.out
      have KEY : Hid (∀ V, Nw wr V → V.cell? ⟨bv, 0, none⟩ = some (.int .u32 x.a.toNat) ∧ V.cell? ⟨bv, 1, none⟩ = some (.int .u32 x.b.toNat) ∧ V.cell? ⟨bv, 2, none⟩ = some (.int .u32 x.c.toNat) ∧ V.cell? ⟨bv, 3, none⟩ = some (.int .u32 x.d.toNat)) := fun V hV => ⟨((hLB.nw hV).cell 0 _ (LB32_get0 _)).1, ((hLB.nw hV).cell 1 _ (LB32_get1 _)).1, ((hLB.nw hV).cell 2 _ (LB32_get2 _)).1, ((hLB.nw hV).cell 3 _ (LB32_get3 _)).1⟩
      have H0 : Hid (∀ V, Nw wr V → Calls Try.prog 61 #[.int .u32 x.a.toNat, .int .i64 1] V fun e w' => e = .returned (.int .u32 (x.a.rotateLeft 1).toNat) ∧ Nw wr w') := fun V hV => cbase hV (rrot32_at x.a 1 _ rfl (by decide) (by decide) V)
      have H1 : Hid (∀ V, Nw wr V → Calls Try.prog 61 #[.int .u32 x.b.toNat, .int .i64 7] V fun e w' => e = .returned (.int .u32 (x.b.rotateLeft 7).toNat) ∧ Nw wr w') := fun V hV => cbase hV (rrot32_at x.b 7 _ rfl (by decide) (by decide) V)
      have H2 : Hid (∀ V, Nw wr V → Calls Try.prog 61 #[.int .u32 x.c.toNat, .int .i64 12] V fun e w' => e = .returned (.int .u32 (x.c.rotateLeft 12).toNat) ∧ Nw wr w') := fun V hV => cbase hV (rrot32_at x.c 12 _ rfl (by decide) (by decide) V)
      have H3 : Hid (∀ V, Nw wr V → Calls Try.prog 61 #[.int .u32 x.d.toNat, .int .i64 18] V fun e w' => e = .returned (.int .u32 (x.d.rotateLeft 18).toNat) ∧ Nw wr w') := fun V hV => cbase hV (rrot32_at x.d 18 _ rfl (by decide) (by decide) V)
      have hJ : Hid (IntKind.u32.wrap (IntKind.u32.wrap (IntKind.u32.wrap (((x.a.rotateLeft 1).toNat : Int) + (x.b.rotateLeft 7).toNat) + (x.c.rotateLeft 12).toNat) + (x.d.rotateLeft 18).toNat) = ((join32 x).toNat : Int)) := by show _ = _; rw [join32, i_add32, i_add32, i_add32, IntKind.wrap_u32, IntKind.wrap_u32, IntKind.wrap_u32]
      have hNwH : Hid (Nw w wr) := hNw
      obtain ⟨J, hJe⟩ : ∃ J, join32 x = J := ⟨_, rfl⟩
      rw [hJe] at hJ
      clear hLB hNw HL0
      generalize x.a.rotateLeft 1 = R0 at *
      generalize x.b.rotateLeft 7 = R1 at *
      generalize x.c.rotateLeft 12 = R2 at *
      generalize x.d.rotateLeft 18 = R3 at *
      obtain ⟨wB, hwB⟩ : ∃ z, z = wr := ⟨_, rfl⟩
      subst hwB
      go_wp2_with fail
      go_region_held3 (fun w' => w'.cell? ⟨bv, 0, none⟩ = some (.int .u32 x.a.toNat) ∧ w'.cell? ⟨bv, 1, none⟩ = some (.int .u32 x.b.toNat) ∧ w'.cell? ⟨bv, 2, none⟩ = some (.int .u32 x.c.toNat) ∧ w'.cell? ⟨bv, 3, none⟩ = some (.int .u32 x.d.toNat))
        (first | exact KEY.out _ (by assumption) | exact KEY.out _ (Fr.refl _ _).drew | exact KEY.out _ (Fr.refl _ _))
        (first
          | (go_at_call 61; with_reducible refine (H0.out _ ?_).mono ?_; (first | assumption | exact (Fr.refl _ _).drew | exact Fr.refl _ _ | exact (Fr.refl _ _).drewN _); rintro e w1 ⟨rfl, hN1⟩)
          | (go_at_call 61; with_reducible refine (H1.out _ ?_).mono ?_; (first | assumption | exact (Fr.refl _ _).drew | exact Fr.refl _ _ | exact (Fr.refl _ _).drewN _); rintro e w2 ⟨rfl, hN2⟩)
          | (go_at_call 61; with_reducible refine (H2.out _ ?_).mono ?_; (first | assumption | exact (Fr.refl _ _).drew | exact Fr.refl _ _ | exact (Fr.refl _ _).drewN _); rintro e w3 ⟨rfl, hN3⟩)
          | (go_at_call 61; with_reducible refine (H3.out _ ?_).mono ?_; (first | assumption | exact (Fr.refl _ _).drew | exact Fr.refl _ _ | exact (Fr.refl _ _).drewN _); rintro e w4 ⟨rfl, hN4⟩))
      rw [hJ.out]
      generalize IntKind.u32.wrap (IntKind.u32.wrap ((R0.toNat : Int) + R1.toNat) + R2.toNat) = e7
      generalize IntKind.u32.wrap ((R0.toNat : Int) + R1.toNat) = e8
      obtain ⟨h0, hh0⟩ : ∃ h0, h0 = J + BitVec.ofNat 32 l.length := ⟨_, rfl⟩
      have hE0 : Hid (((J.toNat : Int) + (l.length : Int) % 4294967296) % 4294967296 = (h0.toNat : Int)) := by
        show _ = _
        rw [hh0, i_add32]; simp only [BitVec.toNat_ofNat]; omega
      have HF0 : Hid (s32 s l = xc32 (xb32 (xa32 (foldc 1 bt32 (t.length % 4) (foldc 4 wd32 (t.length / 4) h0 t) (t.drop (t.length / 4 * 4)))))) := by
        show _ = _
        rw [s32, beg32, if_neg hs, ← hxs.out, hJe, ← hh0, ← htt.out]; rfl
      have HNS : Hid (Nw w w4) := hNwH.out.trans hN4
      have HA0 : Hid (At g o' (0 * 4) t (.slice (some ⟨g, o', none⟩) t.length c') t.length) := ⟨o', c', rfl, by omega, hAcX, hAcY, .inr (by omega)⟩
      clear hN1 hN2 hN3 hN4 hh0 hJe KEY H0 H1 H2 H3 hJ hge hmk hmc hcc
      have hAc := hAcX
      have hAc2 := hAcY
      obtain ⟨o1, ho1⟩ : ∃ z, z = o' := ⟨_, rfl⟩
      obtain ⟨c1, hc1⟩ : ∃ z, z = c' := ⟨_, rfl⟩
      subst ho1 hc1
      go_wp2
      have hEf : Hid (((J.toNat : Int) + (l.length : Int)) % 4294967296 = (h0.toNat : Int)) := by show _ = _; rw [← hE0.out]; omega
      (first | rw [hE0.out] | rw [hEf.out])
      generalize (l.length : Int) % 4294967296 = e9
      go_loopg [5, 6] t.length (fun kx h r wr => ∃ k m : Nat, h = .int .u32 (foldc 4 wd32 k h0 t).toNat ∧ Hid (At g o1 (k * 4) t r m) ∧ (∃ o' c', r = .slice (some ⟨g, o', none⟩) m c' ∧ m ≤ c' ∧ c' < 9223372036854775808) ∧ m + k * 4 = t.length ∧ m ≤ kx ∧ Nw w wr)
      case atStart => exact ⟨0, t.length, rfl, HA0, ⟨_, _, rfl, hAc, hAc2⟩, by omega, by omega, HNS.out⟩
      case round =>
        obtain ⟨k, m, rfl, hA, ⟨o', c', rfl, hmc, hc2⟩, hmk, hkx, hN⟩ := hrel
        by_cases hge : 4 ≤ m
        · have hz : (4 : Int) ≤ (m : Int) := by omega
          have AA := At.next (k := 4) hA.out hge (by decide)
          have A1 : Hid (c' = 4 → At g o1 (k * 4 + 4) t (.slice (some ⟨g, o', none⟩) (m - 4) (c' - 4)) (m - 4)) := AA.1
          have A2 : Hid (At g o1 (k * 4 + 4) t (.slice (some ⟨g, o' + 4, none⟩) (m - 4) (c' - 4)) (m - 4)) := AA.2
          clear AA
          have HL : Hid (∀ V, Nw w V → Calls Try.prog 62 #[.slice (some ⟨g, o', none⟩) m c'] V fun e w' => e = .returned (.int .u32 (lo32 (t.drop (k * 4))).toNat) ∧ Nw w w') := fun V hV => cbase hV (rlow32_any g _ _ V (hA.out.sl (RK.out V hV)) (by simp; omega))
          obtain ⟨H, hH⟩ : ∃ H, foldc 4 wd32 k h0 t = H := ⟨_, rfl⟩
          have HR : Hid (∀ z V, z = ((H.toNat : Int) + (lo32 (t.drop (k * 4))).toNat * 3266489917) % 4294967296 → Nw w V → Calls Try.prog 61 #[.int .u32 z, .int .i64 17] V fun e w' => e = .returned (.int .u32 ((H + lo32 (t.drop (k * 4)) * 3266489917#32).rotateLeft 17).toNat) ∧ Nw w w') := fun z V hz hV => cbase hV (rrot32_at _ 17 z (hz.trans (by rw [i_add32, i_mul32]; simp)) (by decide) (by decide) V)
          have hE : Hid ((((H + lo32 (t.drop (k * 4)) * 3266489917#32).rotateLeft 17).toNat * 668265263 : Int) % 4294967296 = ((wd32 H ((t.drop (k * 4)).take 4)).toNat : Int)) := by show _ = _; rw [wd32, lo32_take, i_mul32]; rfl
          rw [hH]
          have hH : Hid (foldc 4 wd32 k h0 t = H) := hH
          generalize (H + lo32 (t.drop (k * 4)) * 3266489917#32).rotateLeft 17 = R at *
          generalize lo32 (t.drop (k * 4)) = A at *
          by_cases hcs : c' = 4
          · subst hcs
            obtain rfl : m = 4 := by omega
            go_wp2_with (first
              | (go_at_call 62; with_reducible refine (HL.out _ ?_).mono ?_; (first | assumption | exact (Fr.refl _ _).drew | exact Fr.refl _ _ | exact (Fr.refl _ _).drewN _); rintro e w1 ⟨rfl, hN1⟩)
              | (go_at_call 61; with_reducible refine (HR.out _ _ ?_ ?_).mono ?_; (first | rfl | (simp only [IntKind.wrap_u32]; omega) | omega); (first | assumption | exact (Fr.refl _ _).drew | exact Fr.refl _ _ | exact (Fr.refl _ _).drewN _); rintro e w2 ⟨rfl, hN2⟩))
            go_roundg 0
            case measure => omega
            case rel => exact ⟨k + 1, 0, by rw [foldc_snoc, hH.out]; exact congrArg (fun z => Value.int .u32 z) (by have := hE.out; (try simp only [IntKind.wrap_u32]); omega), (by rw [Nat.add_mul]; first | exact A1.out rfl | exact A1.out trivial), ⟨_, _, rfl, by omega, by omega⟩, by rw [Nat.add_mul]; omega, by omega, by assumption⟩
          · have hcs' : ¬ 4 = c' := fun h => hcs h.symm
            go_wp2_with (first
              | (go_at_call 62; with_reducible refine (HL.out _ ?_).mono ?_; (first | assumption | exact (Fr.refl _ _).drew | exact Fr.refl _ _ | exact (Fr.refl _ _).drewN _); rintro e w1 ⟨rfl, hN1⟩)
              | (go_at_call 61; with_reducible refine (HR.out _ _ ?_ ?_).mono ?_; (first | rfl | (simp only [IntKind.wrap_u32]; omega) | omega); (first | assumption | exact (Fr.refl _ _).drew | exact Fr.refl _ _ | exact (Fr.refl _ _).drewN _); rintro e w2 ⟨rfl, hN2⟩))
            go_roundg (m - 4)
            case measure => omega
            case rel => exact ⟨k + 1, m - 4, by rw [foldc_snoc, hH.out]; exact congrArg (fun z => Value.int .u32 z) (by have := hE.out; (try simp only [IntKind.wrap_u32]); omega), (by rw [Nat.add_mul]; exact A2.out), ⟨_, _, rfl, by omega, by omega⟩, by rw [Nat.add_mul]; omega, by omega, by assumption⟩
        · have hz : (m : Int) < 4 := by omega
          have hdiv : t.length / 4 = k := div_at (by decide) hmk (by omega)
          have RD4 : Hid (∀ V, Nw w V → Rd g o' (t.drop (k * 4)) V) := by
            intro V hV
            obtain ⟨o2, c2, he, _, _, hrr⟩ := hA.out.sl (RK.out V hV)
            injection he with he _ _
            injection he with he
            injection he with _ he
            subst he
            exact hrr
          obtain ⟨t4, ht2⟩ : ∃ x, x = t.drop (k * 4) := ⟨_, rfl⟩
          obtain ⟨h4, hh2⟩ : ∃ x, x = foldc 4 wd32 k h0 t := ⟨_, rfl⟩
          have ht2l : t4.length = m := by rw [ht2]; simp; omega
          rw [← ht2] at RD4
          rw [← hh2]
          have HF4 : Hid (s32 s l = xc32 (xb32 (xa32 (foldc 1 bt32 t4.length h4 t4)))) := by
            show _ = _
            rw [HF0.out, hh2, ht2, ← hdiv]
            have hml := mod_split t.length 4
            rw [show (t.drop (t.length / 4 * 4)).length = t.length % 4 by simp; omega]
          clear ht2 hh2 hdiv hA hmk RK
          subst ht2l
          clear hAc hAc2
          obtain ⟨o4, hO2⟩ : ∃ x, x = o' := ⟨_, rfl⟩
          have hAc := hmc
          have hAc2 := hc2
          subst hO2
          have HN2 : Hid (Nw w wr) := hN
          obtain ⟨wA, hwA⟩ : ∃ z, z = wr := ⟨_, rfl⟩
          subst hwA
          clear hN hmc hc2 hge
          have HA1 : Hid (At g o4 (0 * 1) t4 (.slice (some ⟨g, o4, none⟩) t4.length c') t4.length) := ⟨o4, c', rfl, by omega, hAc, hAc2, .inr (by omega)⟩
          go_wp2
          go_loopg [5, 6] t4.length (fun kx h r wr => ∃ k m : Nat, h = .int .u32 (foldc 1 bt32 k h4 t4).toNat ∧ Hid (At g o4 (k * 1) t4 r m) ∧ (∃ o' c', r = .slice (some ⟨g, o', none⟩) m c' ∧ m ≤ c' ∧ c' < 9223372036854775808) ∧ m + k * 1 = t4.length ∧ m ≤ kx ∧ Nw w wr)
          case atStart => exact ⟨0, t4.length, rfl, HA1, ⟨_, _, rfl, hAc, hAc2⟩, by omega, by omega, HN2.out⟩
          case round =>
            obtain ⟨k, m, rfl, hA, ⟨o', c', rfl, hmc, hc2⟩, hmk, hkx, hN⟩ := hrel
            by_cases hge : 1 ≤ m
            · have hz : (1 : Int) ≤ (m : Int) := by omega
              have AA := At.next (k := 1) hA.out hge (by decide)
              have A1 : Hid (c' = 1 → At g o4 (k * 1 + 1) t4 (.slice (some ⟨g, o', none⟩) (m - 1) (c' - 1)) (m - 1)) := AA.1
              have A2 : Hid (At g o4 (k * 1 + 1) t4 (.slice (some ⟨g, o' + 1, none⟩) (m - 1) (c' - 1)) (m - 1)) := AA.2
              clear AA
              obtain ⟨y, hy⟩ : ∃ y, (t4.drop (k * 1))[0]? = some y := ⟨t4[k * 1], by simp⟩
              have hcl : wr.cell? ⟨g, o', none⟩ = some (.int .u8 y.toNat) := by
                obtain ⟨o2, c2, he, _, _, hrr⟩ := hA.out.sl (RD4.out wr hN)
                injection he with he _ _
                injection he with he
                injection he with _ he
                subst he
                exact hrr.at 0 y hy
              have hY : Hid ((by32 (t4.drop (k * 1))).toNat = y.toNat) := by32_nat _ y hy
              obtain ⟨H, hH⟩ : ∃ H, foldc 1 bt32 k h4 t4 = H := ⟨_, rfl⟩
              have HR : Hid (∀ z V, z = ((H.toNat : Int) + y.toNat * 374761393) % 4294967296 → Nw w V → Calls Try.prog 61 #[.int .u32 z, .int .i64 11] V fun e w' => e = .returned (.int .u32 ((H + by32 (t4.drop (k * 1)) * 374761393#32).rotateLeft 11).toNat) ∧ Nw w w') := fun z V hz hV => cbase hV (rrot32_at _ 11 z (hz.trans (by rw [i_add32, i_mul32, hY.out]; simp)) (by decide) (by decide) V)
              have hE : Hid ((((H + by32 (t4.drop (k * 1)) * 374761393#32).rotateLeft 11).toNat * 2654435761 : Int) % 4294967296 = ((bt32 H ((t4.drop (k * 1)).take 1)).toNat : Int)) := by show _ = _; rw [bt32, by32_take, i_mul32]; rfl
              rw [hH]
              have hH : Hid (foldc 1 bt32 k h4 t4 = H) := hH
              clear hy
              generalize (H + by32 (t4.drop (k * 1)) * 374761393#32).rotateLeft 11 = R at *
              by_cases hcs : c' = 1
              · subst hcs
                obtain rfl : m = 1 := by omega
                go_wp2_with (first
                  | (go_at_call 61; with_reducible refine (HR.out _ _ ?_ ?_).mono ?_; (first | rfl | (simp only [IntKind.wrap_u32]; omega) | omega); (first | assumption | exact (Fr.refl _ _).drew | exact Fr.refl _ _ | exact (Fr.refl _ _).drewN _); rintro e w2 ⟨rfl, hN2⟩))
                go_roundg 0
                case measure => omega
                case rel => exact ⟨k + 1, 0, by rw [foldc_snoc, hH.out]; exact congrArg (fun z => Value.int .u32 z) (by have := hE.out; (try simp only [IntKind.wrap_u32]); omega), (by rw [Nat.add_mul]; first | exact A1.out rfl | exact A1.out trivial), ⟨_, _, rfl, by omega, by omega⟩, by rw [Nat.add_mul]; omega, by omega, by assumption⟩
              · have hcs' : ¬ 1 = c' := fun h => hcs h.symm
                go_wp2_with (first
                  | (go_at_call 61; with_reducible refine (HR.out _ _ ?_ ?_).mono ?_; (first | rfl | (simp only [IntKind.wrap_u32]; omega) | omega); (first | assumption | exact (Fr.refl _ _).drew | exact Fr.refl _ _ | exact (Fr.refl _ _).drewN _); rintro e w2 ⟨rfl, hN2⟩))
                go_roundg (m - 1)
                case measure => omega
                case rel => exact ⟨k + 1, m - 1, by rw [foldc_snoc, hH.out]; exact congrArg (fun z => Value.int .u32 z) (by have := hE.out; (try simp only [IntKind.wrap_u32]); omega), (by rw [Nat.add_mul]; exact A2.out), ⟨_, _, rfl, by omega, by omega⟩, by rw [Nat.add_mul]; omega, by omega, by assumption⟩
            · have hz : (m : Int) < 1 := by omega
              have hdiv : t4.length / 1 = k := div_at (by decide) hmk (by omega)
              obtain ⟨hf, hhf⟩ : ∃ hf, hf = foldc 1 bt32 k h4 t4 := ⟨_, rfl⟩
              have HF : Hid (s32 s l = xc32 (xb32 (xa32 hf))) := by
                show _ = _
                rw [HF4.out, hhf, ← hdiv, mod1]
              rw [← hhf]
              clear hhf hdiv
              have hS' : Hid (((s32 s l).toNat : Int) = ((xc32 (xb32 (xa32 hf))).toNat : Int)) := by show _ = _; rw [HF.out]
              go_wp2
              go_ret
              exact ⟨congrArg (fun z => Ending.returned (.int .u32 z)) (by rw [hS'.out]; (try simp only [IntKind.wrap_u32]); rw [i_xa32, i_xb32, i_xc32]), hN⟩
end Go.Proofs.Ytdeefemeiggolaa

namespace Go.Proofs.Ytdeefemeiggolaa
open Go.RowKit
set_option linter.unusedVariables false
theorem nil32 (s : BitVec 32) : s32 s [] = xc32 (xb32 (xa32 (s + 374761393#32))) := by
  show ava32 (s + 374761393#32 + 0#32) = _
  rw [BitVec.add_zero]; rfl
theorem nil64 (s : BitVec 64) : s64 s [] = xc64 (xb64 (xa64 (s + 2870177450012600261#64))) := by
  show ava64 (s + 2870177450012600261#64 + 0#64) = _
  rw [BitVec.add_zero]; rfl
set_option maxHeartbeats 40000000 in
set_option maxRecDepth 100000 in
theorem rsum32_nil (a : Option Addr) (s : BitVec 32) (w : World) : Calls Try.prog 45 #[.int .u32 s.toNat, .slice a 0 0] w fun e w' => e = .returned (.int .u32 (s32 s []).toNat) ∧ Nw w w' := by
  obtain ⟨h0, hh0⟩ : ∃ h0, h0 = s + 374761393#32 := ⟨_, rfl⟩
  have hE0 : ((s.toNat : Int) + 374761393) % 4294967296 = (h0.toNat : Int) := by
    rw [hh0, i_add32]; simp only [BitVec.toNat_ofNat]; omega
  have hS : Hid (((s32 s []).toNat : Int) = ((xc32 (xb32 (xa32 h0))).toNat : Int)) := by show _ = _; rw [nil32, hh0]
  clear hh0
  go_enter Try.func45, Try.ntmps45
  go_wp2
  go_loopg [5, 6] 1 (fun kx h r wr => h = .int .u32 h0.toNat ∧ r = .slice a 0 0 ∧ wr = w)
  case atStart => exact ⟨rfl, rfl, rfl⟩
  case round =>
    obtain ⟨rfl, rfl, rfl⟩ := hrel
    go_wp2
    go_loopg [5, 6] 1 (fun kx h r wr' => h = .int .u32 h0.toNat ∧ r = .slice a 0 0 ∧ wr' = wr)
    case atStart => exact ⟨rfl, rfl, rfl⟩
    case round =>
      obtain ⟨rfl, rfl, rfl⟩ := hrel
      go_wp2
      go_ret
      exact ⟨congrArg (fun z => Ending.returned (.int .u32 z)) (by rw [hS.out]; (try simp only [IntKind.wrap_u32]); rw [i_xa32, i_xb32, i_xc32]), Fr.refl _ _⟩
theorem rsum32_any (s : BitVec 32) (v : Value) (b : List By) (w : World) (hv : Old w v b) : Calls Try.prog 45 #[.int .u32 s.toNat, v] w fun e w' => e = .returned (.int .u32 (s32 s b).toNat) ∧ Nw w w' := by
  rcases hv with ⟨a, rfl, rfl⟩ | ⟨g, hg, o, c, rfl, h1, h2, h3⟩
  · exact rsum32_nil a s w
  · by_cases h : b.length < 16
    · exact rsum32_few s g o c b w h3 h1 h2 h
    · exact rsum32_many s g o c b w (by omega) h3 h1 h2 h
end Go.Proofs.Ytdeefemeiggolaa

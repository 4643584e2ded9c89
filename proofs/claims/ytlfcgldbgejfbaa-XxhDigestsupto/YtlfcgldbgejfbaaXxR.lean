import Derived.Test.YtlfcgldbgejfbaaXxO
import Derived.Deep.RegionWith
namespace Go.Proofs.Ytlfcgldbgejfbaa
open Go.RowKit
set_option linter.unusedVariables false
theorem lo64_mid (x : List By) (n off : Nat) (h : off + 8 ≤ n) : lo64 ((x.take n).drop off) = lo64 (x.drop off) := by
  unfold lo64
  rw [List.drop_take, List.take_take, Nat.min_eq_left (by omega)]
/-- Four lanes in memory. -/
def LB64l (x : La 64) : List Value := [.int .u64 x.a.toNat, .int .u64 x.b.toNat, .int .u64 x.c.toNat, .int .u64 x.d.toNat]
def LB64 (b : Nat) (x : La 64) (w : World) : Prop := w.heap[b]? = some (.cells (LB64l x).toArray 58)
theorem LB64.kept {b : Nat} {x : La 64} {w w' : World} {X : Nat → Prop} (h : LB64 b x w) (f : Fr X w w') (hx : ¬ X b) : LB64 b x w' := (f.block b (Array.getElem?_eq_some_iff.1 h).1 hx).trans h
theorem LB64.nw {b : Nat} {x : La 64} {w w' : World} (h : LB64 b x w) (f : Nw w w') : LB64 b x w' := h.kept f (fun h => h)
theorem LB64.cell {b : Nat} {x : La 64} {w : World} (h : LB64 b x w) (i : Nat) (v : Value) (hv : (LB64l x)[i]? = some v) : w.cell? ⟨b, i, none⟩ = some v ∧ w.frozen? ⟨b, i, none⟩ = false := by
  unfold LB64 at h
  constructor <;> simp [World.cell?, World.frozen?, h, hv]
theorem LB64.set {b : Nat} {x y : La 64} {w : World} (h : LB64 b x w) (i : Nat) (v : Value) (hy : (LB64l x).set i v = LB64l y) : LB64 b y (w.setCell ⟨b, i, none⟩ v) := by
  unfold LB64 at h ⊢
  simp only [World.setCell, Array.getElem?_modify, h]
  simp [← hy]
theorem LB64.new (w : World) (x : La 64) (l : List Value) (hl : LB64l x = l) : LB64 w.heap.size x (w.alloc (.cells l.toArray 58)) := by
  subst hl
  show (w.heap.push _)[w.heap.size]? = _
  simp
theorem LB64_set0 (x y : La 64) : (LB64l (La.upto x y 0)).set 0 (.int .u64 y.a.toNat) = LB64l (La.upto x y 1) := by simp [LB64l, La.upto]
theorem LB64_get0 (x : La 64) : (LB64l x)[0]? = some (.int .u64 x.a.toNat) := rfl
theorem LB64_set1 (x y : La 64) : (LB64l (La.upto x y 1)).set 1 (.int .u64 y.b.toNat) = LB64l (La.upto x y 2) := by simp [LB64l, La.upto]
theorem LB64_get1 (x : La 64) : (LB64l x)[1]? = some (.int .u64 x.b.toNat) := rfl
theorem LB64_set2 (x y : La 64) : (LB64l (La.upto x y 2)).set 2 (.int .u64 y.c.toNat) = LB64l (La.upto x y 3) := by simp [LB64l, La.upto]
theorem LB64_get2 (x : La 64) : (LB64l x)[2]? = some (.int .u64 x.c.toNat) := rfl
theorem LB64_set3 (x y : La 64) : (LB64l (La.upto x y 3)).set 3 (.int .u64 y.d.toNat) = LB64l (La.upto x y 4) := by simp [LB64l, La.upto]
theorem LB64_get3 (x : La 64) : (LB64l x)[3]? = some (.int .u64 x.d.toNat) := rfl
theorem ini64_cells (s : BitVec 64) : LB64l (ini64 s) = [.int .u64 (IntKind.u64.wrap (IntKind.u64.wrap ((s.toNat : Int) + 11400714785074694791) + 14029467366897019727)), .int .u64 (IntKind.u64.wrap ((s.toNat : Int) + 14029467366897019727)), .int .u64 s.toNat, .int .u64 (IntKind.u64.wrap ((s.toNat : Int) - 11400714785074694791))] := by
  have e1 : ((ini64 s).a.toNat : Int) = (((s.toNat : Int) + 11400714785074694791) % 18446744073709551616 + 14029467366897019727) % 18446744073709551616 := by rw [ini64, i_add64, i_add64]; rfl
  have e2 : ((ini64 s).b.toNat : Int) = ((s.toNat : Int) + 14029467366897019727) % 18446744073709551616 := by rw [ini64, i_add64]; rfl
  have e4 : ((ini64 s).d.toNat : Int) = ((s.toNat : Int) - 11400714785074694791) % 18446744073709551616 := by rw [ini64, i_sub64]; rfl
  simp only [LB64l, e1, e2, e4, IntKind.wrap_u64]
  rfl
set_option maxHeartbeats 40000000 in
set_option maxRecDepth 100000 in
theorem rsum64_many (s : BitVec 64) (g o0 c : Nat) (l : List By) (w : World) (hg : g < w.heap.size) (hrd : Rd g o0 l w) (hc : l.length ≤ c) (hc2 : c < 9223372036854775808) (hs : ¬ l.length < 32) :
    Calls Try.prog 12 #[.int .u64 s.toNat, .slice (some ⟨g, o0, none⟩) l.length c] w fun e w' => e = .returned (.int .u64 (s64 s l).toNat) ∧ Nw w w' := by
  have RD0 : Hid (∀ V, Nw w V → Rd g o0 l V) := fun V hV => hrd.nw hV
  have HA0 : Hid (At g o0 (0 * 32) l (.slice (some ⟨g, o0, none⟩) l.length c) l.length) := ⟨o0, c, rfl, by omega, hc, hc2, .inr (by omega)⟩
  have hAc := hc
  have hAc2 := hc2
  have hz0 : (32 : Int) ≤ (l.length : Int) := by omega
  have HI : Hid (∀ L, L = LB64l (ini64 s) → LB64 w.heap.size (ini64 s) (w.alloc (.cells L.toArray 58)) ∧ Nw w (w.alloc (.cells L.toArray 58))) := fun L hL => ⟨LB64.new w (ini64 s) L hL.symm, (Fr.refl _ _).alloc _⟩
  clear hrd
  go_enter Try.func12, Try.ntmps12
  go_wp2
  obtain ⟨hI1, hI2⟩ := HI.out _ (ini64_cells s).symm
  have HI0 : Hid (LB64 w.heap.size (foldc 32 mix64 0 (ini64 s) l) _ ∧ Nw w _) := ⟨hI1, hI2⟩
  clear hI1 hI2 HI
  obtain ⟨bv, hbv⟩ : ∃ bv, bv = w.heap.size := ⟨_, rfl⟩
  rw [← hbv] at HI0 ⊢
  have hbv' : Hid (w.heap.size ≤ bv) := by show _ ≤ _; omega
  have hgb : g ≠ bv := by omega
  clear hbv
  generalize w.alloc (.cells #[.int .u64 (IntKind.u64.wrap (IntKind.u64.wrap ((s.toNat : Int) + 11400714785074694791) + 14029467366897019727)), .int .u64 (IntKind.u64.wrap ((s.toNat : Int) + 14029467366897019727)), .int .u64 ((s.toNat : Int)), .int .u64 (IntKind.u64.wrap ((s.toNat : Int) - 11400714785074694791))] 58) = W0 at HI0 ⊢
  generalize IntKind.u64.wrap (IntKind.u64.wrap ((s.toNat : Int) + 11400714785074694791) + 14029467366897019727) = e6
  generalize IntKind.u64.wrap ((s.toNat : Int) + 11400714785074694791) = e2
  generalize IntKind.u64.wrap ((s.toNat : Int) + 14029467366897019727) = e4
  generalize IntKind.u64.wrap ((s.toNat : Int) - 11400714785074694791) = e5
  generalize IntKind.u64.wrap ((s.toNat : Int) + 2870177450012600261) = e1
  go_loopg [6] l.length (fun kx r wr => ∃ k m : Nat, Hid (At g o0 (k * 32) l r m) ∧ (∃ o' c', r = .slice (some ⟨g, o', none⟩) m c' ∧ m ≤ c' ∧ c' < 9223372036854775808) ∧ m + k * 32 = l.length ∧ m ≤ kx ∧ Hid (LB64 bv (foldc 32 mix64 k (ini64 s) l) wr ∧ Nw w wr))
  case atStart => exact ⟨0, l.length, HA0, ⟨_, _, rfl, hAc, hAc2⟩, by omega, by omega, HI0⟩
  case round =>
    obtain ⟨k, m, hA, ⟨o', c', rfl, hmc, hcc⟩, hmk, hkx, HL0⟩ := hrel
    by_cases hge : 32 ≤ m
    · have hz : (32 : Int) ≤ (m : Int) := by omega
      have AA := At.next (k := 32) hA.out hge (by decide)
      have A1 : Hid (c' = 32 → At g o0 (k * 32 + 32) l (.slice (some ⟨g, o', none⟩) (m - 32) (c' - 32)) (m - 32)) := AA.1
      have A2 : Hid (At g o0 (k * 32 + 32) l (.slice (some ⟨g, o' + 32, none⟩) (m - 32) (c' - 32)) (m - 32)) := AA.2
      clear AA
      have RK : Hid (∀ V, Nw w V → Rd g o' (l.drop (k * 32)) V) := by
        intro V hV
        obtain ⟨o2, c2, he, _, _, hrr⟩ := hA.out.sl (RD0.out V hV)
        injection he with he _ _
        injection he with he
        injection he with _ he
        subst he
        exact hrr
      have hlk : (l.drop (k * 32)).length = m := by simp; omega
      obtain ⟨x, hx⟩ : ∃ x, foldc 32 mix64 k (ini64 s) l = x := ⟨_, rfl⟩
      obtain ⟨q, hq⟩ : ∃ q, l.drop (k * 32) = q := ⟨_, rfl⟩
      rw [hq] at RK hlk
      rw [hx] at HL0
      obtain ⟨y, hy⟩ : ∃ y, mix64 x (q.take 32) = y := ⟨_, rfl⟩
      have HNX : Hid (foldc 32 mix64 (k + 1) (ini64 s) l = y) := by show _ = _; rw [foldc_snoc, hx, hq, hy]
      have HS0 : Hid (LB64 bv (La.upto x y 0) wr ∧ Nw w wr) := ⟨by rw [La.upto0]; exact HL0.out.1, HL0.out.2⟩
      have hyH : Hid (mix64 x (q.take 32) = y) := hy
      have hlkH : Hid (q.length = m) := hlk
      clear hx hq hy hlk HL0 hA
      go_wp2
      obtain ⟨wA, hwA⟩ : ∃ z, z = wr := ⟨_, rfl⟩
      subst hwA
      go_loopg [8] 4 (fun kx t wr2 => ∃ (i : Nat) (z : Int), i ≤ 4 ∧ 4 - i ≤ kx ∧ t = .int .i64 z ∧ z = i ∧ Hid (LB64 bv (La.upto x y i) wr2 ∧ Nw w wr2))
      case atStart => exact ⟨0, 0, by decide, by decide, rfl, rfl, HS0⟩
      case round =>
        obtain ⟨i, z, hi, hkx2, rfl, hz', HI⟩ := hrel
        by_cases hlt : i < 4
        · obtain rfl | rfl | rfl | rfl : i = 0 ∨ i = 1 ∨ i = 2 ∨ i = 3 := by omega
          · obtain rfl : z = 0 := hz'
            obtain ⟨hLB, hNw⟩ := HI.out
            have hl0 := hLB.cell 0 _ (LB64_get0 _)
            rw [upto_at0] at hl0
            obtain ⟨c1, c2⟩ := hl0
            have KC : Hid (∀ V, Nw wr V → V.cell? ⟨bv, 0, none⟩ = some (.int .u64 x.a.toNat) ∧ V.frozen? ⟨bv, 0, none⟩ = false) := by
              intro V hV
              have := (hLB.nw hV).cell 0 _ (LB64_get0 _)
              rw [upto_at0] at this; exact this
            have hnc : ¬ c' = 0 := by omega
            have hwr : IntKind.i64.wrap 0 = 0 := by decide
            have hoz : (0 : Int) ≤ (m : Int) := by omega
            have HL : Hid (∀ V, Nw wr V → Calls Try.prog 29 #[.slice (some ⟨g, o', none⟩) m c'] V fun e w' => e = .returned (.int .u64 (lo64 ((q.take 32).drop 0)).toNat) ∧ Nw wr w') := by
              intro V hV
              have hlk := hlkH.out
              rw [lo64_mid q 32 0 (by decide)]
              exact cbase hV (rlow64_any g _ _ V ⟨o', c', by simp [hlk], by simp [hlk]; omega, by omega, (RK.out V (hNw.trans hV))⟩ (by simp [hlk]; omega))
            have HR : Hid (∀ V, Nw wr V → Calls Try.prog 28 #[.int .u64 x.a.toNat, .int .u64 (lo64 ((q.take 32).drop 0)).toNat] V fun e w' => e = .returned (.int .u64 (rd64 x.a (lo64 ((q.take 32).drop 0))).toNat) ∧ Nw wr w') := fun V hV => cbase hV (rround_at _ _ _ _ rfl rfl V)
            have hE : Hid ((y.a.toNat : Int) = (rd64 x.a (lo64 ((q.take 32).drop 0))).toNat) := by show _ = _; rw [← hyH.out]; rfl
            generalize rd64 x.a (lo64 ((q.take 32).drop 0)) = R at *
            generalize lo64 ((q.take 32).drop 0) = A at *
            have FIN : Hid (∀ V v, Nw wr V → v = (y.a.toNat : Int) → LB64 bv (La.upto x y 1) (V.setCell ⟨bv, 0, none⟩ (.int .u64 v)) ∧ Nw w (V.setCell ⟨bv, 0, none⟩ (.int .u64 v))) := by
              intro V v hV hv
              subst hv
              exact ⟨(hLB.nw hV).set 0 _ (LB64_set0 x y), (hNw.trans hV).setCell _ _ (.inr hbv'.out)⟩
            clear hLB hNw HI
            go_wp2_with fail
            go_region_with (first
              | (go_at_call 29; with_reducible refine (HL.out _ ?_).mono ?_; (first | assumption | exact (Fr.refl _ _).drew | exact Fr.refl _ _ | exact (Fr.refl _ _).drewN _); rintro e w1 ⟨rfl, hN1⟩; obtain ⟨c3, c4⟩ := KC.out w1 hN1)
              | (go_at_call 28; with_reducible refine (HR.out _ ?_).mono ?_; (first | assumption | exact (Fr.refl _ _).drew | exact Fr.refl _ _ | exact (Fr.refl _ _).drewN _); rintro e w2 ⟨rfl, hN2⟩; obtain ⟨c5, c6⟩ := KC.out w2 hN2))
            all_goals go_wp2
            all_goals go_roundg 3
            all_goals (first | omega | exact ⟨1, 1, by decide, by decide, rfl, rfl, FIN.out _ _ (by assumption) (by rw [hE.out]; (try simp only [IntKind.wrap_u32]))⟩)
          · obtain rfl : z = 1 := hz'
            obtain ⟨hLB, hNw⟩ := HI.out
            have hl0 := hLB.cell 1 _ (LB64_get1 _)
            rw [upto_at1] at hl0
            obtain ⟨c1, c2⟩ := hl0
            have KC : Hid (∀ V, Nw wr V → V.cell? ⟨bv, 1, none⟩ = some (.int .u64 x.b.toNat) ∧ V.frozen? ⟨bv, 1, none⟩ = false) := by
              intro V hV
              have := (hLB.nw hV).cell 1 _ (LB64_get1 _)
              rw [upto_at1] at this; exact this
            have hnc : ¬ c' = 8 := by omega
            have hwr : IntKind.i64.wrap 8 = 8 := by decide
            have hoz : (8 : Int) ≤ (m : Int) := by omega
            have HL : Hid (∀ V, Nw wr V → Calls Try.prog 29 #[.slice (some ⟨g, o' + 8, none⟩) (m - 8) (c' - 8)] V fun e w' => e = .returned (.int .u64 (lo64 ((q.take 32).drop 8)).toNat) ∧ Nw wr w') := by
              intro V hV
              have hlk := hlkH.out
              rw [lo64_mid q 32 8 (by decide)]
              exact cbase hV (rlow64_any g _ _ V ⟨o' + 8, (c' - 8), by simp [hlk], by simp [hlk]; omega, by omega, (RK.out V (hNw.trans hV)).drop 8⟩ (by simp [hlk]; omega))
            have HR : Hid (∀ V, Nw wr V → Calls Try.prog 28 #[.int .u64 x.b.toNat, .int .u64 (lo64 ((q.take 32).drop 8)).toNat] V fun e w' => e = .returned (.int .u64 (rd64 x.b (lo64 ((q.take 32).drop 8))).toNat) ∧ Nw wr w') := fun V hV => cbase hV (rround_at _ _ _ _ rfl rfl V)
            have hE : Hid ((y.b.toNat : Int) = (rd64 x.b (lo64 ((q.take 32).drop 8))).toNat) := by show _ = _; rw [← hyH.out]; rfl
            generalize rd64 x.b (lo64 ((q.take 32).drop 8)) = R at *
            generalize lo64 ((q.take 32).drop 8) = A at *
            have FIN : Hid (∀ V v, Nw wr V → v = (y.b.toNat : Int) → LB64 bv (La.upto x y 2) (V.setCell ⟨bv, 1, none⟩ (.int .u64 v)) ∧ Nw w (V.setCell ⟨bv, 1, none⟩ (.int .u64 v))) := by
              intro V v hV hv
              subst hv
              exact ⟨(hLB.nw hV).set 1 _ (LB64_set1 x y), (hNw.trans hV).setCell _ _ (.inr hbv'.out)⟩
            clear hLB hNw HI
            go_wp2_with fail
            go_region_with (first
              | (go_at_call 29; with_reducible refine (HL.out _ ?_).mono ?_; (first | assumption | exact (Fr.refl _ _).drew | exact Fr.refl _ _ | exact (Fr.refl _ _).drewN _); rintro e w1 ⟨rfl, hN1⟩; obtain ⟨c3, c4⟩ := KC.out w1 hN1)
              | (go_at_call 28; with_reducible refine (HR.out _ ?_).mono ?_; (first | assumption | exact (Fr.refl _ _).drew | exact Fr.refl _ _ | exact (Fr.refl _ _).drewN _); rintro e w2 ⟨rfl, hN2⟩; obtain ⟨c5, c6⟩ := KC.out w2 hN2))
            all_goals go_wp2
            all_goals go_roundg 2
            all_goals (first | omega | exact ⟨2, 2, by decide, by decide, rfl, rfl, FIN.out _ _ (by assumption) (by rw [hE.out]; (try simp only [IntKind.wrap_u32]))⟩)
          · obtain rfl : z = 2 := hz'
            obtain ⟨hLB, hNw⟩ := HI.out
            have hl0 := hLB.cell 2 _ (LB64_get2 _)
            rw [upto_at2] at hl0
            obtain ⟨c1, c2⟩ := hl0
            have KC : Hid (∀ V, Nw wr V → V.cell? ⟨bv, 2, none⟩ = some (.int .u64 x.c.toNat) ∧ V.frozen? ⟨bv, 2, none⟩ = false) := by
              intro V hV
              have := (hLB.nw hV).cell 2 _ (LB64_get2 _)
              rw [upto_at2] at this; exact this
            have hnc : ¬ c' = 16 := by omega
            have hwr : IntKind.i64.wrap 16 = 16 := by decide
            have hoz : (16 : Int) ≤ (m : Int) := by omega
            have HL : Hid (∀ V, Nw wr V → Calls Try.prog 29 #[.slice (some ⟨g, o' + 16, none⟩) (m - 16) (c' - 16)] V fun e w' => e = .returned (.int .u64 (lo64 ((q.take 32).drop 16)).toNat) ∧ Nw wr w') := by
              intro V hV
              have hlk := hlkH.out
              rw [lo64_mid q 32 16 (by decide)]
              exact cbase hV (rlow64_any g _ _ V ⟨o' + 16, (c' - 16), by simp [hlk], by simp [hlk]; omega, by omega, (RK.out V (hNw.trans hV)).drop 16⟩ (by simp [hlk]; omega))
            have HR : Hid (∀ V, Nw wr V → Calls Try.prog 28 #[.int .u64 x.c.toNat, .int .u64 (lo64 ((q.take 32).drop 16)).toNat] V fun e w' => e = .returned (.int .u64 (rd64 x.c (lo64 ((q.take 32).drop 16))).toNat) ∧ Nw wr w') := fun V hV => cbase hV (rround_at _ _ _ _ rfl rfl V)
            have hE : Hid ((y.c.toNat : Int) = (rd64 x.c (lo64 ((q.take 32).drop 16))).toNat) := by show _ = _; rw [← hyH.out]; rfl
            generalize rd64 x.c (lo64 ((q.take 32).drop 16)) = R at *
            generalize lo64 ((q.take 32).drop 16) = A at *
            have FIN : Hid (∀ V v, Nw wr V → v = (y.c.toNat : Int) → LB64 bv (La.upto x y 3) (V.setCell ⟨bv, 2, none⟩ (.int .u64 v)) ∧ Nw w (V.setCell ⟨bv, 2, none⟩ (.int .u64 v))) := by
              intro V v hV hv
              subst hv
              exact ⟨(hLB.nw hV).set 2 _ (LB64_set2 x y), (hNw.trans hV).setCell _ _ (.inr hbv'.out)⟩
            clear hLB hNw HI
            go_wp2_with fail
            go_region_with (first
              | (go_at_call 29; with_reducible refine (HL.out _ ?_).mono ?_; (first | assumption | exact (Fr.refl _ _).drew | exact Fr.refl _ _ | exact (Fr.refl _ _).drewN _); rintro e w1 ⟨rfl, hN1⟩; obtain ⟨c3, c4⟩ := KC.out w1 hN1)
              | (go_at_call 28; with_reducible refine (HR.out _ ?_).mono ?_; (first | assumption | exact (Fr.refl _ _).drew | exact Fr.refl _ _ | exact (Fr.refl _ _).drewN _); rintro e w2 ⟨rfl, hN2⟩; obtain ⟨c5, c6⟩ := KC.out w2 hN2))
            all_goals go_wp2
            all_goals go_roundg 1
            all_goals (first | omega | exact ⟨3, 3, by decide, by decide, rfl, rfl, FIN.out _ _ (by assumption) (by rw [hE.out]; (try simp only [IntKind.wrap_u32]))⟩)
          · obtain rfl : z = 3 := hz'
            obtain ⟨hLB, hNw⟩ := HI.out
            have hl0 := hLB.cell 3 _ (LB64_get3 _)
            rw [upto_at3] at hl0
            obtain ⟨c1, c2⟩ := hl0
            have KC : Hid (∀ V, Nw wr V → V.cell? ⟨bv, 3, none⟩ = some (.int .u64 x.d.toNat) ∧ V.frozen? ⟨bv, 3, none⟩ = false) := by
              intro V hV
              have := (hLB.nw hV).cell 3 _ (LB64_get3 _)
              rw [upto_at3] at this; exact this
            have hnc : ¬ c' = 24 := by omega
            have hwr : IntKind.i64.wrap 24 = 24 := by decide
            have hoz : (24 : Int) ≤ (m : Int) := by omega
            have HL : Hid (∀ V, Nw wr V → Calls Try.prog 29 #[.slice (some ⟨g, o' + 24, none⟩) (m - 24) (c' - 24)] V fun e w' => e = .returned (.int .u64 (lo64 ((q.take 32).drop 24)).toNat) ∧ Nw wr w') := by
              intro V hV
              have hlk := hlkH.out
              rw [lo64_mid q 32 24 (by decide)]
              exact cbase hV (rlow64_any g _ _ V ⟨o' + 24, (c' - 24), by simp [hlk], by simp [hlk]; omega, by omega, (RK.out V (hNw.trans hV)).drop 24⟩ (by simp [hlk]; omega))
            have HR : Hid (∀ V, Nw wr V → Calls Try.prog 28 #[.int .u64 x.d.toNat, .int .u64 (lo64 ((q.take 32).drop 24)).toNat] V fun e w' => e = .returned (.int .u64 (rd64 x.d (lo64 ((q.take 32).drop 24))).toNat) ∧ Nw wr w') := fun V hV => cbase hV (rround_at _ _ _ _ rfl rfl V)
            have hE : Hid ((y.d.toNat : Int) = (rd64 x.d (lo64 ((q.take 32).drop 24))).toNat) := by show _ = _; rw [← hyH.out]; rfl
            generalize rd64 x.d (lo64 ((q.take 32).drop 24)) = R at *
            generalize lo64 ((q.take 32).drop 24) = A at *
            have FIN : Hid (∀ V v, Nw wr V → v = (y.d.toNat : Int) → LB64 bv (La.upto x y 4) (V.setCell ⟨bv, 3, none⟩ (.int .u64 v)) ∧ Nw w (V.setCell ⟨bv, 3, none⟩ (.int .u64 v))) := by
              intro V v hV hv
              subst hv
              exact ⟨(hLB.nw hV).set 3 _ (LB64_set3 x y), (hNw.trans hV).setCell _ _ (.inr hbv'.out)⟩
            clear hLB hNw HI
            go_wp2_with fail
            go_region_with (first
              | (go_at_call 29; with_reducible refine (HL.out _ ?_).mono ?_; (first | assumption | exact (Fr.refl _ _).drew | exact Fr.refl _ _ | exact (Fr.refl _ _).drewN _); rintro e w1 ⟨rfl, hN1⟩; obtain ⟨c3, c4⟩ := KC.out w1 hN1)
              | (go_at_call 28; with_reducible refine (HR.out _ ?_).mono ?_; (first | assumption | exact (Fr.refl _ _).drew | exact Fr.refl _ _ | exact (Fr.refl _ _).drewN _); rintro e w2 ⟨rfl, hN2⟩; obtain ⟨c5, c6⟩ := KC.out w2 hN2))
            all_goals go_wp2
            all_goals go_roundg 0
            all_goals (first | omega | exact ⟨4, 4, by decide, by decide, rfl, rfl, FIN.out _ _ (by assumption) (by rw [hE.out]; (try simp only [IntKind.wrap_u32]))⟩)
        · obtain rfl : i = 4 := by omega
          obtain rfl : z = 4 := hz'
          have HY : Hid (LB64 bv (foldc 32 mix64 (k + 1) (ini64 s) l) wr ∧ Nw w wr) := by
            have := HI.out
            rw [La.upto4] at this
            rw [HNX.out]; exact this
          clear HI HS0 HNX hyH hlkH RK
          by_cases hcs : c' = 32
          · subst hcs
            obtain rfl : m = 32 := by omega
            go_wp2
            go_roundg 0
            case measure => omega
            case rel => exact ⟨k + 1, 0, (by rw [Nat.add_mul]; first | exact A1.out rfl | exact A1.out trivial), ⟨_, _, rfl, by omega, by omega⟩, by rw [Nat.add_mul]; omega, by omega, HY⟩
          · have hcs' : ¬ 32 = c' := fun h => hcs h.symm
            go_wp2
            go_roundg (m - 32)
            case measure => omega
            case rel => exact ⟨k + 1, m - 32, (by rw [Nat.add_mul]; exact A2.out), ⟨_, _, rfl, by omega, by omega⟩, by rw [Nat.add_mul]; omega, by omega, HY⟩
    · have hz : (m : Int) < 32 := by omega
      have hdiv : l.length / 32 = k := div_at (by decide) hmk (by omega)
      have RK : Hid (∀ V, Nw w V → Rd g o' (l.drop (k * 32)) V) := by
        intro V hV
        obtain ⟨o2, c2, he, _, _, hrr⟩ := hA.out.sl (RD0.out V hV)
        injection he with he _ _
        injection he with he
        injection he with _ he
        subst he
        exact hrr
      have hlk : (l.drop (k * 32)).length = m := by simp; omega
      obtain ⟨x, hx⟩ : ∃ x, x = foldc 32 mix64 k (ini64 s) l := ⟨_, rfl⟩
      obtain ⟨t, ht⟩ : ∃ t, t = l.drop (k * 32) := ⟨_, rfl⟩
      rw [← ht] at RK hlk
      rw [← hx] at HL0
      have hxs : Hid (x = str64 s l) := by show _ = _; rw [hx, ← hdiv]; rfl
      have htt : Hid (t = l.drop (l.length / 32 * 32)) := by show _ = _; rw [ht, hdiv]
      subst hlk
      have hAcX := hmc
      have hAcY := hcc
      clear hAc hAc2 hx ht hdiv hA RD0
      obtain ⟨hLB, hNw⟩ := HL0.out
      have KEY : Hid (∀ V, Nw wr V → V.cell? ⟨bv, 0, none⟩ = some (.int .u64 x.a.toNat) ∧ V.cell? ⟨bv, 1, none⟩ = some (.int .u64 x.b.toNat) ∧ V.cell? ⟨bv, 2, none⟩ = some (.int .u64 x.c.toNat) ∧ V.cell? ⟨bv, 3, none⟩ = some (.int .u64 x.d.toNat)) := fun V hV => ⟨((hLB.nw hV).cell 0 _ (LB64_get0 _)).1, ((hLB.nw hV).cell 1 _ (LB64_get1 _)).1, ((hLB.nw hV).cell 2 _ (LB64_get2 _)).1, ((hLB.nw hV).cell 3 _ (LB64_get3 _)).1⟩
      have H0 : Hid (∀ V, Nw wr V → Calls Try.prog 30 #[.int .u64 x.a.toNat, .int .i64 1] V fun e w' => e = .returned (.int .u64 (x.a.rotateLeft 1).toNat) ∧ Nw wr w') := fun V hV => cbase hV (rrot64_at x.a 1 _ rfl (by decide) (by decide) V)
      have H1 : Hid (∀ V, Nw wr V → Calls Try.prog 30 #[.int .u64 x.b.toNat, .int .i64 7] V fun e w' => e = .returned (.int .u64 (x.b.rotateLeft 7).toNat) ∧ Nw wr w') := fun V hV => cbase hV (rrot64_at x.b 7 _ rfl (by decide) (by decide) V)
      have H2 : Hid (∀ V, Nw wr V → Calls Try.prog 30 #[.int .u64 x.c.toNat, .int .i64 12] V fun e w' => e = .returned (.int .u64 (x.c.rotateLeft 12).toNat) ∧ Nw wr w') := fun V hV => cbase hV (rrot64_at x.c 12 _ rfl (by decide) (by decide) V)
      have H3 : Hid (∀ V, Nw wr V → Calls Try.prog 30 #[.int .u64 x.d.toNat, .int .i64 18] V fun e w' => e = .returned (.int .u64 (x.d.rotateLeft 18).toNat) ∧ Nw wr w') := fun V hV => cbase hV (rrot64_at x.d 18 _ rfl (by decide) (by decide) V)
      have hJ : Hid (IntKind.u64.wrap (IntKind.u64.wrap (IntKind.u64.wrap (((x.a.rotateLeft 1).toNat : Int) + (x.b.rotateLeft 7).toNat) + (x.c.rotateLeft 12).toNat) + (x.d.rotateLeft 18).toNat) = ((joi64 x).toNat : Int)) := by show _ = _; rw [joi64, i_add64, i_add64, i_add64, IntKind.wrap_u64, IntKind.wrap_u64, IntKind.wrap_u64]
      have hNwH : Hid (Nw w wr) := hNw
      obtain ⟨J, hJe⟩ : ∃ J, joi64 x = J := ⟨_, rfl⟩
      rw [hJe] at hJ
      clear hLB hNw HL0
      generalize x.a.rotateLeft 1 = R0 at *
      generalize x.b.rotateLeft 7 = R1 at *
      generalize x.c.rotateLeft 12 = R2 at *
      generalize x.d.rotateLeft 18 = R3 at *
      obtain ⟨wB, hwB⟩ : ∃ z, z = wr := ⟨_, rfl⟩
      subst hwB
      go_wp2_with fail
      go_region_held3 (fun w' => w'.cell? ⟨bv, 0, none⟩ = some (.int .u64 x.a.toNat) ∧ w'.cell? ⟨bv, 1, none⟩ = some (.int .u64 x.b.toNat) ∧ w'.cell? ⟨bv, 2, none⟩ = some (.int .u64 x.c.toNat) ∧ w'.cell? ⟨bv, 3, none⟩ = some (.int .u64 x.d.toNat))
        (first | exact KEY.out _ (by assumption) | exact KEY.out _ (Fr.refl _ _).drew | exact KEY.out _ (Fr.refl _ _))
        (first
          | (go_at_call 30; with_reducible refine (H0.out _ ?_).mono ?_; (first | assumption | exact (Fr.refl _ _).drew | exact Fr.refl _ _ | exact (Fr.refl _ _).drewN _); rintro e w1 ⟨rfl, hN1⟩)
          | (go_at_call 30; with_reducible refine (H1.out _ ?_).mono ?_; (first | assumption | exact (Fr.refl _ _).drew | exact Fr.refl _ _ | exact (Fr.refl _ _).drewN _); rintro e w2 ⟨rfl, hN2⟩)
          | (go_at_call 30; with_reducible refine (H2.out _ ?_).mono ?_; (first | assumption | exact (Fr.refl _ _).drew | exact Fr.refl _ _ | exact (Fr.refl _ _).drewN _); rintro e w3 ⟨rfl, hN3⟩)
          | (go_at_call 30; with_reducible refine (H3.out _ ?_).mono ?_; (first | assumption | exact (Fr.refl _ _).drew | exact Fr.refl _ _ | exact (Fr.refl _ _).drewN _); rintro e w4 ⟨rfl, hN4⟩))
      rw [hJ.out]
      generalize IntKind.u64.wrap (IntKind.u64.wrap ((R0.toNat : Int) + R1.toNat) + R2.toNat) = e7
      generalize IntKind.u64.wrap ((R0.toNat : Int) + R1.toNat) = e8
      have HC : Hid (∀ V, Nw wB V → V.cell? ⟨bv, 0, none⟩ = some (.int .u64 x.a.toNat) ∧ V.cell? ⟨bv, 1, none⟩ = some (.int .u64 x.b.toNat) ∧ V.cell? ⟨bv, 2, none⟩ = some (.int .u64 x.c.toNat) ∧ V.cell? ⟨bv, 3, none⟩ = some (.int .u64 x.d.toNat)) := KEY
      have HJ : Hid (∀ (v : BitVec 64) V, Nw wB V → Calls Try.prog 28 #[.int .u64 0, .int .u64 v.toNat] V fun e w' => e = .returned (.int .u64 (rd64 0#64 v).toNat) ∧ Nw wB w') := fun v V hV => cbase hV (rround_at 0#64 v _ _ rfl rfl V)
      have HS : Hid (∀ (h v : BitVec 64), IntKind.u64.wrap (IntKind.u64.wrap (bits .xor .u64 (h.toNat : Int) ((rd64 0#64 v).toNat : Int) * 11400714785074694791) + 9650029242287828579) = ((jo64 h v).toNat : Int)) := by
        intro h v
        rw [jo64, i_add64, i_mul64, i_xor64, IntKind.wrap_u64, IntKind.wrap_u64]; rfl
      have HN4 : Hid (Nw wB w4) := hN4
      clear hN1 hN2 hN3 hN4 KEY H0 H1 H2 H3 hJ hge hmk hmc hcc
      have hAc := hAcX
      have hAc2 := hAcY
      obtain ⟨o1, ho1⟩ : ∃ z, z = o' := ⟨_, rfl⟩
      obtain ⟨c1, hc1⟩ : ∃ z, z = c' := ⟨_, rfl⟩
      subst ho1 hc1
      go_wp2
      go_loopg [5, 9] 4 (fun kx h t wr => ∃ (i : Nat) (z : Int) (H : BitVec 64), i ≤ 4 ∧ 4 - i ≤ kx ∧ t = .int .i64 z ∧ z = i ∧ h = .int .u64 H.toNat ∧ Hid (H = joN x J i) ∧ Nw wB wr)
      case atStart => exact ⟨0, 0, J, by decide, by decide, rfl, rfl, rfl, rfl, HN4.out⟩
      case round =>
        obtain ⟨i, z, H, hi, hkx, rfl, hz', rfl, hH, hN⟩ := hrel
        by_cases hlt : i < 4
        · obtain ⟨m0, m1, m2, m3⟩ := HC.out wr hN
          obtain rfl | rfl | rfl | rfl : i = 0 ∨ i = 1 ∨ i = 2 ∨ i = 3 := by omega
          · obtain rfl : z = 0 := hz'
            go_wp2_with (go_at_call 28; with_reducible refine (HJ.out x.a _ hN).mono ?_; rintro e w5 ⟨rfl, hN5⟩)
            go_roundg 3
            case measure => omega
            case rel => exact ⟨1, 1, jo64 H x.a, by decide, by decide, rfl, rfl, by rw [HS.out H x.a], (by show _ = _; rw [hH.out]; rfl), hN5⟩
          · obtain rfl : z = 1 := hz'
            go_wp2_with (go_at_call 28; with_reducible refine (HJ.out x.b _ hN).mono ?_; rintro e w5 ⟨rfl, hN5⟩)
            go_roundg 2
            case measure => omega
            case rel => exact ⟨2, 2, jo64 H x.b, by decide, by decide, rfl, rfl, by rw [HS.out H x.b], (by show _ = _; rw [hH.out]; rfl), hN5⟩
          · obtain rfl : z = 2 := hz'
            go_wp2_with (go_at_call 28; with_reducible refine (HJ.out x.c _ hN).mono ?_; rintro e w5 ⟨rfl, hN5⟩)
            go_roundg 1
            case measure => omega
            case rel => exact ⟨3, 3, jo64 H x.c, by decide, by decide, rfl, rfl, by rw [HS.out H x.c], (by show _ = _; rw [hH.out]; rfl), hN5⟩
          · obtain rfl : z = 3 := hz'
            go_wp2_with (go_at_call 28; with_reducible refine (HJ.out x.d _ hN).mono ?_; rintro e w5 ⟨rfl, hN5⟩)
            go_roundg 0
            case measure => omega
            case rel => exact ⟨4, 4, jo64 H x.d, by decide, by decide, rfl, rfl, by rw [HS.out H x.d], (by show _ = _; rw [hH.out]; rfl), hN5⟩
        · obtain rfl : i = 4 := by omega
          obtain rfl : z = 4 := hz'
          obtain ⟨h0, hh0⟩ : ∃ h0, h0 = H + BitVec.ofNat 64 l.length := ⟨_, rfl⟩
          have hE0 : Hid (IntKind.u64.wrap ((H.toNat : Int) + (l.length : Int)) = (h0.toNat : Int)) := by
            show _ = _
            rw [hh0, i_add64]; simp only [BitVec.toNat_ofNat, IntKind.wrap_u64]; omega
          have HF0 : Hid (s64 s l = fin64 h0 t) := by
            show _ = _
            rw [s64, beg64, if_neg hs, ← hxs.out, hh0, hH.out, ← htt.out, ← hJe]; rfl
          have HNS : Hid (Nw w wr) := hNwH.out.trans hN
          have HA0 : Hid (At g o1 (0 * 8) t (.slice (some ⟨g, o1, none⟩) t.length c1) t.length) := ⟨o1, c1, rfl, by omega, hAcX, hAcY, .inr (by omega)⟩
          obtain ⟨wC, hwC⟩ : ∃ z, z = wr := ⟨_, rfl⟩
          subst hwC
          clear HC HJ HS HN4 hN hh0 hH hJe
          go_wp2
          rw [hE0.out]
          go_loopg [5, 6] t.length (fun kx h r wr => ∃ k m : Nat, h = .int .u64 (foldc 8 wd64 k h0 t).toNat ∧ Hid (At g o1 (k * 8) t r m) ∧ (∃ o' c', r = .slice (some ⟨g, o', none⟩) m c' ∧ m ≤ c' ∧ c' < 9223372036854775808) ∧ m + k * 8 = t.length ∧ m ≤ kx ∧ Nw w wr)
          case atStart => exact ⟨0, t.length, rfl, HA0, ⟨_, _, rfl, hAc, hAc2⟩, by omega, by omega, HNS.out⟩
          case round =>
            obtain ⟨k, m, rfl, hA, ⟨o', c', rfl, hmc, hc2⟩, hmk, hkx, hN⟩ := hrel
            by_cases hge : 8 ≤ m
            · have hz : (8 : Int) ≤ (m : Int) := by omega
              have AA := At.next (k := 8) hA.out hge (by decide)
              have A1 : Hid (c' = 8 → At g o1 (k * 8 + 8) t (.slice (some ⟨g, o', none⟩) (m - 8) (c' - 8)) (m - 8)) := AA.1
              have A2 : Hid (At g o1 (k * 8 + 8) t (.slice (some ⟨g, o' + 8, none⟩) (m - 8) (c' - 8)) (m - 8)) := AA.2
              clear AA
              have HL : Hid (∀ V, Nw w V → Calls Try.prog 29 #[.slice (some ⟨g, o', none⟩) m c'] V fun e w' => e = .returned (.int .u64 (lo64 (t.drop (k * 8))).toNat) ∧ Nw w w') := fun V hV => cbase hV (rlow64_any g _ _ V (hA.out.sl (RK.out V hV)) (by simp; omega))
              obtain ⟨H, hH⟩ : ∃ H, foldc 8 wd64 k h0 t = H := ⟨_, rfl⟩
              have HQ : Hid (∀ V, Nw w V → Calls Try.prog 28 #[.int .u64 0, .int .u64 (lo64 (t.drop (k * 8))).toNat] V fun e w' => e = .returned (.int .u64 (rd64 0#64 (lo64 (t.drop (k * 8)))).toNat) ∧ Nw w w') := fun V hV => cbase hV (rround_at 0#64 _ _ _ rfl rfl V)
              have HR : Hid (∀ V, Nw w V → Calls Try.prog 30 #[.int .u64 (bits .xor .u64 (H.toNat : Int) ((rd64 0#64 (lo64 (t.drop (k * 8)))).toNat : Int)), .int .i64 27] V fun e w' => e = .returned (.int .u64 ((H ^^^ rd64 0#64 (lo64 (t.drop (k * 8)))).rotateLeft 27).toNat) ∧ Nw w w') := fun V hV => cbase hV (rrot64_at _ 27 _ (i_xor64 _ _) (by decide) (by decide) V)
              have hE : Hid (((((H ^^^ rd64 0#64 (lo64 (t.drop (k * 8)))).rotateLeft 27).toNat * 11400714785074694791 : Int) % 18446744073709551616 + 9650029242287828579) % 18446744073709551616 = ((wd64 H ((t.drop (k * 8)).take 8)).toNat : Int)) := by show _ = _; rw [wd64, lo64_take, i_add64, i_mul64]; rfl
              rw [hH]
              have hH : Hid (foldc 8 wd64 k h0 t = H) := hH
              generalize (H ^^^ rd64 0#64 (lo64 (t.drop (k * 8)))).rotateLeft 27 = R at *
              generalize rd64 0#64 (lo64 (t.drop (k * 8))) = Q at *
              generalize lo64 (t.drop (k * 8)) = A at *
              by_cases hcs : c' = 8
              · subst hcs
                obtain rfl : m = 8 := by omega
                go_wp2_with (first
                  | (go_at_call 29; with_reducible refine (HL.out _ ?_).mono ?_; (first | assumption | exact (Fr.refl _ _).drew | exact Fr.refl _ _ | exact (Fr.refl _ _).drewN _); rintro e w1 ⟨rfl, hN1⟩)
                  | (go_at_call 28; with_reducible refine (HQ.out _ ?_).mono ?_; (first | assumption | exact (Fr.refl _ _).drew | exact Fr.refl _ _ | exact (Fr.refl _ _).drewN _); rintro e w3 ⟨rfl, hN3⟩)
                  | (go_at_call 30; with_reducible refine (HR.out _ ?_).mono ?_; (first | assumption | exact (Fr.refl _ _).drew | exact Fr.refl _ _ | exact (Fr.refl _ _).drewN _); rintro e w2 ⟨rfl, hN2⟩))
                go_roundg 0
                case measure => omega
                case rel => exact ⟨k + 1, 0, by rw [foldc_snoc, hH.out]; exact congrArg (fun z => Value.int .u64 z) (by have := hE.out; (try simp only [IntKind.wrap_u64]); omega), (by rw [Nat.add_mul]; first | exact A1.out rfl | exact A1.out trivial), ⟨_, _, rfl, by omega, by omega⟩, by rw [Nat.add_mul]; omega, by omega, by assumption⟩
              · have hcs' : ¬ 8 = c' := fun h => hcs h.symm
                go_wp2_with (first
                  | (go_at_call 29; with_reducible refine (HL.out _ ?_).mono ?_; (first | assumption | exact (Fr.refl _ _).drew | exact Fr.refl _ _ | exact (Fr.refl _ _).drewN _); rintro e w1 ⟨rfl, hN1⟩)
                  | (go_at_call 28; with_reducible refine (HQ.out _ ?_).mono ?_; (first | assumption | exact (Fr.refl _ _).drew | exact Fr.refl _ _ | exact (Fr.refl _ _).drewN _); rintro e w3 ⟨rfl, hN3⟩)
                  | (go_at_call 30; with_reducible refine (HR.out _ ?_).mono ?_; (first | assumption | exact (Fr.refl _ _).drew | exact Fr.refl _ _ | exact (Fr.refl _ _).drewN _); rintro e w2 ⟨rfl, hN2⟩))
                go_roundg (m - 8)
                case measure => omega
                case rel => exact ⟨k + 1, m - 8, by rw [foldc_snoc, hH.out]; exact congrArg (fun z => Value.int .u64 z) (by have := hE.out; (try simp only [IntKind.wrap_u64]); omega), (by rw [Nat.add_mul]; exact A2.out), ⟨_, _, rfl, by omega, by omega⟩, by rw [Nat.add_mul]; omega, by omega, by assumption⟩
            · have hz : (m : Int) < 8 := by omega
              have hdiv : t.length / 8 = k := div_at (by decide) hmk (by omega)
              have RD1 : Hid (∀ V, Nw w V → Rd g o' (t.drop (k * 8)) V) := by
                intro V hV
                obtain ⟨o2, c2, he, _, _, hrr⟩ := hA.out.sl (RK.out V hV)
                injection he with he _ _
                injection he with he
                injection he with _ he
                subst he
                exact hrr
              obtain ⟨t1, ht2⟩ : ∃ x, x = t.drop (k * 8) := ⟨_, rfl⟩
              obtain ⟨h1, hh2⟩ : ∃ x, x = foldc 8 wd64 k h0 t := ⟨_, rfl⟩
              have ht2l : t1.length = m := by rw [ht2]; simp; omega
              rw [← ht2] at RD1
              rw [← hh2]
              have ht1s : t1.length < 8 := by omega
              have HF1 : Hid (s64 s l = ava64 (foldc 1 bt64 (t1.drop (t1.length / 4 * 4)).length (foldc 4 hw64 (t1.length / 4) h1 t1) (t1.drop (t1.length / 4 * 4)))) := by
                show _ = _
                rw [HF0.out, hh2, ht2, ← hdiv]; rfl
              clear ht2 hh2 hdiv hA hmk RK
              subst ht2l
              clear hAc hAc2
              obtain ⟨o2, hO2⟩ : ∃ x, x = o' := ⟨_, rfl⟩
              have hAc := hmc
              have hAc2 := hc2
              subst hO2
              have HN2 : Hid (Nw w wr) := hN
              obtain ⟨wA, hwA⟩ : ∃ z, z = wr := ⟨_, rfl⟩
              subst hwA
              clear hN hmc hc2 hge
              by_cases hfour : 4 ≤ t1.length
              · have hNA := HN2.out
                have hz4 : (4 : Int) ≤ (t1.length : Int) := by omega
                have HL : Hid (∀ V, Nw w V → Calls Try.prog 27 #[.slice (some ⟨g, o2, none⟩) t1.length c'] V fun e w' => e = .returned (.int .u32 (lo32 t1).toNat) ∧ Nw w w') := fun V hV => cbase hV (rlow32_any g _ _ V ⟨o2, c', rfl, hAc, hAc2, RD1.out V hV⟩ hfour)
                have hY : Hid ((hf64 t1).toNat = (lo32 t1).toNat) := hf64_nat t1 hfour
                obtain ⟨H, hH⟩ : ∃ H, H = h1 := ⟨_, rfl⟩
                have HX : Hid (∀ z V, z = ((lo32 t1).toNat : Int) * 11400714785074694791 % 18446744073709551616 → Nw w V → Calls Try.prog 30 #[.int .u64 (bits .xor .u64 (H.toNat : Int) z), .int .i64 23] V fun e w' => e = .returned (.int .u64 ((H ^^^ (hf64 t1 * 11400714785074694791#64)).rotateLeft 23).toNat) ∧ Nw w w') := fun z V hz hV => cbase hV (rrot64_at _ 23 _ (by rw [show z = (((hf64 t1 * 11400714785074694791#64).toNat : Nat) : Int) by rw [hz, i_mul64, hY.out]; rfl]; exact i_xor64 _ _) (by decide) (by decide) V)
                have hE : Hid (((((H ^^^ (hf64 t1 * 11400714785074694791#64)).rotateLeft 23).toNat * 14029467366897019727 : Int) % 18446744073709551616 + 1609587929392839161) % 18446744073709551616 = ((hw64 H t1).toNat : Int)) := by show _ = _; rw [hw64, i_add64, i_mul64]; rfl
                rw [← hH]
                obtain ⟨h2, hh2⟩ : ∃ h2, h2 = hw64 H t1 := ⟨_, rfl⟩
                obtain ⟨t2, ht2⟩ : ∃ t2, t2 = t1.drop 4 := ⟨_, rfl⟩
                have hd1 : t1.length / 4 = 1 := by omega
                have HF2 : Hid (s64 s l = xc64 (xb64 (xa64 (foldc 1 bt64 t2.length h2 t2)))) := by
                  show _ = _
                  rw [HF1.out, hd1, hh2, ht2, hH]
                  show ava64 (foldc 1 bt64 _ (hw64 h1 (t1.take 4)) _) = _
                  rw [hw64, hf64_take]; rfl
                have ht2l : t2.length = t1.length - 4 := by rw [ht2]; simp
                have RD2 : Hid (∀ V, Nw w V → Rd g (o2 + 4) t2 V) := fun V hV => by rw [ht2]; exact (RD1.out V hV).drop 4
                have hlA := (lo32 t1).isLt
                have hw2 : Hid (IntKind.u64.wrap (IntKind.u64.wrap ((((H ^^^ (hf64 t1 * 11400714785074694791#64)).rotateLeft 23).toNat : Int) * 14029467366897019727) + 1609587929392839161) = (h2.toNat : Int)) := by show _ = _; rw [hh2, ← hE.out, IntKind.wrap_u64, IntKind.wrap_u64]
                clear hh2 hE hY hd1 ht2 HF1 hH
                generalize (H ^^^ (hf64 t1 * 11400714785074694791#64)).rotateLeft 23 = R at *
                generalize lo32 t1 = A at *
                generalize t1.length = n1 at *
                by_cases hcs : c' = 4
                · obtain rfl : n1 = 4 := by omega
                  subst hcs
                  obtain rfl : t2 = [] := List.length_eq_zero_iff.1 (by omega)
                  go_wp2_with (first
                      | (go_at_call 27; with_reducible refine (HL.out _ ?_).mono ?_; (first | assumption | exact (Fr.refl _ _).drew | exact Fr.refl _ _ | exact (Fr.refl _ _).drewN _); rintro e w1 ⟨rfl, hN1⟩)
                      | (go_at_call 30; with_reducible refine (HX.out _ _ ?_ ?_).mono ?_; (first | (focus (simp only [IntKind.wrap_u64]; done)) | (focus (simp only [IntKind.wrap_u64]; omega)) | (focus omega)); (first | assumption | exact (Fr.refl _ _).drew | exact Fr.refl _ _ | exact (Fr.refl _ _).drewN _); rintro e w2 ⟨rfl, hN2⟩))
                  rw [hw2.out]
                  generalize IntKind.u64.wrap ((R.toNat : Int) * 14029467366897019727) = e20
                  try generalize IntKind.u64.wrap ((A.toNat : Int) * 11400714785074694791) = e21
                  try generalize IntKind.u64.wrap (IntKind.u64.wrap (A.toNat : Int) * 11400714785074694791) = e22
                  try generalize IntKind.u64.wrap (A.toNat : Int) = e23
                  have HN3 : Hid (Nw w w2) := hN2
                  clear hN1 hN2 HL HX hw2
                  obtain ⟨t2, ht2e⟩ : ∃ t2, t2 = ([] : List By) := ⟨_, rfl⟩
                  have ht20 : t2.length = 0 := by rw [ht2e]; rfl
                  rw [← ht2e] at HF2
                  have hAcb : t2.length ≤ 0 := by omega
                  clear hAc hAc2 RD2
                  have hAc := hAcb
                  have hAc2 : (0 : Nat) < 9223372036854775808 := by decide
                  have RD2 : Hid (∀ V, Nw w V → Rd g o2 t2 V) := fun V hV => by rw [ht2e]; exact Rd.nil _ _ _
                  obtain ⟨o3, ho3⟩ : ∃ o3, o3 = o2 := ⟨_, rfl⟩
                  subst ho3
                  have HA1 : Hid (At g o3 (0 * 1) t2 (.slice (some ⟨g, o3, none⟩) t2.length 0) t2.length) := ⟨o3, 0, rfl, by omega, hAc, hAc2, .inr (by omega)⟩
                  rw [show Value.slice (some ⟨g, o3, none⟩) 0 0 = Value.slice (some ⟨g, o3, none⟩) t2.length 0 by rw [ht20]]
                  clear ht2e ht20
                  go_loopg [5, 6] t2.length (fun kx h r wr => ∃ k m : Nat, h = .int .u64 (foldc 1 bt64 k h2 t2).toNat ∧ Hid (At g o3 (k * 1) t2 r m) ∧ (∃ o' c', r = .slice (some ⟨g, o', none⟩) m c' ∧ m ≤ c' ∧ c' < 9223372036854775808) ∧ m + k * 1 = t2.length ∧ m ≤ kx ∧ Nw w wr)
                  case atStart => exact ⟨0, t2.length, rfl, HA1, ⟨_, _, rfl, hAc, hAc2⟩, by omega, by omega, HN3.out⟩
                  case round =>
                    obtain ⟨k, m, rfl, hA, ⟨o', c', rfl, hmc, hc2⟩, hmk, hkx, hN⟩ := hrel
                    by_cases hge : 1 ≤ m
                    · exfalso; omega
                    · have hz : (m : Int) < 1 := by omega
                      have hdiv : t2.length / 1 = k := div_at (by decide) hmk (by omega)
                      obtain ⟨hf, hhf⟩ : ∃ hf, hf = foldc 1 bt64 k h2 t2 := ⟨_, rfl⟩
                      have HF : Hid (s64 s l = xc64 (xb64 (xa64 hf))) := by
                        show _ = _
                        rw [HF2.out, hhf, ← hdiv, mod1]
                      rw [← hhf]
                      clear hhf hdiv
                      have hS' : Hid (((s64 s l).toNat : Int) = ((xc64 (xb64 (xa64 hf))).toNat : Int)) := by show _ = _; rw [HF.out]
                      go_wp2
                      go_ret
                      exact ⟨congrArg (fun z => Ending.returned (.int .u64 z)) (by rw [hS'.out]; (try simp only [IntKind.wrap_u64]); rw [i_xa64, i_xb64, i_xc64]), hN⟩
                · have hcs' : ¬ 4 = c' := fun h => hcs h.symm
                  go_wp2_with (first
                      | (go_at_call 27; with_reducible refine (HL.out _ ?_).mono ?_; (first | assumption | exact (Fr.refl _ _).drew | exact Fr.refl _ _ | exact (Fr.refl _ _).drewN _); rintro e w1 ⟨rfl, hN1⟩)
                      | (go_at_call 30; with_reducible refine (HX.out _ _ ?_ ?_).mono ?_; (first | (focus (simp only [IntKind.wrap_u64]; done)) | (focus (simp only [IntKind.wrap_u64]; omega)) | (focus omega)); (first | assumption | exact (Fr.refl _ _).drew | exact Fr.refl _ _ | exact (Fr.refl _ _).drewN _); rintro e w2 ⟨rfl, hN2⟩))
                  rw [hw2.out]
                  generalize IntKind.u64.wrap ((R.toNat : Int) * 14029467366897019727) = e20
                  try generalize IntKind.u64.wrap ((A.toNat : Int) * 11400714785074694791) = e21
                  try generalize IntKind.u64.wrap (IntKind.u64.wrap (A.toNat : Int) * 11400714785074694791) = e22
                  try generalize IntKind.u64.wrap (A.toNat : Int) = e23
                  have HN3 : Hid (Nw w w2) := hN2
                  clear hN1 hN2 HL HX hw2
                  have hAcb : t2.length ≤ c' - 4 := by omega
                  have hAcd : c' - 4 < 9223372036854775808 := by omega
                  clear hAc hAc2
                  have hAc := hAcb
                  have hAc2 := hAcd
                  obtain ⟨o3, ho3⟩ : ∃ o3, o3 = o2 + 4 := ⟨_, rfl⟩
                  rw [← ho3] at RD2 ⊢
                  rw [← ht2l]
                  obtain ⟨c2, hc2e⟩ : ∃ c2, c2 = c' - 4 := ⟨_, rfl⟩
                  rw [← hc2e] at hAc hAc2 ⊢
                  clear ho3 ht2l hc2e hAcb hAcd
                  have HA1 : Hid (At g o3 (0 * 1) t2 (.slice (some ⟨g, o3, none⟩) t2.length c2) t2.length) := ⟨o3, c2, rfl, by omega, hAc, hAc2, .inr (by omega)⟩
                  go_loopg [5, 6] t2.length (fun kx h r wr => ∃ k m : Nat, h = .int .u64 (foldc 1 bt64 k h2 t2).toNat ∧ Hid (At g o3 (k * 1) t2 r m) ∧ (∃ o' c', r = .slice (some ⟨g, o', none⟩) m c' ∧ m ≤ c' ∧ c' < 9223372036854775808) ∧ m + k * 1 = t2.length ∧ m ≤ kx ∧ Nw w wr)
                  case atStart => exact ⟨0, t2.length, rfl, HA1, ⟨_, _, rfl, hAc, hAc2⟩, by omega, by omega, HN3.out⟩
                  case round =>
                    obtain ⟨k, m, rfl, hA, ⟨o', c', rfl, hmc, hc2⟩, hmk, hkx, hN⟩ := hrel
                    by_cases hge : 1 ≤ m
                    · have hz : (1 : Int) ≤ (m : Int) := by omega
                      have AA := At.next (k := 1) hA.out hge (by decide)
                      have A1 : Hid (c' = 1 → At g o3 (k * 1 + 1) t2 (.slice (some ⟨g, o', none⟩) (m - 1) (c' - 1)) (m - 1)) := AA.1
                      have A2 : Hid (At g o3 (k * 1 + 1) t2 (.slice (some ⟨g, o' + 1, none⟩) (m - 1) (c' - 1)) (m - 1)) := AA.2
                      clear AA
                      obtain ⟨y, hy⟩ : ∃ y, (t2.drop (k * 1))[0]? = some y := ⟨t2[k * 1], by simp⟩
                      have hcl : wr.cell? ⟨g, o', none⟩ = some (.int .u8 y.toNat) := by
                        obtain ⟨o2, c2, he, _, _, hrr⟩ := hA.out.sl (RD2.out wr hN)
                        injection he with he _ _
                        injection he with he
                        injection he with _ he
                        subst he
                        exact hrr.at 0 y hy
                      have hY : Hid ((by64 (t2.drop (k * 1))).toNat = y.toNat) := by64_nat _ y hy
                      obtain ⟨H, hH⟩ : ∃ H, foldc 1 bt64 k h2 t2 = H := ⟨_, rfl⟩
                      have HX : Hid (∀ z V, z = (y.toNat : Int) * 2870177450012600261 % 18446744073709551616 → Nw w V → Calls Try.prog 30 #[.int .u64 (bits .xor .u64 (H.toNat : Int) z), .int .i64 11] V fun e w' => e = .returned (.int .u64 ((H ^^^ (by64 (t2.drop (k * 1)) * 2870177450012600261#64)).rotateLeft 11).toNat) ∧ Nw w w') := fun z V hz hV => cbase hV (rrot64_at _ 11 _ (by rw [show z = (((by64 (t2.drop (k * 1)) * 2870177450012600261#64).toNat : Nat) : Int) by rw [hz, i_mul64, hY.out]; rfl]; exact i_xor64 _ _) (by decide) (by decide) V)
                      have hE : Hid ((((H ^^^ (by64 (t2.drop (k * 1)) * 2870177450012600261#64)).rotateLeft 11).toNat * 11400714785074694791 : Int) % 18446744073709551616 = ((bt64 H ((t2.drop (k * 1)).take 1)).toNat : Int)) := by show _ = _; rw [bt64, by64_take, i_mul64]; rfl
                      rw [hH]
                      have hH : Hid (foldc 1 bt64 k h2 t2 = H) := hH
                      clear hy
                      have hyl := y.isLt
                      generalize (H ^^^ (by64 (t2.drop (k * 1)) * 2870177450012600261#64)).rotateLeft 11 = R at *
                      by_cases hcs : c' = 1
                      · subst hcs
                        obtain rfl : m = 1 := by omega
                        go_wp2_with (first
                          | (go_at_call 30; with_reducible refine (HX.out _ _ ?_ ?_).mono ?_; (first | (focus (simp only [IntKind.wrap_u64]; done)) | (focus (simp only [IntKind.wrap_u64]; omega)) | (focus omega)); (first | assumption | exact (Fr.refl _ _).drew | exact Fr.refl _ _ | exact (Fr.refl _ _).drewN _); rintro e w2 ⟨rfl, hN2⟩))
                        go_roundg 0
                        case measure => omega
                        case rel => exact ⟨k + 1, 0, by rw [foldc_snoc, hH.out]; exact congrArg (fun z => Value.int .u64 z) (by have := hE.out; (try simp only [IntKind.wrap_u64]); omega), (by rw [Nat.add_mul]; first | exact A1.out rfl | exact A1.out trivial), ⟨_, _, rfl, by omega, by omega⟩, by rw [Nat.add_mul]; omega, by omega, by assumption⟩
                      · have hcs' : ¬ 1 = c' := fun h => hcs h.symm
                        go_wp2_with (first
                          | (go_at_call 30; with_reducible refine (HX.out _ _ ?_ ?_).mono ?_; (first | (focus (simp only [IntKind.wrap_u64]; done)) | (focus (simp only [IntKind.wrap_u64]; omega)) | (focus omega)); (first | assumption | exact (Fr.refl _ _).drew | exact Fr.refl _ _ | exact (Fr.refl _ _).drewN _); rintro e w2 ⟨rfl, hN2⟩))
                        go_roundg (m - 1)
                        case measure => omega
                        case rel => exact ⟨k + 1, m - 1, by rw [foldc_snoc, hH.out]; exact congrArg (fun z => Value.int .u64 z) (by have := hE.out; (try simp only [IntKind.wrap_u64]); omega), (by rw [Nat.add_mul]; exact A2.out), ⟨_, _, rfl, by omega, by omega⟩, by rw [Nat.add_mul]; omega, by omega, by assumption⟩
                    · have hz : (m : Int) < 1 := by omega
                      have hdiv : t2.length / 1 = k := div_at (by decide) hmk (by omega)
                      obtain ⟨hf, hhf⟩ : ∃ hf, hf = foldc 1 bt64 k h2 t2 := ⟨_, rfl⟩
                      have HF : Hid (s64 s l = xc64 (xb64 (xa64 hf))) := by
                        show _ = _
                        rw [HF2.out, hhf, ← hdiv, mod1]
                      rw [← hhf]
                      clear hhf hdiv
                      have hS' : Hid (((s64 s l).toNat : Int) = ((xc64 (xb64 (xa64 hf))).toNat : Int)) := by show _ = _; rw [HF.out]
                      go_wp2
                      go_ret
                      exact ⟨congrArg (fun z => Ending.returned (.int .u64 z)) (by rw [hS'.out]; (try simp only [IntKind.wrap_u64]); rw [i_xa64, i_xb64, i_xc64]), hN⟩
              · have hz4 : (t1.length : Int) < 4 := by omega
                obtain ⟨t2, ht2⟩ : ∃ t2, t2 = t1 := ⟨_, rfl⟩
                obtain ⟨h2, hh2⟩ : ∃ h2, h2 = h1 := ⟨_, rfl⟩
                obtain ⟨o3, ho3⟩ : ∃ o3, o3 = o2 := ⟨_, rfl⟩
                subst ht2 hh2 ho3
                have HF2 : Hid (s64 s l = xc64 (xb64 (xa64 (foldc 1 bt64 t2.length h2 t2)))) := by
                  show _ = _
                  rw [HF1.out, show t2.length / 4 = 0 by omega]; rfl
                have RD2 := RD1
                have HN3 := HN2
                have HA1 : Hid (At g o3 (0 * 1) t2 (.slice (some ⟨g, o3, none⟩) t2.length c') t2.length) := ⟨o3, c', rfl, by omega, hAc, hAc2, .inr (by omega)⟩
                go_wp2
                go_loopg [5, 6] t2.length (fun kx h r wr => ∃ k m : Nat, h = .int .u64 (foldc 1 bt64 k h2 t2).toNat ∧ Hid (At g o3 (k * 1) t2 r m) ∧ (∃ o' c', r = .slice (some ⟨g, o', none⟩) m c' ∧ m ≤ c' ∧ c' < 9223372036854775808) ∧ m + k * 1 = t2.length ∧ m ≤ kx ∧ Nw w wr)
                case atStart => exact ⟨0, t2.length, rfl, HA1, ⟨_, _, rfl, hAc, hAc2⟩, by omega, by omega, HN3.out⟩
                case round =>
                  obtain ⟨k, m, rfl, hA, ⟨o', c', rfl, hmc, hc2⟩, hmk, hkx, hN⟩ := hrel
                  by_cases hge : 1 ≤ m
                  · have hz : (1 : Int) ≤ (m : Int) := by omega
                    have AA := At.next (k := 1) hA.out hge (by decide)
                    have A1 : Hid (c' = 1 → At g o3 (k * 1 + 1) t2 (.slice (some ⟨g, o', none⟩) (m - 1) (c' - 1)) (m - 1)) := AA.1
                    have A2 : Hid (At g o3 (k * 1 + 1) t2 (.slice (some ⟨g, o' + 1, none⟩) (m - 1) (c' - 1)) (m - 1)) := AA.2
                    clear AA
                    obtain ⟨y, hy⟩ : ∃ y, (t2.drop (k * 1))[0]? = some y := ⟨t2[k * 1], by simp⟩
                    have hcl : wr.cell? ⟨g, o', none⟩ = some (.int .u8 y.toNat) := by
                      obtain ⟨o2, c2, he, _, _, hrr⟩ := hA.out.sl (RD2.out wr hN)
                      injection he with he _ _
                      injection he with he
                      injection he with _ he
                      subst he
                      exact hrr.at 0 y hy
                    have hY : Hid ((by64 (t2.drop (k * 1))).toNat = y.toNat) := by64_nat _ y hy
                    obtain ⟨H, hH⟩ : ∃ H, foldc 1 bt64 k h2 t2 = H := ⟨_, rfl⟩
                    have HX : Hid (∀ z V, z = (y.toNat : Int) * 2870177450012600261 % 18446744073709551616 → Nw w V → Calls Try.prog 30 #[.int .u64 (bits .xor .u64 (H.toNat : Int) z), .int .i64 11] V fun e w' => e = .returned (.int .u64 ((H ^^^ (by64 (t2.drop (k * 1)) * 2870177450012600261#64)).rotateLeft 11).toNat) ∧ Nw w w') := fun z V hz hV => cbase hV (rrot64_at _ 11 _ (by rw [show z = (((by64 (t2.drop (k * 1)) * 2870177450012600261#64).toNat : Nat) : Int) by rw [hz, i_mul64, hY.out]; rfl]; exact i_xor64 _ _) (by decide) (by decide) V)
                    have hE : Hid ((((H ^^^ (by64 (t2.drop (k * 1)) * 2870177450012600261#64)).rotateLeft 11).toNat * 11400714785074694791 : Int) % 18446744073709551616 = ((bt64 H ((t2.drop (k * 1)).take 1)).toNat : Int)) := by show _ = _; rw [bt64, by64_take, i_mul64]; rfl
                    rw [hH]
                    have hH : Hid (foldc 1 bt64 k h2 t2 = H) := hH
                    clear hy
                    have hyl := y.isLt
                    generalize (H ^^^ (by64 (t2.drop (k * 1)) * 2870177450012600261#64)).rotateLeft 11 = R at *
                    by_cases hcs : c' = 1
                    · subst hcs
                      obtain rfl : m = 1 := by omega
                      go_wp2_with (first
                        | (go_at_call 30; with_reducible refine (HX.out _ _ ?_ ?_).mono ?_; (first | (focus (simp only [IntKind.wrap_u64]; done)) | (focus (simp only [IntKind.wrap_u64]; omega)) | (focus omega)); (first | assumption | exact (Fr.refl _ _).drew | exact Fr.refl _ _ | exact (Fr.refl _ _).drewN _); rintro e w2 ⟨rfl, hN2⟩))
                      go_roundg 0
                      case measure => omega
                      case rel => exact ⟨k + 1, 0, by rw [foldc_snoc, hH.out]; exact congrArg (fun z => Value.int .u64 z) (by have := hE.out; (try simp only [IntKind.wrap_u64]); omega), (by rw [Nat.add_mul]; first | exact A1.out rfl | exact A1.out trivial), ⟨_, _, rfl, by omega, by omega⟩, by rw [Nat.add_mul]; omega, by omega, by assumption⟩
                    · have hcs' : ¬ 1 = c' := fun h => hcs h.symm
                      go_wp2_with (first
                        | (go_at_call 30; with_reducible refine (HX.out _ _ ?_ ?_).mono ?_; (first | (focus (simp only [IntKind.wrap_u64]; done)) | (focus (simp only [IntKind.wrap_u64]; omega)) | (focus omega)); (first | assumption | exact (Fr.refl _ _).drew | exact Fr.refl _ _ | exact (Fr.refl _ _).drewN _); rintro e w2 ⟨rfl, hN2⟩))
                      go_roundg (m - 1)
                      case measure => omega
                      case rel => exact ⟨k + 1, m - 1, by rw [foldc_snoc, hH.out]; exact congrArg (fun z => Value.int .u64 z) (by have := hE.out; (try simp only [IntKind.wrap_u64]); omega), (by rw [Nat.add_mul]; exact A2.out), ⟨_, _, rfl, by omega, by omega⟩, by rw [Nat.add_mul]; omega, by omega, by assumption⟩
                  · have hz : (m : Int) < 1 := by omega
                    have hdiv : t2.length / 1 = k := div_at (by decide) hmk (by omega)
                    obtain ⟨hf, hhf⟩ : ∃ hf, hf = foldc 1 bt64 k h2 t2 := ⟨_, rfl⟩
                    have HF : Hid (s64 s l = xc64 (xb64 (xa64 hf))) := by
                      show _ = _
                      rw [HF2.out, hhf, ← hdiv, mod1]
                    rw [← hhf]
                    clear hhf hdiv
                    have hS' : Hid (((s64 s l).toNat : Int) = ((xc64 (xb64 (xa64 hf))).toNat : Int)) := by show _ = _; rw [HF.out]
                    go_wp2
                    go_ret
                    exact ⟨congrArg (fun z => Ending.returned (.int .u64 z)) (by rw [hS'.out]; (try simp only [IntKind.wrap_u64]); rw [i_xa64, i_xb64, i_xc64]), hN⟩
end Go.Proofs.Ytlfcgldbgejfbaa

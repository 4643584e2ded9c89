import Derived.Test.YtkpkiajehclbhaaVbb
namespace Go.Proofs.Ytkpkiajehclbhaa
open Go.RowKit
set_option linter.unusedVariables false
variable {g n c ob : Nat} {xs : List Nat} {os : List Int} {w : World} {key : Nat → Int}
/-- How the search stands, for the last one. -/
def Bs2 (key : Nat → Int) (a m : Nat) (xs : List Nat) (i j : Nat) : Prop := (∀ k, a ≤ k → k < i → key (xs.getD k 0) ≤ key (xs.getD m 0)) ∧ (∀ k, j ≤ k → k < m → key (xs.getD m 0) < key (xs.getD k 0))
set_option maxHeartbeats 16000000 in
set_option maxRecDepth 100000 in
theorem sym2 (h : SoI g n c ob os xs w) (a m b : Nat) (ham : a + 1 < m) (hm : b = m + 1) (hb : b ≤ n) (s2 : Srt (kof os) a m xs) : Calls Try.prog 72 (symArgs g n c a m b ob) w (SwA (fun xs ys => Mv a b xs ys ∧ Srt (kof os) a b ys) g n c xs w) := by
  obtain ⟨P, hP⟩ : ∃ P : Ending → World → Prop, P = SwA (fun xs ys => Mv a b xs ys ∧ Srt (kof os) a b ys) g n c xs w := ⟨_, rfl⟩
  rw [← hP]
  obtain ⟨hc1, hc2⟩ := h.d.cap
  have hnl := h.d.nl
  have hl := h.d.len
  have HF : Hid (∀ r V ys i, Fr (fun k => k = g) w V → DtI g n c ys V → Mv a b xs ys → Pl (rt i m (m + 1)) xs ys → Bs2 (kof os) a m xs i i → a ≤ i → i ≤ m → P (.returned r) V) := fun r V ys i h1 h2 h3 h4 h5 h6 h7 => by
    rw [hP]
    exact ⟨⟨_, rfl⟩, h1, ys, h2, h3, by rw [hm]; exact merge_right s2 h4 h6 h7 h5.1 h5.2⟩
  have HB0 : Hid (Bs2 (kof os) a m xs a m) := ⟨fun k k1 k2 => by omega, fun k k1 k2 => by omega⟩
  have HS2 : Hid (Srt (kof os) a m xs) := s2
  have HSo : Hid (SoI g n c ob os xs w) := h
  obtain ⟨d, hd⟩ : ∃ d, d + a = m := ⟨m - a, by omega⟩
  have hma : (m : Int) - (a : Int) = (d : Int) := by omega
  have hde : ((d : Int) == 1) = false := by simp; omega
  have hbm : (b : Int) - (m : Int) = 1 := by omega
  have hm' : m + 1 = b := hm.symm
  clear hP h s2 hm
  go_enter Try.func72, Try.ntmps72
  go_wp2
  go_loopg [14, 15] (m - a) (fun kx i j wr => ∃ (I J : Nat), a ≤ I ∧ I ≤ J ∧ J ≤ m ∧ J - I ≤ kx ∧ i = .int .i64 I ∧ j = .int .i64 J ∧ Hid (Bs2 (kof os) a m xs I J) ∧ Hid (SoI g n c ob os xs wr ∧ Fr (fun k => k = g) w wr))
  case atStart => exact ⟨a, m, by omega, by omega, by omega, by omega, rfl, rfl, HB0, ⟨HSo.out, Fr.refl _ _⟩⟩
  case round =>
    obtain ⟨I, J, hI1, hIJ, hJb, hkx, rfl, rfl, HB, HW⟩ := hrel
    clear HB0
    obtain ⟨hS, hFr⟩ := HW.out
    have HW2 : Hid (∀ V, Nw wr V → SoI g n c ob os xs V ∧ Fr (fun k => k = g) w V) := fun V hV => ⟨hS.nw hV, hFr.trans hV.any⟩
    by_cases hlt : I < J
    · have hz : (I : Int) < (J : Int) := by omega
      obtain ⟨H, hH⟩ : ∃ H, H = (I + J) / 2 := ⟨_, rfl⟩
      have hHi : ((I : Int) + (J : Int)) / 2 = (H : Int) := by omega
      have hH1 : I ≤ H := by omega
      have hH2 : H < J := by omega
      have hHn : (H : Int) < (n : Int) := by omega
      have hAn : (m : Int) < (n : Int) := by omega
      obtain ⟨k1, k2⟩ := hS.d.cell H (by omega)
      obtain ⟨k3, k4⟩ := hS.d.cell m (by omega)
      have HC : Hid (∀ mm, Calls Try.prog 63 #[.int .i64 (xs.getD m 0 : Nat), .int .i64 (xs.getD H 0 : Nat), .pointer (some ⟨ob, 0, none⟩)] (wr.drewN mm) fun e w' => e = .returned (.int .i64 (cmpv (kof os (xs.getD m 0)) (kof os (xs.getD H 0)))) ∧ ∃ m', w' = (wr.drewN mm).drewN m') := fun mm => hS.cmp m H (by omega) (by omega) mm
      have hcl := cmpv_lt (kof os (xs.getD m 0)) (kof os (xs.getD H 0))
      by_cases hlt2 : kof os (xs.getD m 0) < kof os (xs.getD H 0)
      · have HN : Hid (Bs2 (kof os) a m xs I H) := by
          refine ⟨HB.out.1, fun k q1 q2 => ?_⟩
          have := HS2.out.le H k (by omega) (by omega) (by omega)
          omega
        have hcz := hcl.2 hlt2
        clear HB hcl hlt2 hS hFr HW HSo HF HS2 hH
        generalize cmpv (kof os (xs.getD m 0)) (kof os (xs.getD H 0)) = z at *
        have hcd : (!decide (z < 0)) = false := by rw [decide_eq_true hcz]; rfl
        clear hcz
        generalize xs.getD H 0 = u at *
        generalize xs.getD m 0 = v at *
        go_wp2_with fail
        go_quiet (first | (go_at_call 63; refine Calls.quiet_of (HC.out _)))
        go_wp2_with fail
        go_roundg (H - I)
        case measure => omega
        case rel => exact ⟨I, H, by omega, by omega, by omega, by omega, rfl, by first | rfl | (congr 1), HN, HW2.out _ ((Fr.refl _ _).drewN _)⟩
      · have HN : Hid (Bs2 (kof os) a m xs (H + 1) J) := by
          refine ⟨fun k q1 q2 => ?_, HB.out.2⟩
          have := HS2.out.le k H (by omega) (by omega) (by omega)
          omega
        have hcz : ¬ cmpv (kof os (xs.getD m 0)) (kof os (xs.getD H 0)) < 0 := fun h => hlt2 (hcl.1 h)
        clear HB hcl hlt2 hS hFr HW HSo HF HS2 hH
        generalize cmpv (kof os (xs.getD m 0)) (kof os (xs.getD H 0)) = z at *
        have hcd : (!decide (z < 0)) = true := by rw [decide_eq_false hcz]; rfl
        clear hcz
        generalize xs.getD H 0 = u at *
        generalize xs.getD m 0 = v at *
        go_wp2_with fail
        go_quiet (first | (go_at_call 63; refine Calls.quiet_of (HC.out _)))
        go_wp2_with fail
        go_roundg (J - (H + 1))
        case measure => omega
        case rel => exact ⟨H + 1, J, by omega, by omega, by omega, by omega, by first | rfl | (congr 1), rfl, HN, HW2.out _ ((Fr.refl _ _).drewN _)⟩
    · obtain rfl : I = J := by omega
      have hz : ¬ (I : Int) < (I : Int) := by omega
      have HK0 : Hid (∃ ys, DtI g n c ys wr ∧ Fr (fun k => k = g) w wr ∧ Mv a b xs ys ∧ Pl (rt m m (m + 1)) xs ys) := ⟨xs, hS.d, hFr, Mv.refl _ _ _, fun k => by rw [rt_one']⟩
      have HF2 : Hid (∀ r V ys, Fr (fun k => k = g) w V → DtI g n c ys V → Mv a b xs ys → Pl (rt I m (m + 1)) xs ys → P (.returned r) V) := fun r V ys h1 h2 h3 h4 => HF.out r V ys I h1 h2 h3 h4 HB.out (by omega) (by omega)
      clear HB hS hFr HW HSo HF HS2 HW2
      go_wp2_with fail
      go_loopg [17] (m - I) (fun kx k wr => ∃ (K : Nat), I ≤ K ∧ K ≤ m ∧ K - I ≤ kx ∧ k = .int .i64 K ∧ Hid (∃ ys, DtI g n c ys wr ∧ Fr (fun k => k = g) w wr ∧ Mv a b xs ys ∧ Pl (rt K m (m + 1)) xs ys))
      case atStart => exact ⟨m, by omega, by omega, by omega, rfl, HK0⟩
      case round =>
        clear HK0
        obtain ⟨K, hK1, hK2, hkx2, rfl, HK⟩ := hrel
        obtain ⟨ys, hD, hFr, hMv, hPl⟩ := HK.out
        by_cases hltK : I < K
        · have hz2 : (I : Int) < (K : Int) := by omega
          obtain ⟨K', hK'⟩ : ∃ K', K' + 1 = K := ⟨K - 1, by omega⟩
          have hK'i : (K : Int) - 1 = (K' : Int) := by omega
          have hKn : (K : Int) < (n : Int) := by omega
          have hK'n : (K' : Int) < (n : Int) := by omega
          obtain ⟨k1, k2⟩ := hD.cell K (by omega)
          obtain ⟨k3, k4⟩ := hD.cell K' (by omega)
          have HN : Hid (∃ ys', DtI g n c ys' ((wr.setCell ⟨g, K, none⟩ (.int .i64 (ys.getD K' 0 : Nat))).setCell ⟨g, K', none⟩ (.int .i64 (ys.getD K 0 : Nat))).drew ∧ Fr (fun k => k = g) w ((wr.setCell ⟨g, K, none⟩ (.int .i64 (ys.getD K' 0 : Nat))).setCell ⟨g, K', none⟩ (.int .i64 (ys.getD K 0 : Nat))).drew ∧ Mv a b xs ys' ∧ Pl (rt K' m (m + 1)) xs ys') := by
            obtain ⟨q1, q2⟩ := hD.swap K K' (by omega) (by omega)
            have hl := hD.len
            refine ⟨_, q1, hFr.trans q2, hMv.trans (Mv.swap ys (by omega) (by omega) (by omega) (by omega) (by omega)), (hPl.trans (Pl.swap ys K K' (by omega) (by omega))).congr (fun k => ?_)⟩
            have e : K' = K - 1 := by omega
            rw [e]
            exact rt_down K m k (by omega) hK2
          clear HK hD hFr hMv hPl HF2
          generalize ys.getD K 0 = u at *
          generalize ys.getD K' 0 = v at *
          go_wp2_with fail
          go_region
          go_wp2_with fail
          go_roundg (K' - I)
          case measure => omega
          case rel => exact ⟨K', by omega, by omega, by omega, by first | rfl | (congr 1), HN⟩
        · obtain rfl : K = I := by omega
          have hz2 : ¬ (K : Int) < (K : Int) := by omega
          have HF3 : Hid (∀ r, P (.returned r) wr) := fun r => HF2.out r wr ys hFr hD hMv hPl
          clear HK hD hFr hMv hPl HF2
          go_wp2_with fail
          first | exact HF3.out _ | (go_end0; exact HF3.out _)
end Go.Proofs.Ytkpkiajehclbhaa

namespace Go.Proofs.Ytkpkiajehclbhaa
open Go.RowKit
set_option linter.unusedVariables false
variable {g n c ob : Nat} {xs : List Nat} {os : List Int} {w : World} {key : Nat → Int}
/-- Where the search begins and ends. -/
structure Rg (a m b mid p S0 R0 : Nat) : Prop where
  h1 : a ≤ S0
  h2 : S0 ≤ R0
  h3 : R0 ≤ m
  h4 : ∀ c, S0 ≤ c → c < R0 → m + c ≤ p ∧ p < b + c
  h5 : S0 = a ∨ p + 1 = S0 + b
  h6 : R0 = m ∨ p + 1 = R0 + m
  h7 : p + 1 = mid + m
  h8 : p + 1 ≤ S0 + b
  h9 : R0 + m ≤ p + 1
theorem Rg.one {a m b mid p : Nat} (h1 : a < m) (h2 : m < b) (hm : mid = (a + b) / 2) (hp : p + 1 = mid + m) (hgt : mid < m) : Rg a m b mid p (mid + m - b) mid :=
  ⟨by omega, by omega, by omega, fun c c1 c2 => by omega, .inr (by omega), .inr (by omega), hp, by omega, by omega⟩
theorem Rg.two {a m b mid p : Nat} (h1 : a < m) (h2 : m < b) (hm : mid = (a + b) / 2) (hp : p + 1 = mid + m) (hgt : m ≤ mid) : Rg a m b mid p a m :=
  ⟨by omega, by omega, by omega, fun c c1 c2 => by omega, .inl rfl, .inl rfl, hp, by omega, by omega⟩
def Bs3 (key : Nat → Int) (p S0 R0 : Nat) (xs : List Nat) (s r : Nat) : Prop := (∀ c, S0 ≤ c → c < s → key (xs.getD c 0) ≤ key (xs.getD (p - c) 0)) ∧ (∀ c, r ≤ c → c < R0 → key (xs.getD (p - c) 0) < key (xs.getD c 0))
theorem Bs3.up {a m b mid p S0 R0 s r C : Nat} {xs : List Nat} (h : Bs3 key p S0 R0 xs s r) (hR : Rg a m b mid p S0 R0) (h1 : Srt key a m xs) (h2 : Srt key m b xs) (q1 : s ≤ C) (q2 : C < r) (q3 : S0 ≤ s) (q4 : r ≤ R0) (hc : key (xs.getD C 0) ≤ key (xs.getD (p - C) 0)) : Bs3 key p S0 R0 xs (C + 1) r := by
  refine ⟨fun c c1 c2 => ?_, h.2⟩
  have e1 := hR.h4 c c1 (by omega)
  have e2 := hR.h4 C (by omega) (by omega)
  have a1 := h1.le c C (by have := hR.h1; omega) (by omega) (by have := hR.h3; omega)
  have a2 := h2.le (p - C) (p - c) (by omega) (by omega) (by omega)
  omega
theorem Bs3.down {a m b mid p S0 R0 s r C : Nat} {xs : List Nat} (h : Bs3 key p S0 R0 xs s r) (hR : Rg a m b mid p S0 R0) (h1 : Srt key a m xs) (h2 : Srt key m b xs) (q1 : s ≤ C) (q2 : C < r) (q3 : S0 ≤ s) (q4 : r ≤ R0) (hc : key (xs.getD (p - C) 0) < key (xs.getD C 0)) : Bs3 key p S0 R0 xs s C := by
  refine ⟨h.1, fun c c1 c2 => ?_⟩
  have e1 := hR.h4 c (by omega) c2
  have e2 := hR.h4 C (by omega) (by omega)
  have a1 := h1.le C c (by have := hR.h1; omega) (by omega) (by have := hR.h3; omega)
  have a2 := h2.le (p - c) (p - C) (by omega) (by omega) (by omega)
  omega
/-- Four sorted parts; and the first two lie below the others. -/
def Q1 (key : Nat → Int) (a S mid E b : Nat) (ys : List Nat) : Prop := Srt key a S ys ∧ Srt key S mid ys ∧ Srt key mid E ys ∧ Srt key E b ys ∧ ∀ x y, a ≤ x → x < mid → mid ≤ y → y < b → key (ys.getD x 0) ≤ key (ys.getD y 0)
def Q2 (key : Nat → Int) (a mid E b : Nat) (ys : List Nat) : Prop := Srt key a mid ys ∧ Srt key mid E ys ∧ Srt key E b ys ∧ ∀ x y, a ≤ x → x < mid → mid ≤ y → y < b → key (ys.getD x 0) ≤ key (ys.getD y 0)
theorem Bs3.done {a m b mid p S0 R0 S E : Nat} {xs ys : List Nat} (h : Bs3 key p S0 R0 xs S S) (hR : Rg a m b mid p S0 R0) (h1 : Srt key a m xs) (h2 : Srt key m b xs) (q3 : S0 ≤ S) (q4 : S ≤ R0) (hE : E + S = p + 1) (hp : Pl (rt S m E) xs ys) : Q1 key a S mid E b ys := by
  obtain ⟨r1, r2, r3, r4, r5, r6, r7, r8, r9⟩ := hR
  refine merge_split h1 h2 hp (by omega) (by omega) (by omega) (by omega) (by omega) (fun x y x1 x2 y1 y2 => ?_) (fun x y x1 x2 y1 y2 => ?_)
  · by_cases e : S = S0
    · rcases r5 with r5 | r5 <;> omega
    · have k := h.1 (S - 1) (by omega) (by omega)
      rw [show p - (S - 1) = E by omega] at k
      have k1 := h1.le x (S - 1) x1 (by omega) (by omega)
      have k2 := h2.le E y (by omega) y1 y2
      omega
  · by_cases e : S = R0
    · rcases r6 with r6 | r6 <;> omega
    · have k := h.2 S (Nat.le_refl _) (by omega)
      rw [show p - S = E - 1 by omega] at k
      have k1 := h2.le x (E - 1) x1 (by omega) (by omega)
      have k2 := h1.le S y (by omega) y1 y2
      omega
theorem rt_id (S m E : Nat) (h1 : S ≤ m) (h2 : m ≤ E) (h : ¬ (S < m ∧ m < E)) (k : Nat) : rt S m E k = k := by
  unfold rt
  split
  · omega
  · split <;> omega
theorem Q1.skip {a S mid E b : Nat} {ys : List Nat} (h : Q1 key a S mid E b ys) (h1 : a ≤ S) (h2 : S ≤ mid) (hn : ¬ (a < S ∧ S < mid)) : Q2 key a mid E b ys := by
  obtain ⟨k1, k2, k3, k4, k5⟩ := h
  refine ⟨?_, k3, k4, k5⟩
  by_cases e : a = S
  · rw [e]; exact k2
  · rw [show mid = S by omega]; exact k1
theorem Q1.call {a S mid E b : Nat} {ys zs : List Nat} (h : Q1 key a S mid E b ys) (hE : mid ≤ E) (hm : Mv a mid ys zs) (hs : Srt key a mid zs) : Q2 key a mid E b zs := by
  obtain ⟨k1, k2, k3, k4, k5⟩ := h
  refine ⟨hs, k3.kept hm (.inr (Nat.le_refl _)), k4.kept hm (.inr hE), fun x y x1 x2 y1 y2 => ?_⟩
  obtain ⟨j, j1, j2, j3⟩ := hm.inn x x1 x2
  rw [j3, hm.out y (.inr y1)]
  exact k5 j y j1 j2 y1 y2
theorem Q2.skip {a mid E b : Nat} {ys : List Nat} (h : Q2 key a mid E b ys) (h1 : mid ≤ E) (h2 : E ≤ b) (hn : ¬ (mid < E ∧ E < b)) : Srt key a b ys := by
  obtain ⟨k1, k2, k3, k4⟩ := h
  refine halves k4 (Mv.refl _ _ _) (Mv.refl _ _ _) k1 ?_
  by_cases e : mid = E
  · rw [e]; exact k3
  · rw [show b = E by omega]; exact k2
theorem Q2.call {a mid E b : Nat} {ys zs : List Nat} (h : Q2 key a mid E b ys) (hm : Mv mid b ys zs) (hs : Srt key mid b zs) : Srt key a b zs := halves h.2.2.2 (Mv.refl _ _ _) hm h.1 hs
end Go.Proofs.Ytkpkiajehclbhaa

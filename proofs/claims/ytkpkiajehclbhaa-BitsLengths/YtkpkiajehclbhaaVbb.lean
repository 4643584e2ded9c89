import Derived.Test.YtkpkiajehclbhaaVba
namespace Go.Proofs.Ytkpkiajehclbhaa
open Go.RowKit
set_option linter.unusedVariables false
variable {g n c ob : Nat} {xs : List Nat} {os : List Int} {w : World} {key : Nat → Int}
/-- The first one goes in among the others. -/
theorem merge_left {a i b : Nat} {xs ys : List Nat} (h2 : Srt key (a + 1) b xs) (hp : Pl (rt a (a + 1) i) xs ys) (q1 : a + 1 ≤ i) (q2 : i ≤ b) (hA : ∀ k, a + 1 ≤ k → k < i → key (xs.getD k 0) < key (xs.getD a 0)) (hB : ∀ k, i ≤ k → k < b → key (xs.getD a 0) ≤ key (xs.getD k 0)) : Srt key a b ys := fun p q p1 p2 p3 => by
  have f1 : ∀ k, a ≤ k → k < i - 1 → rt a (a + 1) i k = k + 1 := fun k hk hk2 => by unfold rt; rw [if_pos (by omega)]; omega
  have f2 : rt a (a + 1) i (i - 1) = a := by unfold rt; rw [if_neg (by omega), if_pos (by omega)]; omega
  have f3 : ∀ k, i ≤ k → rt a (a + 1) i k = k := fun k hk => by unfold rt; rw [if_neg (by omega), if_neg (by omega)]
  rw [hp p, hp q]
  by_cases e1 : q < i - 1
  · rw [f1 p p1 (by omega), f1 q (by omega) e1]; exact h2 _ _ (by omega) (by omega) (by omega)
  · by_cases e2 : q = i - 1
    · rw [e2, f2, f1 p p1 (by omega)]; exact Int.le_of_lt (hA _ (by omega) (by omega))
    · rw [f3 q (by omega)]
      by_cases e3 : p < i - 1
      · rw [f1 p p1 e3]; exact h2 _ _ (by omega) (by omega) p3
      · by_cases e4 : p = i - 1
        · rw [e4, f2]; exact hB q (by omega) p3
        · rw [f3 p (by omega)]; exact h2 _ _ (by omega) p2 p3
/-- The last one does. -/
theorem merge_right {a i m : Nat} {xs ys : List Nat} (h1 : Srt key a m xs) (hp : Pl (rt i m (m + 1)) xs ys) (q1 : a ≤ i) (q2 : i ≤ m) (hA : ∀ k, a ≤ k → k < i → key (xs.getD k 0) ≤ key (xs.getD m 0)) (hB : ∀ k, i ≤ k → k < m → key (xs.getD m 0) < key (xs.getD k 0)) : Srt key a (m + 1) ys := fun p q p1 p2 p3 => by
  have f1 : ∀ k, k < i → rt i m (m + 1) k = k := fun k hk => by unfold rt; rw [if_neg (by omega), if_neg (by omega)]
  have f2 : rt i m (m + 1) i = m := by unfold rt; rw [if_pos (by omega)]; omega
  have f3 : ∀ k, i < k → k ≤ m → rt i m (m + 1) k = k - 1 := fun k hk hk2 => by unfold rt; rw [if_neg (by omega), if_pos (by omega)]; omega
  rw [hp p, hp q]
  by_cases e1 : q < i
  · rw [f1 p (by omega), f1 q e1]; exact h1 _ _ p1 p2 (by omega)
  · by_cases e2 : q = i
    · rw [e2, f2, f1 p (by omega)]; exact hA p p1 (by omega)
    · rw [f3 q (by omega) (by omega)]
      by_cases e3 : p < i
      · rw [f1 p e3]; exact h1.le _ _ p1 (by omega) (by omega)
      · by_cases e4 : p = i
        · rw [e4, f2]; exact Int.le_of_lt (hB _ (by omega) (by omega))
        · rw [f3 p (by omega) (by omega)]; exact h1 _ _ (by omega) (by omega) (by omega)
abbrev symArgs (g n c a m b ob : Nat) : Array Value := #[.slice (some ⟨g, 0, none⟩) n c, .int .i64 (a : Nat), .int .i64 (m : Nat), .int .i64 (b : Nat), cmpF ob]
/-- How the search stands, for the first one. -/
def Bs1 (key : Nat → Int) (a b : Nat) (xs : List Nat) (i j : Nat) : Prop := (∀ k, a + 1 ≤ k → k < i → key (xs.getD k 0) < key (xs.getD a 0)) ∧ (∀ k, j ≤ k → k < b → key (xs.getD a 0) ≤ key (xs.getD k 0))
set_option maxHeartbeats 16000000 in
set_option maxRecDepth 100000 in
theorem sym1 (h : SoI g n c ob os xs w) (a m b : Nat) (hm : m = a + 1) (hmb : m < b) (hb : b ≤ n) (s2 : Srt (kof os) m b xs) : Calls Try.prog 72 (symArgs g n c a m b ob) w (SwA (fun xs ys => Mv a b xs ys ∧ Srt (kof os) a b ys) g n c xs w) := by
  obtain ⟨P, hP⟩ : ∃ P : Ending → World → Prop, P = SwA (fun xs ys => Mv a b xs ys ∧ Srt (kof os) a b ys) g n c xs w := ⟨_, rfl⟩
  rw [← hP]
  obtain ⟨hc1, hc2⟩ := h.d.cap
  have hnl := h.d.nl
  have hl := h.d.len
  have HF : Hid (∀ r V ys i, Fr (fun k => k = g) w V → DtI g n c ys V → Mv a b xs ys → Pl (rt a (a + 1) i) xs ys → Bs1 (kof os) a b xs i i → a + 1 ≤ i → i ≤ b → P (.returned r) V) := fun r V ys i h1 h2 h3 h4 h5 h6 h7 => by
    rw [hP]
    exact ⟨⟨_, rfl⟩, h1, ys, h2, h3, merge_left (by rw [← hm]; exact s2) h4 h6 h7 h5.1 h5.2⟩
  have HB0 : Hid (Bs1 (kof os) a b xs m b) := ⟨fun k k1 k2 => by omega, fun k k1 k2 => by omega⟩
  have HS2 : Hid (Srt (kof os) m b xs) := s2
  have HSo : Hid (SoI g n c ob os xs w) := h
  have hma : (m : Int) - (a : Int) = 1 := by omega
  have hm' : a + 1 = m := hm.symm
  clear hP h s2 hm
  go_enter Try.func72, Try.ntmps72
  go_wp2
  go_loopg [10, 11] (b - m) (fun kx i j wr => ∃ (I J : Nat), m ≤ I ∧ I ≤ J ∧ J ≤ b ∧ J - I ≤ kx ∧ i = .int .i64 I ∧ j = .int .i64 J ∧ Hid (Bs1 (kof os) a b xs I J) ∧ Hid (SoI g n c ob os xs wr ∧ Fr (fun k => k = g) w wr))
  case atStart => exact ⟨m, b, by omega, by omega, by omega, by omega, rfl, rfl, HB0, ⟨HSo.out, Fr.refl _ _⟩⟩
  case round =>
    obtain ⟨I, J, hI1, hIJ, hJb, hkx, rfl, rfl, HB, HW⟩ := hrel
    clear HB0
    obtain ⟨hS, hFr⟩ := HW.out
    have HW2 : Hid (∀ V, Nw wr V → SoI g n c ob os xs V ∧ Fr (fun k => k = g) w V) := fun V hV => ⟨hS.nw hV, hFr.trans hV.any⟩
    by_cases hlt : I < J
    · have hz : (I : Int) < (J : Int) := by omega
      obtain ⟨H, hH⟩ : ∃ H, H = (I + J) / 2 := ⟨_, rfl⟩
      have hHi : ((I : Int) + (J : Int)) / 2 = (H : Int) := by omega
      have hH1 : I ≤ H := by omega
      have hH2 : H < J := by omega
      have hHn : (H : Int) < (n : Int) := by omega
      have hAn : (a : Int) < (n : Int) := by omega
      obtain ⟨k1, k2⟩ := hS.d.cell H (by omega)
      obtain ⟨k3, k4⟩ := hS.d.cell a (by omega)
      have HC : Hid (∀ m, Calls Try.prog 63 #[.int .i64 (xs.getD H 0 : Nat), .int .i64 (xs.getD a 0 : Nat), .pointer (some ⟨ob, 0, none⟩)] (wr.drewN m) fun e w' => e = .returned (.int .i64 (cmpv (kof os (xs.getD H 0)) (kof os (xs.getD a 0)))) ∧ ∃ m', w' = (wr.drewN m).drewN m') := fun m => hS.cmp H a (by omega) (by omega) m
      have hcl := cmpv_lt (kof os (xs.getD H 0)) (kof os (xs.getD a 0))
      by_cases hlt2 : kof os (xs.getD H 0) < kof os (xs.getD a 0)
      · have HN : Hid (Bs1 (kof os) a b xs (H + 1) J) := by
          refine ⟨fun k q1 q2 => ?_, HB.out.2⟩
          have := HS2.out.le k H (by omega) (by omega) (by omega)
          omega
        have hcz := hcl.2 hlt2
        clear HB hcl hlt2 hS hFr HW HSo HF HS2 hH
        generalize cmpv (kof os (xs.getD H 0)) (kof os (xs.getD a 0)) = z at *
        generalize xs.getD H 0 = u at *
        generalize xs.getD a 0 = v at *
        go_wp2_with fail
        go_quiet (first | (go_at_call 63; refine Calls.quiet_of (HC.out _)))
        go_wp2_with fail
        go_roundg (J - (H + 1))
        case measure => omega
        case rel => exact ⟨H + 1, J, by omega, by omega, by omega, by omega, by first | rfl | (congr 1), rfl, HN, HW2.out _ ((Fr.refl _ _).drewN _)⟩
      · have HN : Hid (Bs1 (kof os) a b xs I H) := by
          refine ⟨HB.out.1, fun k q1 q2 => ?_⟩
          have := HS2.out.le H k (by omega) (by omega) (by omega)
          omega
        have hcz : ¬ cmpv (kof os (xs.getD H 0)) (kof os (xs.getD a 0)) < 0 := fun h => hlt2 (hcl.1 h)
        clear HB hcl hlt2 hS hFr HW HSo HF HS2 hH
        generalize cmpv (kof os (xs.getD H 0)) (kof os (xs.getD a 0)) = z at *
        generalize xs.getD H 0 = u at *
        generalize xs.getD a 0 = v at *
        go_wp2_with fail
        go_quiet (first | (go_at_call 63; refine Calls.quiet_of (HC.out _)))
        go_wp2_with fail
        go_roundg (H - I)
        case measure => omega
        case rel => exact ⟨I, H, by omega, by omega, by omega, by omega, rfl, by first | rfl | (congr 1), HN, HW2.out _ ((Fr.refl _ _).drewN _)⟩
    · obtain rfl : I = J := by omega
      have hz : ¬ (I : Int) < (I : Int) := by omega
      obtain ⟨I', hI'⟩ : ∃ I', I' + 1 = I := ⟨I - 1, by omega⟩
      have hI'i : (I : Int) - 1 = (I' : Int) := by omega
      have HK0 : Hid (∃ ys, DtI g n c ys wr ∧ Fr (fun k => k = g) w wr ∧ Mv a b xs ys ∧ Pl (rt a (a + 1) (a + 1)) xs ys) := ⟨xs, hS.d, hFr, Mv.refl _ _ _, fun k => by rw [rt_one]⟩
      have HF2 : Hid (∀ r V ys, Fr (fun k => k = g) w V → DtI g n c ys V → Mv a b xs ys → Pl (rt a (a + 1) (I' + 1)) xs ys → P (.returned r) V) := fun r V ys h1 h2 h3 h4 => HF.out r V ys I h1 h2 h3 (by rw [← hI']; exact h4) HB.out (by omega) (by omega)
      clear HB hS hFr HW HSo HF HS2 HW2
      go_wp2_with fail
      go_loopg [13] (I' - a) (fun kx k wr => ∃ (K : Nat), a ≤ K ∧ K ≤ I' ∧ I' - K ≤ kx ∧ k = .int .i64 K ∧ Hid (∃ ys, DtI g n c ys wr ∧ Fr (fun k => k = g) w wr ∧ Mv a b xs ys ∧ Pl (rt a (a + 1) (K + 1)) xs ys))
      case atStart => exact ⟨a, by omega, by omega, by omega, rfl, HK0⟩
      case round =>
        clear HK0
        obtain ⟨K, hK1, hK2, hkx2, rfl, HK⟩ := hrel
        obtain ⟨ys, hD, hFr, hMv, hPl⟩ := HK.out
        by_cases hltK : K < I'
        · have hz2 : (K : Int) < (I' : Int) := by omega
          obtain ⟨K', hK'⟩ : ∃ K', K + 1 = K' := ⟨_, rfl⟩
          have hK'i : (K : Int) + 1 = (K' : Int) := by omega
          have hKn : (K : Int) < (n : Int) := by omega
          have hK'n : (K' : Int) < (n : Int) := by omega
          obtain ⟨k1, k2⟩ := hD.cell K (by omega)
          obtain ⟨k3, k4⟩ := hD.cell K' (by omega)
          have HN : Hid (∃ ys', DtI g n c ys' ((wr.setCell ⟨g, K, none⟩ (.int .i64 (ys.getD K' 0 : Nat))).setCell ⟨g, K', none⟩ (.int .i64 (ys.getD K 0 : Nat))).drew ∧ Fr (fun k => k = g) w ((wr.setCell ⟨g, K, none⟩ (.int .i64 (ys.getD K' 0 : Nat))).setCell ⟨g, K', none⟩ (.int .i64 (ys.getD K 0 : Nat))).drew ∧ Mv a b xs ys' ∧ Pl (rt a (a + 1) (K' + 1)) xs ys') := by
            obtain ⟨q1, q2⟩ := hD.swap K K' (by omega) (by omega)
            have hl := hD.len
            refine ⟨_, q1, hFr.trans q2, hMv.trans (Mv.swap ys (by omega) (by omega) (by omega) (by omega) (by omega)), (hPl.trans (Pl.swap ys K K' (by omega) (by omega))).congr (fun k => ?_)⟩
            rw [← hK']
            exact rt_up a K k hK1
          clear HK hD hFr hMv hPl HF2
          generalize ys.getD K 0 = u at *
          generalize ys.getD K' 0 = v at *
          go_wp2_with fail
          go_region
          go_wp2_with fail
          go_roundg (I' - K')
          case measure => omega
          case rel => exact ⟨K', by omega, by omega, by omega, by first | rfl | (congr 1), HN⟩
        · obtain rfl : K = I' := by omega
          have hz2 : ¬ (K : Int) < (K : Int) := by omega
          have HF3 : Hid (∀ r, P (.returned r) wr) := fun r => HF2.out r wr ys hFr hD hMv hPl
          clear HK hD hFr hMv hPl HF2
          go_wp2_with fail
          first | exact HF3.out _ | (go_end0; exact HF3.out _)
end Go.Proofs.Ytkpkiajehclbhaa

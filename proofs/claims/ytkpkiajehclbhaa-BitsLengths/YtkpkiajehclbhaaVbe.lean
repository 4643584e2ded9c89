import Derived.Test.YtkpkiajehclbhaaVbd
namespace Go.Proofs.Ytkpkiajehclbhaa
open Go.RowKit
set_option linter.unusedVariables false
variable {g n c ob : Nat} {xs : List Nat} {os : List Int} {w : World}
theorem symm_any (N : Nat) : SymH g n c ob os N := by
  induction N with
  | zero => intro V ys a m b _ h1 h2 _ h4; omega
  | succ N ih =>
    intro V ys a m b hS h1 h2 h3 h4 s1 s2
    by_cases e1 : m = a + 1
    · exact sym1 hS a m b e1 h2 h3 s2
    · by_cases e2 : b = m + 1
      · exact sym2 hS a m b (by omega) e2 h3 s1
      · refine sym3 hS a m b (by omega) (by omega) h3 s1 s2 ?_
        intro V ys a' m' b' q1 q2 q3 q4 q5
        exact ih V ys a' m' b' q1 q2 q3 q4 (by omega)
theorem dv_next {D p a : Nat} (h1 : D ∣ p) (h2 : D ∣ a) (h : p < a) : p + D ≤ a := by
  have := Nat.le_of_dvd (by omega) (Nat.dvd_sub h2 h1)
  omega
/-- Blocks of D places below a are sorted; those of B from a on, as far as there are places. -/
def Bk1 (key : Nat → Int) (D : Nat) (xs : List Nat) (a : Nat) : Prop := ∀ p, D ∣ p → p + D ≤ a → Srt key p (p + D) xs
def Bk2 (key : Nat → Int) (n B : Nat) (xs : List Nat) (a : Nat) : Prop := ∀ p, B ∣ p → a ≤ p → Srt key p (min (p + B) n) xs
variable {key : Nat → Int}
theorem Bk1.start (D : Nat) (xs : List Nat) (hD : 0 < D) : Bk1 key D xs 0 := fun p h1 h2 => by omega
theorem Bk1.step {D a : Nat} {xs ys : List Nat} (h : Bk1 key D xs a) (ha : D ∣ a) (hm : Mv a (a + D) xs ys) (hs : Srt key a (a + D) ys) : Bk1 key D ys (a + D) := fun p h1 h2 => by
  by_cases e : p = a
  · rw [e]; exact hs
  · have := dv_next h1 ha (by omega)
    exact (h p h1 this).kept hm (.inl this)
theorem Bk1.done {D a n : Nat} {xs ys : List Nat} (h : Bk1 key D xs a) (ha : D ∣ a) (han : a ≤ n) (hn : n < a + D) (hm : Mv a n xs ys) (hs : Srt key a n ys) : Bk2 key n D ys 0 := fun p h1 _ => by
  by_cases e : p = a
  · rw [e, Nat.min_eq_right (by omega)]; exact hs
  · by_cases e2 : p < a
    · have := dv_next h1 ha e2
      rw [Nat.min_eq_left (by omega)]
      exact (h p h1 this).kept hm (.inl this)
    · have := dv_next ha h1 (by omega)
      intro x y x1 x2 x3
      have : min (p + D) n ≤ n := Nat.min_le_right _ _
      omega
theorem Bk2.step {B a n : Nat} {xs ys : List Nat} (h : Bk2 key n B xs a) (hm : Mv a (a + 2 * B) xs ys) : Bk2 key n B ys (a + 2 * B) := fun p h1 h2 => (h p h1 (by omega)).kept hm (.inr h2)
theorem Bk2.one {B a n : Nat} {xs : List Nat} (h : Bk2 key n B xs a) (ha : 2 * B ∣ a) (hn : a + B ≤ n) : Srt key a (a + B) xs := by
  have := h a (Nat.dvd_trans (Nat.dvd_mul_left B 2) ha) (Nat.le_refl _)
  rw [Nat.min_eq_left hn] at this
  exact this
theorem Bk2.two {B a n e : Nat} {xs : List Nat} (h : Bk2 key n B xs a) (ha : 2 * B ∣ a) (he : e = min (a + 2 * B) n) : Srt key (a + B) e xs := by
  have := h (a + B) (Nat.dvd_add (Nat.dvd_trans (Nat.dvd_mul_left B 2) ha) (Nat.dvd_refl _)) (by omega)
  rw [he, show a + 2 * B = a + B + B by omega]
  exact this
theorem Bk2.last {B a n : Nat} {xs : List Nat} (h : Bk2 key n B xs a) (ha : 2 * B ∣ a) (hn : n ≤ a + B) : Srt key a n xs := by
  have := h a (Nat.dvd_trans (Nat.dvd_mul_left B 2) ha) (Nat.le_refl _)
  rw [Nat.min_eq_right hn] at this
  exact this
theorem Bk2.all {n B : Nat} {xs : List Nat} (h : Bk2 key n B xs 0) (hB : n ≤ B) : Srt key 0 n xs := by
  have := h 0 (Nat.dvd_zero _) (Nat.le_refl _)
  rw [Nat.zero_add, Nat.min_eq_right hB] at this
  exact this
end Go.Proofs.Ytkpkiajehclbhaa

namespace Go.Proofs.Ytkpkiajehclbhaa
open Go.RowKit
set_option linter.unusedVariables false
variable {g n c ob : Nat} {xs : List Nat} {os : List Int} {w : World}
set_option maxHeartbeats 32000000 in
set_option maxRecDepth 100000 in
theorem stable_any (h : SoI g n c ob os xs w) : Calls Try.prog 69 #[.slice (some ⟨g, 0, none⟩) n c, .int .i64 n, cmpF ob] w (SwA (fun xs ys => Mv 0 n xs ys ∧ Srt (kof os) 0 n ys) g n c xs w) := by
  obtain ⟨P, hP⟩ : ∃ P : Ending → World → Prop, P = SwA (fun xs ys => Mv 0 n xs ys ∧ Srt (kof os) 0 n ys) g n c xs w := ⟨_, rfl⟩
  rw [← hP]
  have hnl := h.d.nl
  have HF : Hid (∀ r V ys, Fr (fun k => k = g) w V → DtI g n c ys V → Mv 0 n xs ys → Srt (kof os) 0 n ys → P (.returned r) V) := fun r V ys h1 h2 h3 h4 => by rw [hP]; exact ⟨⟨_, rfl⟩, h1, ys, h2, h3, h4⟩
  have HI0 : Hid (∃ ys, SoI g n c ob os ys w ∧ Fr (fun k => k = g) w w ∧ Mv 0 n xs ys ∧ Bk1 (kof os) 20 ys 0) := ⟨xs, h, Fr.refl _ _, Mv.refl _ _ _, Bk1.start _ _ (by decide)⟩
  clear hP h
  go_enter Try.func69, Try.ntmps69
  go_wp2
  go_loopg [7, 8] (n + 1) (fun kx a b wr => ∃ (A B : Nat), A ≤ n ∧ B = A + 20 ∧ n - A < kx ∧ a = .int .i64 A ∧ b = .int .i64 B ∧ Hid (20 ∣ A) ∧ Hid (∃ ys, SoI g n c ob os ys wr ∧ Fr (fun k => k = g) w wr ∧ Mv 0 n xs ys ∧ Bk1 (kof os) 20 ys A))
  case atStart => exact ⟨0, 20, by omega, by omega, by omega, rfl, rfl, Nat.dvd_zero _, HI0⟩
  case round =>
    clear HI0
    obtain ⟨A, B, hA, hB, hkx, rfl, rfl, HD, HI⟩ := hrel
    have hB' : A + 20 = B := hB.symm
    by_cases hlt : B ≤ n
    · have hz : (B : Int) ≤ (n : Int) := by omega
      have HC : Hid (Calls Try.prog 71 #[.slice (some ⟨g, 0, none⟩) n c, .int .i64 A, .int .i64 B, cmpF ob] wr fun e w' => (∃ r, e = .returned r) ∧ Hid (∃ ys, SoI g n c ob os ys w' ∧ Fr (fun k => k = g) w w' ∧ Mv 0 n xs ys ∧ Bk1 (kof os) 20 ys B)) := by
        obtain ⟨ys, h1, h2, h3, h4⟩ := HI.out
        refine (insort_any h1 A B (by omega) hlt).mono ?_
        rintro e w' ⟨⟨r, rfl⟩, k1, zs, k2, k3, k4⟩
        refine ⟨⟨r, rfl⟩, zs, h1.to k1 k2 k3 hlt, h2.trans k1, h3.trans (k3.mono (by omega) hlt), ?_⟩
        rw [hB] at k3 k4 ⊢
        exact h4.step HD.out k3 k4
      have HD2 : Hid (20 ∣ B) := by
        show 20 ∣ B
        rw [hB]; exact Nat.dvd_add HD.out (Nat.dvd_refl _)
      obtain ⟨B', hB2⟩ : ∃ B', B + 20 = B' := ⟨_, rfl⟩
      have hBi : (B : Int) + 20 = (B' : Int) := by omega
      clear HI HF HD hB
      go_wp2_with (first | (go_at_call 71; (with_reducible refine HC.out.mono ?_); rintro e w1 ⟨⟨r, rfl⟩, H1⟩))
      go_roundg (n - B + 1)
      case measure => omega
      case rel => exact ⟨B, B', hlt, hB2.symm, by omega, rfl, by first | rfl | (congr 1), HD2, H1⟩
    · have hz : ¬ (B : Int) ≤ (n : Int) := by omega
      have HC : Hid (Calls Try.prog 71 #[.slice (some ⟨g, 0, none⟩) n c, .int .i64 A, .int .i64 n, cmpF ob] wr fun e w' => (∃ r, e = .returned r) ∧ Hid (∃ ys, SoI g n c ob os ys w' ∧ Fr (fun k => k = g) w w' ∧ Mv 0 n xs ys ∧ Bk2 (kof os) n 20 ys 0)) := by
        obtain ⟨ys, h1, h2, h3, h4⟩ := HI.out
        refine (insort_any h1 A n hA (Nat.le_refl _)).mono ?_
        rintro e w' ⟨⟨r, rfl⟩, k1, zs, k2, k3, k4⟩
        exact ⟨⟨r, rfl⟩, zs, h1.to k1 k2 k3 (Nat.le_refl _), h2.trans k1, h3.trans (k3.mono (by omega) (Nat.le_refl _)), h4.done HD.out hA (by omega) k3 k4⟩
      clear HI HD hB
      go_wp2_with (first | (go_at_call 71; (with_reducible refine HC.out.mono ?_); rintro e w1 ⟨⟨r, rfl⟩, H1⟩))
      clear HC
      go_loopg [6, 7, 8] (n + 1) (fun kx bs a b wr => ∃ (S A B : Nat), 0 < S ∧ S ≤ 2 * n + 20 ∧ n - S < kx ∧ bs = .int .i64 S ∧ a = .int .i64 A ∧ b = .int .i64 B ∧ Hid (∃ ys, SoI g n c ob os ys wr ∧ Fr (fun k => k = g) w wr ∧ Mv 0 n xs ys ∧ Bk2 (kof os) n S ys 0))
      case atStart => exact ⟨20, A, B, by omega, by omega, by omega, rfl, rfl, rfl, H1⟩
      case round =>
        clear H1
        obtain ⟨S, A2, B2, hS0, hS1, hkx2, rfl, rfl, rfl, HI⟩ := hrel
        by_cases hltS : S < n
        · have hz2 : (S : Int) < (n : Int) := by omega
          have HJ0 : Hid (∃ ys, SoI g n c ob os ys wr ∧ Fr (fun k => k = g) w wr ∧ Mv 0 n xs ys ∧ Bk1 (kof os) (2 * S) ys 0 ∧ Bk2 (kof os) n S ys 0) := by
            obtain ⟨ys, h1, h2, h3, h4⟩ := HI.out
            exact ⟨ys, h1, h2, h3, Bk1.start _ _ (by omega), h4⟩
          obtain ⟨T, hT⟩ : ∃ T, 2 * S = T := ⟨_, rfl⟩
          have hTi : (2 : Int) * (S : Int) = (T : Int) := by omega
          have hTi2 : (S : Int) * 2 = (T : Int) := by omega
          clear HI HF
          go_wp2_with fail
          go_loopg [7, 8] (n + 1) (fun kx a b wr => ∃ (A B : Nat), A ≤ n ∧ A + T = B ∧ n - A < kx ∧ a = .int .i64 A ∧ b = .int .i64 B ∧ Hid (2 * S ∣ A) ∧ Hid (∃ ys, SoI g n c ob os ys wr ∧ Fr (fun k => k = g) w wr ∧ Mv 0 n xs ys ∧ Bk1 (kof os) (2 * S) ys A ∧ Bk2 (kof os) n S ys A))
          case atStart => exact ⟨0, T, by omega, by omega, by omega, rfl, rfl, Nat.dvd_zero _, HJ0⟩
          case round =>
            clear HJ0
            obtain ⟨A3, B3, hA3, hB3, hkx3, rfl, rfl, HD, HJ⟩ := hrel
            obtain ⟨M, hM⟩ : ∃ M, A3 + S = M := ⟨_, rfl⟩
            have hMi : (A3 : Int) + (S : Int) = (M : Int) := by omega
            by_cases hltB : B3 ≤ n
            · have hz3 : (B3 : Int) ≤ (n : Int) := by omega
              obtain ⟨B4, hB4⟩ : ∃ B4, B3 + T = B4 := ⟨_, rfl⟩
              have hBi : (B3 : Int) + (T : Int) = (B4 : Int) := by omega
              have HC : Hid (Calls Try.prog 72 #[.slice (some ⟨g, 0, none⟩) n c, .int .i64 A3, .int .i64 M, .int .i64 B3, cmpF ob] wr fun e w' => (∃ r, e = .returned r) ∧ Hid (∃ ys, SoI g n c ob os ys w' ∧ Fr (fun k => k = g) w w' ∧ Mv 0 n xs ys ∧ Bk1 (kof os) (2 * S) ys B3 ∧ Bk2 (kof os) n S ys B3)) := by
                obtain ⟨ys, h1, h2, h3, h4, h5⟩ := HJ.out
                have e2 : B3 = A3 + 2 * S := by omega
                refine (symm_any (B3 - A3) wr ys A3 M B3 h1 (by omega) (by omega) hltB (Nat.le_refl _) (by rw [← hM]; exact h5.one HD.out (by omega)) (by rw [← hM]; exact h5.two HD.out (by rw [e2] at hltB ⊢; rw [Nat.min_eq_left hltB]))).mono ?_
                rintro e w' ⟨⟨r, rfl⟩, k1, zs, k2, k3, k4⟩
                refine ⟨⟨r, rfl⟩, zs, h1.to k1 k2 k3 hltB, h2.trans k1, h3.trans (k3.mono (by omega) hltB), ?_, ?_⟩
                · rw [e2] at k3 k4 ⊢; exact h4.step HD.out k3 k4
                · rw [e2] at k3 ⊢; exact h5.step k3
              have HD2 : Hid (2 * S ∣ B3) := by
                show 2 * S ∣ B3
                rw [← hB3, ← hT]; exact Nat.dvd_add HD.out (Nat.dvd_refl _)
              clear HJ HD
              go_wp2_with (first | (go_at_call 72; (with_reducible refine HC.out.mono ?_); rintro e w2 ⟨⟨r2, rfl⟩, H2⟩))
              go_roundg (n - B3 + 1)
              case measure => omega
              case rel => exact ⟨B3, B4, hltB, hB4, by omega, rfl, by first | rfl | (congr 1), HD2, H2⟩
            · have hz3 : ¬ (B3 : Int) ≤ (n : Int) := by omega
              by_cases hMn : M < n
              · have hz4 : (M : Int) < (n : Int) := by omega
                have HC : Hid (Calls Try.prog 72 #[.slice (some ⟨g, 0, none⟩) n c, .int .i64 A3, .int .i64 M, .int .i64 n, cmpF ob] wr fun e w' => (∃ r, e = .returned r) ∧ Hid (∃ ys, SoI g n c ob os ys w' ∧ Fr (fun k => k = g) w w' ∧ Mv 0 n xs ys ∧ Bk2 (kof os) n T ys 0)) := by
                  obtain ⟨ys, h1, h2, h3, h4, h5⟩ := HJ.out
                  refine (symm_any (n - A3) wr ys A3 M n h1 (by omega) hMn (Nat.le_refl _) (Nat.le_refl _) (by rw [← hM]; exact h5.one HD.out (by omega)) (by rw [← hM]; exact h5.two HD.out (by rw [Nat.min_eq_right (by omega)]))).mono ?_
                  rintro e w' ⟨⟨r, rfl⟩, k1, zs, k2, k3, k4⟩
                  refine ⟨⟨r, rfl⟩, zs, h1.to k1 k2 k3 (Nat.le_refl _), h2.trans k1, h3.trans (k3.mono (by omega) (Nat.le_refl _)), ?_⟩
                  rw [← hT]
                  exact h4.done HD.out hA3 (by omega) k3 k4
                clear HJ HD
                go_wp2_with (first | (go_at_call 72; (with_reducible refine HC.out.mono ?_); rintro e w2 ⟨⟨r2, rfl⟩, H2⟩))
                go_roundg (n - T + 1)
                case measure => omega
                case rel => exact ⟨T, A3, B3, by omega, by omega, by omega, by first | rfl | (congr 1), rfl, rfl, H2⟩
              · have hz4 : ¬ (M : Int) < (n : Int) := by omega
                have H2 : Hid (∃ ys, SoI g n c ob os ys wr ∧ Fr (fun k => k = g) w wr ∧ Mv 0 n xs ys ∧ Bk2 (kof os) n T ys 0) := by
                  obtain ⟨ys, h1, h2, h3, h4, h5⟩ := HJ.out
                  refine ⟨ys, h1, h2, h3, ?_⟩
                  rw [← hT]
                  exact h4.done HD.out hA3 (by omega) (Mv.refl _ _ _) (h5.last HD.out (by omega))
                clear HJ HD
                go_wp2_with fail
                go_roundg (n - T + 1)
                case measure => omega
                case rel => exact ⟨T, A3, B3, by omega, by omega, by omega, by first | rfl | (congr 1), rfl, rfl, H2⟩
        · have hz2 : ¬ (S : Int) < (n : Int) := by omega
          have HF2 : Hid (∀ r, P (.returned r) wr) := fun r => by
            obtain ⟨ys, h1, h2, h3, h4⟩ := HI.out
            exact HF.out r wr ys h2 h1.d h3 (h4.all (by omega))
          clear HI HF
          go_wp2_with fail
          first | exact HF2.out _ | (go_end0; exact HF2.out _)
set_option maxHeartbeats 8000000 in
theorem sortst_any (h : SoI g n c ob os xs w) : Calls Try.prog 62 #[.slice (some ⟨g, 0, none⟩) n c, cmpF ob] w (SwA (fun xs ys => Mv 0 n xs ys ∧ Srt (kof os) 0 n ys) g n c xs w) := by
  obtain ⟨P, hP⟩ : ∃ P : Ending → World → Prop, P = SwA (fun xs ys => Mv 0 n xs ys ∧ Srt (kof os) 0 n ys) g n c xs w := ⟨_, rfl⟩
  rw [← hP]
  have HC : Hid (Calls Try.prog 69 #[.slice (some ⟨g, 0, none⟩) n c, .int .i64 n, cmpF ob] w fun e w' => (∃ r, e = .returned r) ∧ Hid (∀ r, P (.returned r) w')) := by
    refine (stable_any h).mono ?_
    rintro e w' ⟨⟨r, rfl⟩, k1, k2⟩
    exact ⟨⟨r, rfl⟩, fun r' => by rw [hP]; exact ⟨⟨_, rfl⟩, k1, k2⟩⟩
  clear hP h
  go_enter Try.func62, Try.ntmps62
  go_wp2_with (first | (go_at_call 69; (with_reducible refine HC.out.mono ?_); rintro e w1 ⟨⟨r, rfl⟩, H1⟩))
  first | exact H1.out _ | (go_end0; exact H1.out _)
end Go.Proofs.Ytkpkiajehclbhaa

import Derived.Test.YtkpkiajehclbhaaVay
import Derived.BigRegion
namespace Go.Proofs.Ytkpkiajehclbhaa
open Go.RowKit
set_option linter.unusedVariables false
/-- The symbols that are sorted, in memory. -/
structure DtI (g n c : Nat) (xs : List Nat) (w : World) : Prop where
  d : OwR RI g (.slice (some ⟨g, 0, none⟩) n c) (toI xs) w
  len : xs.length = n
  nl : n ≤ 1000000
variable {g n c : Nat} {xs : List Nat} {w : World}
theorem DtI.kept {X : Nat → Prop} {w' : World} (h : DtI g n c xs w) (k : Fr X w w') (hx : ¬ X g) : DtI g n c xs w' := ⟨h.d.kept k hx, h.len, h.nl⟩
theorem DtI.nw {w' : World} (h : DtI g n c xs w) (k : Nw w w') : DtI g n c xs w' := h.kept k (fun h => h)
theorem DtI.cap (h : DtI g n c xs w) : n ≤ c ∧ c < 9223372036854775808 := by
  obtain ⟨c', e, h1, h2⟩ := h.d.form
  rw [toI_length, h.len] at e h1
  cases e
  exact ⟨h1, h2⟩
theorem DtI.cell (h : DtI g n c xs w) (i : Nat) (hi : i < n) : w.cell? ⟨g, i, none⟩ = some (.int .i64 (xs.getD i 0 : Nat)) ∧ w.frozen? ⟨g, i, none⟩ = false := by
  have := h.d.cell riOk i 0 _ _ (toI_at xs i (by rw [h.len]; exact hi)) rfl
  rw [show RI.k = 1 from rfl, Nat.mul_one, Nat.add_zero] at this
  exact this
theorem toI_set (xs : List Nat) (i v : Nat) : toI (xs.set i v) = (toI xs).set i (v : Int) := by simp [toI, List.map_set]
theorem DtI.set (h : DtI g n c xs w) (i : Nat) (hi : i < n) (v : Nat) : DtI g n c (xs.set i v) (w.setCell ⟨g, i, none⟩ (.int .i64 (v : Nat))) := by
  refine ⟨?_, by rw [List.length_set]; exact h.len, h.nl⟩
  obtain ⟨zs, e, h2, h3, h4, h5⟩ := h.d
  rw [toI_length] at e h2 h3
  refine ⟨zs.set i (v : Int), ?_, ?_, ?_, ?_, h5.set1 i _⟩
  · rw [toI_length, List.length_set, List.length_set]; exact e
  · rw [toI_length, List.length_set, toI_set, ← h2, List.take_set]
  · rw [toI_length, List.length_set, List.length_set]; exact h3
  · rw [List.length_set]; exact h4
theorem DtI.swap (h : DtI g n c xs w) (i j : Nat) (hi : i < n) (hj : j < n) : DtI g n c (swp2 xs i j) ((w.setCell ⟨g, i, none⟩ (.int .i64 (xs.getD j 0 : Nat))).setCell ⟨g, j, none⟩ (.int .i64 (xs.getD i 0 : Nat))).drew ∧ Fr (fun k => k = g) w ((w.setCell ⟨g, i, none⟩ (.int .i64 (xs.getD j 0 : Nat))).setCell ⟨g, j, none⟩ (.int .i64 (xs.getD i 0 : Nat))).drew := by
  refine ⟨((h.set i hi _).set j hj _).nw ((Fr.refl _ _).drew), ?_⟩
  have h1 : Fr (fun k => k = g) w (w.setCell ⟨g, i, none⟩ (.int .i64 (xs.getD j 0 : Nat))) := (Fr.refl _ _).setCell _ _ (.inl rfl)
  exact (h1.setCell _ _ (.inl rfl)).drew
theorem DtI.swap0 (h : DtI g n c xs w) (i j : Nat) (hi : i < n) (hj : j < n) : DtI g n c (swp2 xs i j) ((w.setCell ⟨g, i, none⟩ (.int .i64 (xs.getD j 0 : Nat))).setCell ⟨g, j, none⟩ (.int .i64 (xs.getD i 0 : Nat))) ∧ Fr (fun k => k = g) w ((w.setCell ⟨g, i, none⟩ (.int .i64 (xs.getD j 0 : Nat))).setCell ⟨g, j, none⟩ (.int .i64 (xs.getD i 0 : Nat))) := by
  refine ⟨(h.set i hi _).set j hj _, ?_⟩
  have h1 : Fr (fun k => k = g) w (w.setCell ⟨g, i, none⟩ (.int .i64 (xs.getD j 0 : Nat))) := (Fr.refl _ _).setCell _ _ (.inl rfl)
  exact h1.setCell _ _ (.inl rfl)
/-- What is asked and what comes of a step of the sort. -/
def SwA (f : List Nat → List Nat → Prop) (g n c : Nat) (xs : List Nat) (w : World) (e : Ending) (w' : World) : Prop := (∃ r, e = .returned r) ∧ Fr (fun k => k = g) w w' ∧ ∃ ys, DtI g n c ys w' ∧ f xs ys
set_option maxHeartbeats 16000000 in
set_option maxRecDepth 100000 in
theorem swapr_any (h : DtI g n c xs w) (a b m : Nat) (hab : a + m ≤ b) (hb : b + m ≤ n) (fn : Value) : Calls Try.prog 74 #[.slice (some ⟨g, 0, none⟩) n c, .int .i64 a, .int .i64 b, .int .i64 m, fn] w (SwA (fun xs ys => Pl (sw a b m) xs ys ∧ Mv a (b + m) xs ys) g n c xs w) := by
  obtain ⟨P, hP⟩ : ∃ P : Ending → World → Prop, P = SwA (fun xs ys => Pl (sw a b m) xs ys ∧ Mv a (b + m) xs ys) g n c xs w := ⟨_, rfl⟩
  rw [← hP]
  obtain ⟨hc1, hc2⟩ := h.cap
  have hnl := h.nl
  have HF : Hid (∀ r V ys, Fr (fun k => k = g) w V → DtI g n c ys V → Pl (sw a b m) xs ys → Mv a (b + m) xs ys → P (.returned r) V) := fun r V ys h1 h2 h3 h4 => by rw [hP]; exact ⟨⟨_, rfl⟩, h1, ys, h2, h3, h4⟩
  have HI0 : Hid (∃ ys, DtI g n c ys w ∧ Fr (fun k => k = g) w w ∧ Pl (sw a b 0) xs ys ∧ Mv a (b + m) xs ys) := ⟨xs, h, Fr.refl _ _, fun k => by unfold sw; rw [if_neg (by omega), if_neg (by omega)], Mv.refl _ _ _⟩
  clear hP h
  go_enter Try.func74, Try.ntmps74
  go_wp2
  go_loopg [10] m (fun kx i wr => ∃ (I : Nat), I ≤ m ∧ m - I ≤ kx ∧ i = .int .i64 I ∧ Hid (∃ ys, DtI g n c ys wr ∧ Fr (fun k => k = g) w wr ∧ Pl (sw a b I) xs ys ∧ Mv a (b + m) xs ys))
  case atStart => exact ⟨0, by omega, by omega, rfl, HI0⟩
  case round =>
    obtain ⟨I, hI, hkx, rfl, HI⟩ := hrel
    clear HI0
    obtain ⟨ys, hD, hFr, hPl, hMv⟩ := HI.out
    by_cases hlt : I < m
    · have hz : (I : Int) < (m : Int) := by omega
      obtain ⟨A, hA⟩ : ∃ A, A = a + I := ⟨_, rfl⟩
      obtain ⟨B, hB⟩ : ∃ B, B = b + I := ⟨_, rfl⟩
      have hAi : (a : Int) + (I : Int) = (A : Int) := by omega
      have hBi : (b : Int) + (I : Int) = (B : Int) := by omega
      have hAn : (A : Int) < (n : Int) := by omega
      have hBn : (B : Int) < (n : Int) := by omega
      obtain ⟨k1, k2⟩ := hD.cell A (by omega)
      obtain ⟨k3, k4⟩ := hD.cell B (by omega)
      have HN : Hid (∃ ys', DtI g n c ys' ((wr.setCell ⟨g, A, none⟩ (.int .i64 (ys.getD B 0 : Nat))).setCell ⟨g, B, none⟩ (.int .i64 (ys.getD A 0 : Nat))).drew ∧ Fr (fun k => k = g) w ((wr.setCell ⟨g, A, none⟩ (.int .i64 (ys.getD B 0 : Nat))).setCell ⟨g, B, none⟩ (.int .i64 (ys.getD A 0 : Nat))).drew ∧ Pl (sw a b (I + 1)) xs ys' ∧ Mv a (b + m) xs ys') := by
        obtain ⟨q1, q2⟩ := hD.swap A B (by omega) (by omega)
        have hl := hD.len
        refine ⟨_, q1, hFr.trans q2, (hPl.trans (Pl.swap ys A B (by omega) (by omega))).congr (fun k => ?_), hMv.trans (Mv.swap ys (by omega) (by omega) (by omega) (by omega) (by omega))⟩
        rw [hA, hB]
        exact sw_step a b I k (by omega)
      clear HI hD hFr hPl hMv HF hA hB
      generalize ys.getD A 0 = u at *
      generalize ys.getD B 0 = v at *
      go_wp2_with fail
      go_region
      go_wp2_with fail
      go_roundg (m - (I + 1))
      case measure => omega
      case rel => exact ⟨I + 1, by omega, by omega, by first | rfl | (congr 1), HN⟩
    · obtain rfl : I = m := by omega
      have hz : ¬ (I : Int) < (I : Int) := by omega
      have HF2 : Hid (∀ r, P (.returned r) wr) := fun r => HF.out r wr ys hFr hD hPl hMv
      clear HI hD hFr hPl hMv HF
      go_wp2_with fail
      go_end0
      exact HF2.out _
end Go.Proofs.Ytkpkiajehclbhaa

namespace Go.Proofs.Ytkpkiajehclbhaa
open Go.RowKit
set_option linter.unusedVariables false
variable {g n c : Nat} {xs : List Nat} {w : World}
set_option maxHeartbeats 16000000 in
set_option maxRecDepth 100000 in
theorem rotate_any (h : DtI g n c xs w) (a m b : Nat) (ham : a < m) (hmb : m < b) (hb : b ≤ n) (fn : Value) : Calls Try.prog 73 #[.slice (some ⟨g, 0, none⟩) n c, .int .i64 a, .int .i64 m, .int .i64 b, fn] w (SwA (fun xs ys => Pl (rt a m b) xs ys ∧ Mv a b xs ys) g n c xs w) := by
  obtain ⟨P, hP⟩ : ∃ P : Ending → World → Prop, P = SwA (fun xs ys => Pl (rt a m b) xs ys ∧ Mv a b xs ys) g n c xs w := ⟨_, rfl⟩
  rw [← hP]
  have hnl := h.nl
  have HF : Hid (∀ r V ys, Fr (fun k => k = g) w V → DtI g n c ys V → Pl (rt a m b) xs ys → Mv a b xs ys → P (.returned r) V) := fun r V ys h1 h2 h3 h4 => by rw [hP]; exact ⟨⟨_, rfl⟩, h1, ys, h2, h3, h4⟩
  -- what has been done, and what is left: the i places ahead of m and the j from m on
  have HI0 : Hid (∃ ys f, DtI g n c ys w ∧ Fr (fun k => k = g) w w ∧ Pl f xs ys ∧ (∀ k, f (rt (m - (m - a)) m (m + (b - m)) k) = rt a m b k) ∧ Mv a b xs ys) := ⟨xs, fun k => k, h, Fr.refl _ _, fun k => rfl, fun k => by rw [show m - (m - a) = a by omega, show m + (b - m) = b by omega], Mv.refl _ _ _⟩
  have HS : Hid (∀ V ys p q l, DtI g n c ys V → p + l ≤ q → q + l ≤ n → Calls Try.prog 74 #[.slice (some ⟨g, 0, none⟩) n c, .int .i64 (p : Nat), .int .i64 (q : Nat), .int .i64 (l : Nat), fn] V (SwA (fun xs ys => Pl (sw p q l) xs ys ∧ Mv p (q + l) xs ys) g n c ys V)) := fun V ys p q l hD h1 h2 => swapr_any hD p q l h1 h2 fn
  clear hP h
  obtain ⟨i0, hi0⟩ : ∃ i0, i0 + a = m := ⟨m - a, by omega⟩
  obtain ⟨j0, hj0⟩ : ∃ j0, j0 + m = b := ⟨b - m, by omega⟩
  have hi0i : (m : Int) - (a : Int) = (i0 : Int) := by omega
  have hj0i : (b : Int) - (m : Int) = (j0 : Int) := by omega
  rw [show m - a = i0 by omega, show b - m = j0 by omega] at HI0
  go_enter Try.func73, Try.ntmps73
  go_wp2
  go_loopg [10, 11] (i0 + j0) (fun kx i j wr => ∃ (I J : Nat), 0 < I ∧ 0 < J ∧ I ≤ i0 ∧ J ≤ j0 ∧ I + J ≤ kx ∧ i = .int .i64 I ∧ j = .int .i64 J ∧ Hid (∃ ys f, DtI g n c ys wr ∧ Fr (fun k => k = g) w wr ∧ Pl f xs ys ∧ (∀ k, f (rt (m - I) m (m + J) k) = rt a m b k) ∧ Mv a b xs ys))
  case atStart => exact ⟨i0, j0, by omega, by omega, by omega, by omega, by omega, rfl, rfl, HI0⟩
  case round =>
    obtain ⟨I, J, hI0, hJ0, hIi, hJj, hkx, rfl, rfl, HI⟩ := hrel
    clear HI0
    obtain ⟨ys, f, hD, hFr, hPl, hf, hMv⟩ := HI.out
    obtain ⟨p, hp⟩ : ∃ p, p + I = m := ⟨m - I, by omega⟩
    have hpi : (m : Int) - (I : Int) = (p : Int) := by omega
    by_cases hne : I = J
    · subst hne
      have hz : (I : Int) = (I : Int) := rfl
      have HC : Hid (Calls Try.prog 74 #[.slice (some ⟨g, 0, none⟩) n c, .int .i64 (p : Nat), .int .i64 (m : Nat), .int .i64 (I : Nat), fn] wr fun e w' => (∃ r, e = .returned r) ∧ Hid (∀ r, P (.returned r) w')) := by
        refine (HS.out wr ys p m I hD (by omega) (by omega)).mono ?_
        rintro e w' ⟨⟨r, rfl⟩, k1, zs, k2, k3, k4⟩
        refine ⟨⟨r, rfl⟩, fun r' => HF.out r' w' zs (hFr.trans k1) k2 ((hPl.trans k3).congr fun k => ?_) (hMv.trans (k4.mono (by omega) (by omega)))⟩
        rw [show p = m - I by omega, rot_end m I k (by omega)]
        exact hf k
      clear HI hD hFr hPl hf hMv HF HS
      go_wp2_with (first | (go_at_call 74; (with_reducible refine HC.out.mono ?_); rintro e w1 ⟨⟨r, rfl⟩, H1⟩))
      go_end0
      exact H1.out _
    · have hz : ¬ (I : Int) = (J : Int) := by omega
      by_cases hgt : J < I
      · have hz2 : (J : Int) < (I : Int) := by omega
        obtain ⟨I', hI'⟩ : ∃ I', I' + J = I := ⟨I - J, by omega⟩
        have hI'i : (I : Int) - (J : Int) = (I' : Int) := by omega
        have HC : Hid (Calls Try.prog 74 #[.slice (some ⟨g, 0, none⟩) n c, .int .i64 (p : Nat), .int .i64 (m : Nat), .int .i64 (J : Nat), fn] wr fun e w' => (∃ r, e = .returned r) ∧ Hid (∃ ys f, DtI g n c ys w' ∧ Fr (fun k => k = g) w w' ∧ Pl f xs ys ∧ (∀ k, f (rt (m - I') m (m + J) k) = rt a m b k) ∧ Mv a b xs ys)) := by
          refine (HS.out wr ys p m J hD (by omega) (by omega)).mono ?_
          rintro e w' ⟨⟨r, rfl⟩, k1, zs, k2, k3, k4⟩
          refine ⟨⟨r, rfl⟩, zs, _, k2, hFr.trans k1, hPl.trans k3, fun k => ?_, hMv.trans (k4.mono (by omega) (by omega))⟩
          show f (sw p m J (rt (m - I') m (m + J) k)) = _
          rw [show p = m - I by omega, show I' = I - J by omega, rot_left m I J k (by omega) hgt]
          exact hf k
        clear HI hD hFr hPl hf hMv HF HS
        go_wp2_with (first | (go_at_call 74; (with_reducible refine HC.out.mono ?_); rintro e w1 ⟨⟨r, rfl⟩, H1⟩))
        go_roundg (I' + J)
        case measure => omega
        case rel => exact ⟨I', J, by omega, by omega, by omega, by omega, by omega, by first | rfl | (congr 1), rfl, H1⟩
      · have hz2 : ¬ (J : Int) < (I : Int) := by omega
        obtain ⟨J', hJ'⟩ : ∃ J', J' + I = J := ⟨J - I, by omega⟩
        have hJ'i : (J : Int) - (I : Int) = (J' : Int) := by omega
        obtain ⟨mj, hmj⟩ : ∃ mj, m + J = mj := ⟨_, rfl⟩
        have hmji : (m : Int) + (J : Int) = (mj : Int) := by omega
        obtain ⟨q, hq⟩ : ∃ q, q + I = mj := ⟨mj - I, by omega⟩
        have hqi : (mj : Int) - (I : Int) = (q : Int) := by omega
        have HC : Hid (Calls Try.prog 74 #[.slice (some ⟨g, 0, none⟩) n c, .int .i64 (p : Nat), .int .i64 (q : Nat), .int .i64 (I : Nat), fn] wr fun e w' => (∃ r, e = .returned r) ∧ Hid (∃ ys f, DtI g n c ys w' ∧ Fr (fun k => k = g) w w' ∧ Pl f xs ys ∧ (∀ k, f (rt (m - I) m (m + J') k) = rt a m b k) ∧ Mv a b xs ys)) := by
          refine (HS.out wr ys p q I hD (by omega) (by omega)).mono ?_
          rintro e w' ⟨⟨r, rfl⟩, k1, zs, k2, k3, k4⟩
          refine ⟨⟨r, rfl⟩, zs, _, k2, hFr.trans k1, hPl.trans k3, fun k => ?_, hMv.trans (k4.mono (by omega) (by omega))⟩
          show f (sw p q I (rt (m - I) m (m + J') k)) = _
          rw [show p = m - I by omega, show q = m + J - I by omega, show J' = J - I by omega, rot_right m I J k (by omega) (by omega)]
          exact hf k
        clear HI hD hFr hPl hf hMv HF HS
        go_wp2_with (first | (go_at_call 74; (with_reducible refine HC.out.mono ?_); rintro e w1 ⟨⟨r, rfl⟩, H1⟩))
        go_roundg (I + J')
        case measure => omega
        case rel => exact ⟨I, J', by omega, by omega, by omega, by omega, by omega, rfl, by first | rfl | (congr 1), H1⟩
end Go.Proofs.Ytkpkiajehclbhaa

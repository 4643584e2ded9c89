import Derived.Test.YtffhpoilifgcdaaDoorVab
import Derived.Test.YtffhpoilifgcdaaDoorVac
namespace Go.Proofs.YtffhpoilifgcdaaDoor
open Go.RowKit
set_option linter.unusedVariables false
theorem sl_cons {X : Nat → Prop} {a : Option Addr} {n c : Nat} {x : By} {l : List By} {w : World} (h : Sl X (.slice a n c) (x :: l) w) :
    ∃ g o, a = some ⟨g, o, none⟩ ∧ n = l.length + 1 ∧ n ≤ c ∧ c < 9223372036854775808 ∧ w.cell? ⟨g, o, none⟩ = some (.int .u8 x.toNat) ∧
      (c ≤ 1 → ∀ y, Sl X (.slice y (n - 1) 0) l w) ∧ (1 < c → Sl X (.slice (some ⟨g, o + 1, none⟩) (n - 1) (c - 1)) l w) := by
  rcases h with ⟨_, _, e⟩ | ⟨g, hg, o, c', e, e1, e2, e3⟩
  · cases e
  · injection e with ea en ec
    subst ec
    rw [List.length_cons] at en e1
    have h0 := e3 0 (by simp)
    refine ⟨g, o, ea, en, by omega, e2, h0, fun hc y => .inl ⟨y, by rw [show n - 1 = 0 by omega], ?_⟩, fun hc => .inr ⟨g, hg, o + 1, c - 1, ?_, by omega, by omega, ?_⟩⟩
    · exact List.length_eq_zero_iff.1 (by omega)
    · rw [show n - 1 = l.length by omega]
    · exact e3.drop 1
theorem sl_len {X : Nat → Prop} {a : Option Addr} {n c : Nat} {l : List By} {w : World} (h : Sl X (.slice a n c) l w) : l.length = n ∧ n ≤ c ∧ c < 9223372036854775808 := by
  obtain ⟨a', c', e, q1, q2⟩ := h.form
  generalize hq : l.length = q at e q1
  cases e
  exact ⟨rfl, q1, q2⟩
set_option maxHeartbeats 4000000 in
set_option maxRecDepth 100000 in
theorem trimlb_any {X : Nat → Prop} (w : World) (a : Option Addr) (n c : Nat) (b : List By) (hb : Sl X (.slice a n c) b w) :
    Calls Tryd.prog 81 #[.slice a n c, .int .u8 32] w fun e w' => ∃ a' n' c', e = .returned (.slice a' n' c') ∧ Hid (Sl X (.slice a' n' c') (b.dropWhile isBl) w) ∧ w = w' := by
  obtain ⟨P, hP⟩ : ∃ P : Ending → World → Prop, P = fun e w' => ∃ a' n' c', e = .returned (.slice a' n' c') ∧ Hid (Sl X (.slice a' n' c') (b.dropWhile isBl) w) ∧ w = w' := ⟨_, rfl⟩
  rw [← hP]
  have HF : Hid (∀ a' n' c', Sl X (.slice a' n' c') (b.dropWhile isBl) w → P (.returned (.slice a' n' c')) w) := fun a' n' c' h => by rw [hP]; exact ⟨a', n', c', rfl, h, rfl⟩
  clear hP
  have HB : Hid (Sl X (.slice a n c) b w) := hb
  obtain ⟨_, k1, k2⟩ := sl_len hb
  clear hb
  go_enter Tryd.func81, Tryd.ntmps81
  go_wp2_with fail
  go_loopg [0] n (fun kx v wr => ∃ a' n' c', n' ≤ c' ∧ c' < 9223372036854775808 ∧ n' ≤ kx ∧ v = .slice a' n' c' ∧ wr = w ∧ Hid (∃ l, Sl X (.slice a' n' c') l w ∧ l.dropWhile isBl = b.dropWhile isBl))
  case atStart => exact ⟨a, n, c, k1, k2, Nat.le_refl _, rfl, rfl, b, HB.out, rfl⟩
  case round =>
    obtain ⟨a', n', c', hc1, hc2, hkx, rfl, rfl, HL⟩ := hrel
    obtain ⟨l, hl, he⟩ := HL.out
    cases l with
    | nil =>
      obtain ⟨e0, _, _⟩ := sl_len hl
      obtain rfl : n' = 0 := e0.symm
      have HF2 := tHid (HF.out none 0 0 (by rw [← he]; exact .inl ⟨none, rfl, rfl⟩))
      clear HF HL HB hl he
      go_wp2_with fail
      exact HF2.out
    | cons x l =>
      obtain ⟨g, o, rfl, hn, hc, _, x0, hs1, hs2⟩ := sl_cons hl
      by_cases hx : x = 32#8
      · subst hx
        have x1 : wr.cell? ⟨g, o, none⟩ = some (.int .u8 32) := x0
        have he2 : l.dropWhile isBl = b.dropWhile isBl := by rw [← he, List.dropWhile_cons, if_pos (by decide)]
        obtain ⟨m, rfl⟩ : ∃ m, n' = m + 1 := ⟨n' - 1, by omega⟩
        have z1 : (0 : Int) < ((m + 1 : Nat) : Int) := by omega
        have z2 : 0 < m + 1 := by omega
        by_cases hcc : c' ≤ 1
        · have HS := tHid (hs1 hcc)
          have HE := tHid he2
          clear HF HL HB hl he x0 hs1 hs2 he2 hn
          go_wp2_with fail
          go_roundg m
          all_goals (first | omega | exact ⟨_, m, 0, by omega, by omega, Nat.le_refl _, rfl, rfl, l, by have := HS.out (some ⟨g, o, none⟩); rw [Nat.add_sub_cancel] at this; exact this, HE.out⟩)
        · have HS := tHid (hs2 (by omega))
          have HE := tHid he2
          have hc3 : 1 < c' := by omega
          have hc4 : ¬ c' = 1 := by omega
          clear HF HL HB hl he x0 hs1 hs2 he2 hn hcc
          go_wp2_with fail
          go_roundg m
          all_goals (first | omega | exact ⟨_, m, c' - 1, by omega, by omega, Nat.le_refl _, rfl, rfl, l, by have := HS.out; rw [Nat.add_sub_cancel] at this; exact this, HE.out⟩)
      · have hne : (x.toNat : Int) ≠ 32 := fun e => hx (BitVec.eq_of_toNat_eq (by show x.toNat = 32; omega))
        have hz : ((x.toNat : Int) == 32) = false := by rw [beq_eq_false_iff_ne]; exact hne
        have HF2 := tHid (HF.out (some ⟨g, o, none⟩) n' c' (by rw [← he, List.dropWhile_cons, if_neg (by unfold isBl; rw [decide_eq_false hx]; decide)]; exact hl))
        have z1 : (0 : Int) < (n' : Int) := by omega
        have z2 : 0 < n' := by omega
        have z3 : ¬ n' = 0 := by omega
        have z4 : ((n' : Int) == 0) = false := by rw [beq_eq_false_iff_ne]; omega
        clear HF HL HB hl he hs1 hs2 hn
        generalize x.toNat = xx at *
        go_wp2_with fail
        exact HF2.out
end Go.Proofs.YtffhpoilifgcdaaDoor

import Derived.Test.YtffhpoilifgcdaaDoorVbf
import Derived.Test.YtffhpoilifgcdaaDoorVbj
import Derived.Test.YtffhpoilifgcdaaDoorVbi
namespace Go.Proofs.YtffhpoilifgcdaaDoor
open Go.RowKit
set_option linter.unusedVariables false
/-! ### Numbers put into records -/
/-- L laid over R at o. -/
def pto (R : List By) (o : Nat) (L : List By) : List By := R.take o ++ (L ++ R.drop (o + L.length))
theorem pto_len (R L : List By) (o : Nat) (h : o + L.length ≤ R.length) : (pto R o L).length = R.length := by
  unfold pto
  rw [List.length_append, List.length_append, List.length_take, List.length_drop]
  omega
theorem pto_at (R L : List By) (o : Nat) (h : o + L.length ≤ R.length) (j : Nat) : (pto R o L)[j]? = if o ≤ j ∧ j < o + L.length then L[j - o]? else R[j]? := by
  unfold pto
  have ht : (R.take o).length = o := by rw [List.length_take]; omega
  by_cases h1 : j < o
  · rw [List.getElem?_append_left (by omega), if_neg (by omega), List.getElem?_take, if_pos h1]
  · rw [List.getElem?_append_right (by omega), ht]
    by_cases h2 : j < o + L.length
    · rw [List.getElem?_append_left (by omega), if_pos ⟨by omega, h2⟩]
    · rw [List.getElem?_append_right (by omega), if_neg (by omega), List.getElem?_drop]
      congr 1
      omega
theorem pn12 (z : Int) (h1 : 0 ≤ z) (h2 : z ≤ 9223372036854775807) : pnE z 12 = 0 ∧ (pnL z 12).length = 12 ∧ szN (pnL z 12) = (z.toNat, 0) := by
  have hE := pn_wide z 12 (by omega) h2 (by omega) (by omega)
  obtain ⟨h3, h4, _⟩ := pnL_num z 12 (by omega) h2 hE
  refine ⟨hE, by omega, ?_⟩
  rw [numA_nv] at h3
  injection h3 with h3
  have e1 : (Value.int .i64 (fNv (pnL z 12))) = .int .i64 z := by
    have := congrArg (fun a => a[0]?) h3
    simpa using this
  have e2 : (Value.int .i64 (fEv (pnL z 12) : Nat)) = .int .i64 0 := by
    have := congrArg (fun a => a[1]?) h3
    simpa using this
  injection e1 with _ e1
  injection e2 with _ e2
  have e3 : fEv (pnL z 12) = 0 := by omega
  unfold szN
  rw [e1, e3, if_neg (by omega)]
theorem ol_get (N k j : Nat) (h : j < k) : ∃ y, (ol N k)[j]? = some y ∧ y ≠ 0#8 := by
  have hl := ol_length N k
  have hlt : j < (ol N k).length := by omega
  refine ⟨_, List.getElem?_eq_getElem hlt, fun e => ?_⟩
  have := List.all_eq_true.1 (ol_all N k) _ (List.getElem_mem hlt)
  rw [e] at this
  exact absurd this (by decide)
/-- It does not begin with a zero. -/
theorem pn12_ne (z : Int) (h1 : 0 ≤ z) (h2 : z ≤ 9223372036854775807) : ∃ y r, pnL z 12 = y :: r ∧ y ≠ 0#8 := by
  obtain ⟨hE, hl, _⟩ := pn12 z h1 h2
  cases hq : pnL z 12 with
  | nil => rw [hq] at hl; cases hl
  | cons y r =>
    refine ⟨y, r, rfl, fun e => ?_⟩
    unfold pnL at hq
    split at hq
    · unfold poL at hq
      obtain ⟨y', hy', hne⟩ := ol_get z.toNat 11 0 (by decide)
      have := congrArg (fun l => l[0]?) hq
      rw [List.getElem?_cons_zero] at this
      have h3 : (ol z.toNat ((12 : Int).toNat - 1) ++ [0#8])[0]? = some y' := by
        rw [List.getElem?_append_left (by rw [ol_length]; decide)]
        exact hy'
      rw [h3] at this
      injection this with this
      exact hne (this.trans e)
    · rename_i hp
      have h12 : z ≥ 8589934592 := by
        unfold poE at hp
        rw [if_pos (by omega), if_neg (by omega)] at hp
        by_cases h : z.toNat / 8 ^ ((12 : Int).toNat - 1) = 0
        · rw [if_pos h] at hp; exact absurd rfl hp
        · have h8 : (8 : Nat) ^ ((12 : Int).toNat - 1) = 8589934592 := by decide
          rw [h8] at h
          omega
      have := pnL_twelve z (by omega) h2
      rw [decide_eq_false (by omega : ¬ (0 ≤ z ∧ z < 8589934592))] at this
      have hq2 : pnL z 12 = y :: r := by
        unfold pnL
        rw [if_neg hp]; exact hq
      rw [hq2, e] at this
      simp at this
attribute [local go_sem ↓] cpyT_fold
set_option maxHeartbeats 4000000 in
set_option maxRecDepth 100000 in
theorem xputN_any (w : World) (g o n c : Nat) (R : List By) (hR : R.length = 512) (hg : RcO g R w) (h12 : 12 ≤ n) (hnc : n ≤ c) (hc : c < 9223372036854775808) (ho : o + 12 ≤ 512) (z : Int) (h1 : 0 ≤ z) (h2 : z ≤ 9223372036854775807) :
    Calls Tryd.prog 33 #[.slice (some ⟨g, o, none⟩) n c, .int .i64 z] w fun e w' => e = .returned (.bool true) ∧ Hid (RcO g (pto R o (pnL z 12)) w' ∧ Fr (fun k => k = g) w w') := by
  obtain ⟨P, hP⟩ : ∃ P : Ending → World → Prop, P = fun e w' => e = .returned (.bool true) ∧ Hid (RcO g (pto R o (pnL z 12)) w' ∧ Fr (fun k => k = g) w w') := ⟨_, rfl⟩
  rw [← hP]
  obtain ⟨hE, hl, _⟩ := pn12 z h1 h2
  have HPN : Hid (Calls Tryd.prog 45 #[.int .i64 z, .int .i64 12] w fun e w1 => ∃ a m c2, e = .returned (.tuple #[.slice a m c2, .int .i64 0]) ∧ ∃ W2, (∀ ty, (cpyT #[23, 23] ty #[.slice (some ⟨g, o, none⟩) n c, .slice a m c2]).run Tryd.prog w1 = .ok (.int .i64 12) W2) ∧ Hid (RcO g (pto R o (pnL z 12)) W2 ∧ Fr (fun k => k = g) w W2)) := by
    refine (putNumber_any z 12 w (by omega) h2).mono ?_
    rintro e w1 ⟨a, m, c2, rfl, H⟩
    rw [hE]
    obtain ⟨hN, h3⟩ := H.out
    rcases h3 with ⟨h4, _⟩ | ⟨_, g2, hg2, hO⟩
    · exact absurd hE h4
    · obtain ⟨xs, e1, e2, e3, e4, hb⟩ := hO
      injection e1 with e5 e6 e7
      subst e5 e6 e7
      have hS : Rd g2 0 (pnL z 12) w1 := by
        obtain ⟨o', c', e, _, _, hr⟩ := (show Ow g2 (.slice (some ⟨g2, 0, none⟩) (pnL z 12).length xs.length) (pnL z 12) w1 from ⟨xs, rfl, e2, e3, e4, hb⟩).slb
        injection e with ea _ _
        injection ea with ea
        injection ea with _ eo
        have eo' : o' = 0 := eo.symm
        subst eo'
        exact hr
      have hgw : RcO g R w1 := Nw.heap hN hg
      have c1 := copy_recB w1 g o n c R g2 (pnL z 12).length xs.length (pnL z 12) hgw rfl (by omega) (by omega) hS
      refine ⟨_, _, _, rfl, _, fun ty => by rw [c1 ty]; rw [hl]; rfl, ?_, hN.any.trans ((Fr.refl _ _).setRow _ _ (.inl rfl))⟩
      unfold RcO pto
      rw [hl]
      exact setRow_heap _ _ _ _ 36 _ hgw
  have HF : Hid (∀ V, RcO g (pto R o (pnL z 12)) V ∧ Fr (fun k => k = g) w V → P (.returned (.bool true)) V) := fun V h => by rw [hP]; exact ⟨rfl, h⟩
  clear hP hg hE hl
  go_enter Tryd.func33, Tryd.ntmps33
  go_wp2_with (first
    | (go_at_call 45; with_reducible refine HPN.out.mono ?_; rintro e w1 ⟨a, m, c2, rfl, W2, hcp, H2⟩))
  first | exact HF.out _ H2.out | (go_ret; exact HF.out _ H2.out)
end Go.Proofs.YtffhpoilifgcdaaDoor

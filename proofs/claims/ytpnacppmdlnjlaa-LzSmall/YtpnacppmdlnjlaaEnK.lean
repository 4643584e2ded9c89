import Derived.Test.YtpnacppmdlnjlaaPaT
import Derived.Test.YtpnacppmdlnjlaaLzQ
namespace Go.Proofs.Ytpnacppmdlnjlaa
open Go.RowKit
set_option linter.unusedVariables false
/-- How long a block may be. -/
def bnd (n : Int) : Int := if n < 0 ∨ 4194304 < n then 0 else n + Int.tdiv n 255 + 16
set_option maxHeartbeats 4000000 in
theorem rbound_any (w : World) (n : Int) : Calls Try.prog 25 #[.int .i64 n] w fun e w' => e = .returned (.int .i64 (bnd n)) ∧ w' = w := by
  obtain ⟨P, hP⟩ : ∃ P : Ending → World → Prop, P = fun e w' => e = .returned (.int .i64 (bnd n)) ∧ w' = w := ⟨_, rfl⟩
  rw [← hP]
  have HF : Hid (∀ z, z = bnd n → P (.returned (.int .i64 z)) w) := fun z hz => by rw [hP]; exact ⟨by rw [hz], rfl⟩
  clear hP
  by_cases h1 : n < 0
  · have hb : bnd n = 0 := by unfold bnd; rw [if_pos (.inl h1)]
    go_enter Try.func25, Try.ntmps25
    go_wp2
    exact HF.out _ hb.symm
  by_cases h2 : 4194304 < n
  · have hb : bnd n = 0 := by unfold bnd; rw [if_pos (.inr h2)]
    go_enter Try.func25, Try.ntmps25
    go_wp2
    exact HF.out _ hb.symm
  have hb : bnd n = n + Int.tdiv n 255 + 16 := by unfold bnd; rw [if_neg (by omega)]
  obtain ⟨m, rfl⟩ : ∃ m : Nat, n = m := ⟨n.toNat, by omega⟩
  have hq : Int.tdiv (m : Int) 255 = ((m / 255 : Nat) : Int) := rfl
  have hql : m / 255 ≤ 4194304 := by omega
  rw [hq] at hb
  generalize m / 255 = q at *
  go_enter Try.func25, Try.ntmps25
  go_wp2
  exact HF.out _ (by rw [hb])
theorem canHold_no (n : Int) (h : n < 0 ∨ 4194304 < n) (w : World) : Calls Try.prog 27 #[.int .i64 n] w fun e w' => e = .returned (.bool false) ∧ w' = w := by
  obtain ⟨P, hP⟩ : ∃ P : Ending → World → Prop, P = fun e w' => e = .returned (.bool false) ∧ w' = w := ⟨_, rfl⟩
  rw [← hP]
  have HF : Hid (P (.returned (.bool false)) w) := by show P _ _; rw [hP]; exact ⟨rfl, rfl⟩
  clear hP
  by_cases h1 : n < 0
  · have hz : ¬ 0 ≤ n := by omega
    go_enter Try.func27, Try.ntmps27
    go_wp2
    exact HF.out
  · have hz : 0 ≤ n := by omega
    have hz2 : ¬ n ≤ 4194304 := by omega
    have hd : decide (n ≤ 4194304) = false := decide_eq_false hz2
    clear h
    go_enter Try.func27, Try.ntmps27
    go_wp2
    exact HF.out
set_option maxHeartbeats 4000000 in
theorem bound_any (w : World) (n : Int) : Calls Try.prog 26 #[.int .i64 n] w fun e w' => e = .returned (.int .i64 (bnd n)) ∧ w' = w := by
  obtain ⟨P, hP⟩ : ∃ P : Ending → World → Prop, P = fun e w' => e = .returned (.int .i64 (bnd n)) ∧ w' = w := ⟨_, rfl⟩
  rw [← hP]
  have HF : Hid (∀ z, z = bnd n → P (.returned (.int .i64 z)) w) := fun z hz => by rw [hP]; exact ⟨by rw [hz], rfl⟩
  clear hP
  by_cases h1 : n < 0 ∨ 4194304 < n
  · have hb : bnd n = 0 := by unfold bnd; rw [if_pos h1]
    have HC : Hid (Calls Try.prog 27 #[.int .i64 n] w fun e w' => e = .returned (.bool false) ∧ w = w') := (canHold_no n h1 w).mono (fun e w' ⟨h1, h2⟩ => ⟨h1, h2.symm⟩)
    clear h1
    go_enter Try.func26, Try.ntmps26
    go_wp2_with (first | (go_at_call 27; with_reducible refine (HC.out).mono ?_; rintro e w1 ⟨rfl, rfl⟩))
    exact HF.out _ hb.symm
  have HC : Hid (Calls Try.prog 27 #[.int .i64 n] w fun e w' => e = .returned (.bool true) ∧ w = w') := (canHold_yes n (by omega) (by omega) w).mono (fun e w' ⟨h1, h2⟩ => ⟨h1, h2.symm⟩)
  have hb : bnd n = n + Int.tdiv n 255 + 16 := by unfold bnd; rw [if_neg h1]
  obtain ⟨m, rfl⟩ : ∃ m : Nat, n = m := ⟨n.toNat, by omega⟩
  have hq : Int.tdiv (m : Int) 255 = ((m / 255 : Nat) : Int) := rfl
  have hql : m / 255 ≤ 4194304 := by omega
  have hml : m ≤ 4194304 := by omega
  rw [hq] at hb
  clear h1
  generalize m / 255 = q at *
  go_enter Try.func26, Try.ntmps26
  go_wp2_with (first | (go_at_call 27; with_reducible refine (HC.out).mono ?_; rintro e w1 ⟨rfl, rfl⟩))
  exact HF.out _ (by rw [hb])
set_option maxHeartbeats 8000000 in
set_option maxRecDepth 100000 in
theorem ends_any (w : World) (K : Nat → Prop) (v : Value) (ms : List Sq) (q : List By) (gs : List Nat) (qs : List Q) (h : SqL K v (ms ++ [⟨q, 0, 0⟩]) gs qs w) (hl : ms.length ≤ 100000000) (hq : q.length ≤ 100000000) (hn : ∀ s ∈ ms, s.n ≤ 10000000000) (he : ∀ s, ms.getLast? = some s → 5 ≤ q.length ∧ 12 ≤ s.n + q.length) :
    Calls Try.prog 24 #[v] w fun e w' => e = .returned (.bool true) ∧ Nw w w' := by
  obtain ⟨P, hP⟩ : ∃ P : Ending → World → Prop, P = fun e w' => e = .returned (.bool true) ∧ Nw w w' := ⟨_, rfl⟩
  rw [← hP]
  have HF : Hid (∀ V, Nw w V → P (.returned (.bool true)) V) := fun V hV => by rw [hP]; exact ⟨rfl, hV⟩
  clear hP
  obtain ⟨a, c, rfl, hc, hc2⟩ := h.form
  have hlen : (ms ++ [(⟨q, 0, 0⟩ : Sq)]).length = ms.length + 1 := by simp
  obtain ⟨g, q1, p1, e1, _, hq1, x0, x1, x2, hO1, hb1⟩ := h.get ms.length (by omega)
  have hlast : (ms ++ [(⟨q, 0, 0⟩ : Sq)])[ms.length]'(by omega) = ⟨q, 0, 0⟩ := by simp
  rw [hlast] at hO1
  have hqn : q1.n = q.length := by
    obtain ⟨xs, e, _⟩ := hO1
    injection e with _ e _
  cases hms : ms.getLast? with
  | none =>
    have h0 : ms = [] := by simpa using hms
    subst h0
    clear h hO1 he hn x0 x1 x2 hlast hq1
    simp only [List.nil_append, List.length_cons, List.length_nil] at *
    go_enter Try.func24, Try.ntmps24
    go_wp2
    exact HF.out _ (Fr.refl _ _)
  | some s =>
    obtain ⟨h5, h12⟩ := he s hms
    obtain ⟨ms', rfl⟩ : ∃ ms', ms = ms' ++ [s] := by
      obtain ⟨ms', hms'⟩ := List.getLast?_eq_some_iff.1 hms
      exact ⟨ms', hms'⟩
    have hsl : (ms' ++ [s]).length = ms'.length + 1 := by simp
    obtain ⟨g', q2, p2, e2, t1, t2, y0, y1, y2, t3, t4⟩ := h.get ms'.length (by omega)
    have hsec : (ms' ++ [s] ++ [(⟨q, 0, 0⟩ : Sq)])[ms'.length]'(by omega) = s := by simp
    rw [hsec] at y1 y2
    subst e1
    injection e2 with e2
    injection e2 with e2 _
    subst e2
    have hsn := hn s (by simp)
    rw [hqn, Nat.mul_comm] at x0
    rw [Nat.mul_comm] at y2
    rw [hsl] at x0
    rw [hlen, hsl] at hc ⊢
    rw [hsl] at hl
    clear h hO1 he hn x1 x2 y0 y1 hlast hsec hms hqn hq1 t1 t2 t3 t4 hsl hlen hb1
    generalize ms'.length = m at *
    generalize q.length = ql at *
    generalize s.n = sn at *
    generalize q1.a = qa at *
    generalize q1.c = qc at *
    have hz0 : ¬ ((m : Int) + 1 + 1 = 0) := by omega
    have hz1 : ¬ ((m : Int) + 1 + 1 = 1) := by omega
    have hz2 : (m : Int) + 1 + 1 - 1 = ((m + 1 : Nat) : Int) := by omega
    have hz3 : (m : Int) + 1 + 1 - 2 = (m : Int) := by omega
    have hz4 : (5 : Int) ≤ (ql : Int) := by omega
    have hz5 : (12 : Int) ≤ (sn : Int) + (ql : Int) := by omega
    have hd5 : decide ((12 : Int) ≤ (sn : Int) + (ql : Int)) = true := decide_eq_true hz5
    go_enter Try.func24, Try.ntmps24
    go_wp2
    exact HF.out _ (Fr.refl _ _)
end Go.Proofs.Ytpnacppmdlnjlaa

import Derived.Test.YtfmghmidklpdaabPyA
namespace Go.Proofs.Ytfmghmidklpdaab
open Go.RowKit
set_option linter.unusedVariables false
/-! ### Clone, Strip, Place -/
set_option maxHeartbeats 4000000 in
set_option maxRecDepth 100000 in
theorem cloneS_any (w : World) (g o n c : Nat) (l : List Tx) (h : SlR RS (fun _ => False) (.slice (some ⟨g, o, none⟩) n c) l w) (hn : l.length = n) (hl : n ≤ 1000000000000) :
    Calls Try.prog 14 #[.slice (some ⟨g, o, none⟩) n c] w fun e w' => ∃ a c', e = .returned (.slice a n c') ∧ NewS w a n c' l w' := by
  obtain ⟨P, hP⟩ : ∃ P : Ending → World → Prop, P = fun e w' => ∃ a c', e = .returned (.slice a n c') ∧ NewS w a n c' l w' := ⟨_, rfl⟩
  rw [← hP]
  obtain ⟨g', c', W, HA, k2, k3, k4⟩ := copyS w _ l h (by omega)
  rw [hn] at HA k2
  have HF : Hid (P (.returned (.slice (some ⟨g', 0, none⟩) n c')) W) := by
    show P _ _
    rw [hP]
    exact ⟨_, _, rfl, some g', k2, fun g hg => by injection hg with hg; omega, k3⟩
  clear hP h k2 k3 k4 hn
  have hnil : ∀ w, (binOp BinOp.eql 22 (.slice (some ⟨g, o, none⟩) n c) (.slice none 0 0)).run Try.prog w = .ok (.bool false) w := fun _ => by kernel_rfl
  go_enter Try.func14, Try.ntmps14
  go_wp2_with (first
    | (at_builtin; refine Lib.wpList_append_run _ rfl _ _ 22 22 rfl (.slice (some ⟨w.heap.size, 0, none⟩) 0 0) (.slice (some ⟨g, o, none⟩) n c) (by simp [Act.eval]) (by simp [Act.eval]) _ _ (HA.out _) ?_))
  exact HF.out
/-- What Strip answers. -/
def stF (l : List Tx) (z : Int) : List Tx × Bool := if z < 0 ∨ (l.length : Int) ≤ z then ([], false) else (l.drop z.toNat, true)
theorem SlR.suf {a : Option Addr} {N c : Nat} {l : List Tx} {w : World} (h : SlR RS (fun _ => False) (.slice a N c) l w) (hN : l.length = N) (k : Nat) (hk : k < N) :
    ∃ g o, a = some ⟨g, o, none⟩ ∧ SlR RS (fun _ => False) (.slice (some ⟨g, o + k, none⟩) (N - k) (c - k)) (l.drop k) w ∧ k < c ∧ N ≤ c ∧ c < 9223372036854775808 := by
  rcases h with ⟨a', e, rfl⟩ | ⟨g, o, c', hg, e, h1, h2, h3⟩
  · simp at hN; omega
  · injection e with e1 e2 e3
    subst e1 e3
    refine ⟨g, o, rfl, .inr ⟨g, o + k, c - k, fun h => h, by rw [List.length_drop, hN], by rw [List.length_drop]; omega, by omega, fun i x j u hx hu => ?_⟩, by omega, by omega, h2⟩
    rw [List.getElem?_drop] at hx
    have := h3 (k + i) x j u hx hu
    simp only [RS, Nat.mul_one] at this ⊢
    rw [show o + k + i = o + (k + i) by omega]
    exact this
set_option maxHeartbeats 8000000 in
set_option maxRecDepth 100000 in
theorem pstrip_any (w : World) (a : Option Addr) (N c : Nat) (l : List Tx) (h : SlR RS (fun _ => False) (.slice a N c) l w) (hN : l.length = N) (hl : N ≤ 1000000000000) (z : Int) (hz : -9223372036854775808 ≤ z ∧ z < 9223372036854775808) :
    Calls Try.prog 7 #[.slice a N c, .int .i64 z] w fun e w' => ∃ a' n' c', e = .returned (.tuple #[.slice a' n' c', .bool (stF l z).2]) ∧ NewS w a' n' c' (stF l z).1 w' := by
  obtain ⟨P, hP⟩ : ∃ P : Ending → World → Prop, P = fun e w' => ∃ a' n' c', e = .returned (.tuple #[.slice a' n' c', .bool (stF l z).2]) ∧ NewS w a' n' c' (stF l z).1 w' := ⟨_, rfl⟩
  rw [← hP]
  by_cases hbad : z < 0 ∨ (l.length : Int) ≤ z
  · have HF : Hid (P (.returned (.tuple #[.slice none 0 0, .bool false])) w) := by
      show P _ _
      rw [hP]
      unfold stF
      rw [if_pos hbad]
      exact ⟨none, 0, 0, rfl, NewS.none w⟩
    rw [hN] at hbad
    clear hP h hN
    by_cases h0 : z < 0
    · have d0 : decide (z < 0) = true := decide_eq_true h0
      go_enter Try.func7, Try.ntmps7
      go_wp2_with fail
      exact HF.out
    · have d0 : decide (z < 0) = false := decide_eq_false h0
      have h1 : (N : Int) ≤ z := by omega
      have d1 : decide ((N : Int) ≤ z) = true := decide_eq_true h1
      clear hbad
      go_enter Try.func7, Try.ntmps7
      go_wp2_with fail
      exact HF.out
  · obtain ⟨k, rfl⟩ : ∃ k : Nat, z = (k : Int) := ⟨z.toNat, by omega⟩
    have hk : k < N := by omega
    obtain ⟨g, o, rfl, hs, y1, y2, y3⟩ := h.suf hN k hk
    have HC : Hid (Calls Try.prog 14 #[.slice (some ⟨g, o + k, none⟩) (N - k) (c - k)] w fun e w' => ∃ a c', e = .returned (.slice a (N - k) c') ∧ Hid (NewS w a (N - k) c' (l.drop k) w')) := cloneS_any w g (o + k) (N - k) (c - k) (l.drop k) hs (by rw [List.length_drop, hN]) (by omega)
    have HF : Hid (∀ a c' V, NewS w a (N - k) c' (l.drop k) V → P (.returned (.tuple #[.slice a (N - k) c', .bool true])) V) := fun a c' V hV => by
      rw [hP]
      unfold stF
      rw [if_neg hbad]
      exact ⟨a, N - k, c', rfl, by simpa using hV⟩
    have d0 : ¬ (k : Int) < 0 := by omega
    have d1 : decide ((k : Int) < 0) = false := decide_eq_false d0
    have d2 : ¬ (N : Int) ≤ (k : Int) := by omega
    have d3 : decide ((N : Int) ≤ (k : Int)) = false := decide_eq_false d2
    have d4 : decide (N ≤ k) = false := decide_eq_false (by omega)
    have d5 : ¬ c - k = 0 := by omega
    have d6 : ¬ c = k := by omega
    have d7 : (k : Int) ≤ (N : Int) := by omega
    have d8 : k ≤ N := by omega
    clear hP h hN hs hbad hz
    go_enter Try.func7, Try.ntmps7
    go_wp2_with (first
      | (go_at_call 14; with_reducible refine HC.out.mono ?_; rintro e w1 ⟨a1, c1, rfl, H1⟩))
    exact HF.out _ _ _ H1.out
/-- What Place answers. -/
def plF (d p : List Tx) : List Tx := if ftF (d ++ p) = 0 then d ++ p else []
set_option maxHeartbeats 8000000 in
set_option maxRecDepth 100000 in
theorem pplace_any (w : World) (aa pa : Option Addr) (A N ac pc : Nat) (d p : List Tx) (ha : SlR RS (fun _ => False) (.slice aa A ac) d w) (hp : SlR RS (fun _ => False) (.slice pa N pc) p w) (hA : d.length = A) (hN : p.length = N) (hs : A + N ≤ 1000000000000) (hb : ∀ x ∈ d ++ p, x.length ≤ 140737488351232) :
    Calls Try.prog 4 #[.slice aa A ac, .slice pa N pc] w fun e w' => ∃ a n c, e = .returned (.tuple #[.slice a n c, .int .i64 ((ftF (d ++ p) : Nat) : Int)]) ∧ NewS w a n c (plF d p) w' := by
  obtain ⟨P, hP⟩ : ∃ P : Ending → World → Prop, P = fun e w' => ∃ a n c, e = .returned (.tuple #[.slice a n c, .int .i64 ((ftF (d ++ p) : Nat) : Int)]) ∧ NewS w a n c (plF d p) w' := ⟨_, rfl⟩
  rw [← hP]
  subst hA hN
  have hN1 : Nw w (w.alloc (.cells #[.slice aa d.length ac, .slice pa p.length pc] 22)) := (Fr.refl _ _).alloc _
  have hrow : (w.alloc (.cells #[.slice aa d.length ac, .slice pa p.length pc] 22)).heap[w.heap.size]? = some (.cells #[.slice aa d.length ac, .slice pa p.length pc] 22) := by
    show (w.heap.push _)[w.heap.size]? = _
    simp
  have HC : Hid (Calls Try.prog 10 #[.slice (some ⟨w.heap.size, 0, none⟩) 2 2] (w.alloc (.cells #[.slice aa d.length ac, .slice pa p.length pc] 22)) fun e w' => ∃ a' c', e = .returned (.slice a' (d ++ p).length c') ∧ Hid (NewS w a' (d ++ p).length c' (d ++ p) w') ∧ Hid (Calls Try.prog 11 #[.slice a' (d ++ p).length c'] w' fun e w'' => e = .returned (.int .i64 ((ftF (d ++ p) : Nat) : Int)) ∧ Hid (Nw w' w''))) := by
    show Calls _ _ _ _ _
    refine (concatS_any _ w.heap.size aa pa ac pc d p (cell_of_row hrow 0 _ rfl).1 (cell_of_row hrow 1 _ rfl).1 (ha.nw hN1) (hp.nw hN1) hs).mono ?_
    rintro e w' ⟨a', c', rfl, hM⟩
    refine ⟨a', c', rfl, hM.from hN1, ?_⟩
    show Calls _ _ _ _ _
    exact fault_any w' _ _ hM.sl hb (by rw [List.length_append]; omega)
  obtain ⟨T, hT⟩ : ∃ T, T = (d ++ p).length := ⟨_, rfl⟩
  by_cases h0 : ftF (d ++ p) = 0
  · have HF : Hid (∀ a c V V', NewS w a T c (d ++ p) V → Nw V V' → P (.returned (.tuple #[.slice a T c, .int .i64 0])) V') := fun a c V V' h k => by
      rw [hP]
      refine ⟨a, T, c, by rw [h0]; rfl, ?_⟩
      unfold plF
      rw [if_pos h0]
      exact h.on k
    rw [h0, ← hT] at HC
    clear hP ha hp hN1 hrow h0 hT hb
    generalize d.length = A at *
    generalize p.length = N at *
    go_enter Try.func4, Try.ntmps4
    go_wp2_with (first
      | (go_at_call 10; with_reducible refine HC.out.mono ?_; rintro e w1 ⟨a1, c1, rfl, H1, H2⟩)
      | (go_at_call 11; with_reducible refine H2.out.mono ?_; rintro e w2 ⟨rfl, H3⟩))
    exact HF.out _ _ _ _ H1.out H3.out
  · have HF : Hid (∀ a c V V', NewS w a T c (d ++ p) V → Nw V V' → P (.returned (.tuple #[.slice none 0 0, .int .i64 ((ftF (d ++ p) : Nat) : Int)])) V') := fun a c V V' h k => by
      rw [hP]
      refine ⟨none, 0, 0, rfl, ?_⟩
      unfold plF
      rw [if_neg h0]
      exact ((NewS.none V').from (h.nw.trans k))
    have hne : (((ftF (d ++ p) : Nat) : Int) == 0) = false := by rw [beq_eq_false_iff_ne]; omega
    have hne2 : ¬ ((ftF (d ++ p) : Nat) : Int) = 0 := by omega
    rw [← hT] at HC
    clear hP ha hp hN1 hrow h0 hT hb
    generalize ftF (d ++ p) = Y at *
    generalize d.length = A at *
    generalize p.length = N at *
    go_enter Try.func4, Try.ntmps4
    go_wp2_with (first
      | (go_at_call 10; with_reducible refine HC.out.mono ?_; rintro e w1 ⟨a1, c1, rfl, H1, H2⟩)
      | (go_at_call 11; with_reducible refine H2.out.mono ?_; rintro e w2 ⟨rfl, H3⟩))
    exact HF.out _ _ _ _ H1.out H3.out
end Go.Proofs.Ytfmghmidklpdaab

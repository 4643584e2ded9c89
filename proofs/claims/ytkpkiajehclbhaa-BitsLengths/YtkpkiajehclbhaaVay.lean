import Derived.Test.YtkpkiajehclbhaaVax
namespace Go.Proofs.Ytkpkiajehclbhaa
open Go.RowKit
set_option linter.unusedVariables false
/-! ### Rows of int64, and how symbols are compared -/
def RL : RT Int := { enc := fun x => [.int .i64 x], k := 1, T := 2, TS := 71, z := 0, by_ := 8 }
theorem rlOk : RL.Ok := by
  refine ⟨fun _ => rfl, by decide, fun x v hv => ?_, Try.underlying71, ?_⟩
  · simp only [RL, List.mem_cons, List.mem_nil_iff, or_false] at hv
    subst hv; rfl
  · have h : (Try.prog.info? 2).map (fun i => (i.zero, i.size, i.bytes)) = some (some (.int .i64 0), 1, 8) := by kernel_rfl
    cases hq : Try.prog.info? 2 with
    | none => simp [hq] at h
    | some i => simp [hq] at h; exact ⟨i, _, hq, h.1, h.2.1, h.2.2, rfl⟩
theorem rl_at {X : Nat → Prop} {a : Option Addr} {n c : Nat} {l : List Int} {w : World} (h : SlR RL X (.slice a n c) l w) (i : Nat) (x : Int) (hx : l[i]? = some x) : ∃ g o, a = some ⟨g, o, none⟩ ∧ ¬ X g ∧ w.cell? ⟨g, o + i, none⟩ = some (.int .i64 x) := by
  obtain ⟨g, o, e, hg, hc⟩ := h.at i x hx
  refine ⟨g, o, e, hg, ?_⟩
  have := hc 0 _ rfl
  rw [show RL.k = 1 from rfl, Nat.mul_one, Nat.add_zero] at this
  exact this
/-- What Compare answers. -/
def cmpv (a b : Int) : Int := if a < b then -1 else if b < a then 1 else 0
theorem cmpv_lt (a b : Int) : cmpv a b < 0 ↔ a < b := by
  unfold cmpv
  split
  · simp; assumption
  · split <;> simp <;> omega
set_option maxHeartbeats 8000000 in
theorem nan_any (x : Int) (w : World) : Calls Try.prog 70 #[.int .i64 x] w fun e w' => e = .returned (.bool false) ∧ w' = w := by
  obtain ⟨P, hP⟩ : ∃ P : Ending → World → Prop, P = fun e w' => e = .returned (.bool false) ∧ w' = w := ⟨_, rfl⟩
  rw [← hP]
  have HF : Hid (P (.returned (.bool false)) w) := by
    show P _ _
    rw [hP]; exact ⟨rfl, rfl⟩
  clear hP
  go_enter Try.func70, Try.ntmps70
  go_wp2
  exact HF.out
set_option maxHeartbeats 8000000 in
theorem cmp64_any (x y : Int) (w : World) : Calls Try.prog 64 #[.int .i64 x, .int .i64 y] w fun e w' => e = .returned (.int .i64 (cmpv x y)) ∧ w' = w := by
  obtain ⟨P, hP⟩ : ∃ P : Ending → World → Prop, P = fun e w' => e = .returned (.int .i64 (cmpv x y)) ∧ w' = w := ⟨_, rfl⟩
  rw [← hP]
  have HF : Hid (P (.returned (.int .i64 (cmpv x y))) w) := by
    show P _ _
    rw [hP]; exact ⟨rfl, rfl⟩
  have HN : Hid (∀ z, Calls Try.prog 70 #[.int .i64 z] w fun e w' => e = .returned (.bool false) ∧ w' = w) := fun z => nan_any z w
  clear hP
  by_cases h1 : x < y
  · have e : cmpv x y = -1 := by unfold cmpv; rw [if_pos h1]
    rw [e] at HF
    go_enter Try.func64, Try.ntmps64
    go_wp2_with (first | (go_at_call 70; (with_reducible refine (HN.out _).mono ?_); rintro e w1 ⟨rfl, rfl⟩))
    exact HF.out
  · by_cases h2 : y < x
    · have e : cmpv x y = 1 := by unfold cmpv; rw [if_neg h1, if_pos h2]
      rw [e] at HF
      go_enter Try.func64, Try.ntmps64
      go_wp2_with (first | (go_at_call 70; (with_reducible refine (HN.out _).mono ?_); rintro e w1 ⟨rfl, rfl⟩))
      exact HF.out
    · have e : cmpv x y = 0 := by unfold cmpv; rw [if_neg h1, if_neg h2]
      rw [e] at HF
      go_enter Try.func64, Try.ntmps64
      go_wp2_with (first | (go_at_call 70; (with_reducible refine (HN.out _).mono ?_); rintro e w1 ⟨rfl, rfl⟩))
      exact HF.out
/-- How often symbols come, where the closure finds it. -/
structure ObI (X : Nat → Prop) (ob : Nat) (os : List Int) (w : World) : Prop where
  ex : ∃ va, w.heap[ob]? = some (.cells #[va] 71) ∧ SlR RL X va os w
  nx : ¬ X ob
  len : os.length ≤ 17592186043904
theorem ObI.kept {X Y : Nat → Prop} {ob : Nat} {os : List Int} {w w' : World} (h : ObI X ob os w) (k : Fr Y w w') (hy : ∀ g, Y g → X g) : ObI X ob os w' := by
  obtain ⟨va, h1, h2⟩ := h.ex
  exact ⟨⟨va, row_kept h1 k (fun e => h.nx (hy _ e)), h2.kept k hy⟩, h.nx, h.len⟩
theorem ObI.nw {X : Nat → Prop} {ob : Nat} {os : List Int} {w w' : World} (h : ObI X ob os w) (k : Nw w w') : ObI X ob os w' := h.kept k (fun _ h => h.elim)
def kof (os : List Int) (s : Nat) : Int := os.getD s 0
theorem kof_at (os : List Int) (s : Nat) (h : s < os.length) : os[s]? = some (kof os s) := by
  unfold kof
  rw [List.getD_eq_getElem?_getD, List.getElem?_eq_getElem h]; rfl
set_option maxHeartbeats 8000000 in
set_option maxRecDepth 100000 in
theorem cmpc_any {X : Nat → Prop} {ob : Nat} {os : List Int} {w : World} (h : ObI X ob os w) (x y : Nat) (hx : x < os.length) (hy : y < os.length) : Calls Try.prog 63 #[.int .i64 x, .int .i64 y, .pointer (some ⟨ob, 0, none⟩)] w fun e w' => e = .returned (.int .i64 (cmpv (kof os x) (kof os y))) ∧ ∃ m, w' = w.drewN m := by
  obtain ⟨P, hP⟩ : ∃ P : Ending → World → Prop, P = fun e w' => e = .returned (.int .i64 (cmpv (kof os x) (kof os y))) ∧ ∃ m, w' = w.drewN m := ⟨_, rfl⟩
  rw [← hP]
  have HF : Hid (∀ m, P (.returned (.int .i64 (cmpv (kof os x) (kof os y)))) (w.drewN m)) := fun m => by rw [hP]; exact ⟨rfl, m, rfl⟩
  obtain ⟨va, h1, h2⟩ := h.ex
  have hl := h.len
  obtain ⟨a, c, rfl, hc, hc2, _⟩ := h2.form
  obtain ⟨g, o, rfl, _, k1⟩ := rl_at h2 x _ (kof_at os x hx)
  obtain ⟨g', o', e', _, k2⟩ := rl_at h2 y _ (kof_at os y hy)
  injection e' with e'
  injection e' with e1 e2
  subst e1 e2
  have k0 := (row_cell h1 0 _ rfl).1
  have hxi : (x : Int) < (os.length : Int) := by omega
  have hyi : (y : Int) < (os.length : Int) := by omega
  have HC : Hid (∀ u v V, Calls Try.prog 64 #[.int .i64 u, .int .i64 v] V fun e w' => e = .returned (.int .i64 (cmpv u v)) ∧ w' = V) := fun u v V => cmp64_any u v V
  clear hP h h1 h2
  generalize os.length = L at *
  generalize kof os x = u at *
  generalize kof os y = v at *
  go_enter Try.func63, Try.ntmps63
  go_wp2_with fail
  go_quiet (first | (go_at_call 64; refine Calls.quiet_of_same (HC.out _ _ _)))
  go_wp2_with fail
  exact HF.out _
end Go.Proofs.Ytkpkiajehclbhaa

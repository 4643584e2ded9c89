import Derived.Test.YtcogkhcfpgelhabGreatVfW
namespace Go.Proofs.YtcogkhcfpgelhabGreat
open Go.RowKit
set_option linter.unusedVariables false
set_option maxRecDepth 100000
variable {fb mb : Nat} {ot : Option Nat} {L : Int → Lay} {h : Hx} {q : Int → Option Pn} {cnt : Nat} {T : List Ac} {w w' : World} {X : Nat → Prop}
set_option maxHeartbeats 4000000 in
theorem cloneA_any (w : World) (a : Option Addr) (n c : Nat) (og : Option Nat) (l : List Ac) (hn : n = l.length) (hO : OgR RAc og (.slice a n c) l w) (hl : n ≤ 1000000000000) :
    Calls Tryz.prog 43 #[.slice a n c] w fun e w' => ∃ a' c' og', e = .returned (.slice a' n c') ∧ OgR RAc og' (.slice a' n c') l w' ∧ Nw w w' ∧ ∀ g, og' = some g → w.heap.size ≤ g := by
  obtain ⟨P, hP⟩ : ∃ P : Ending → World → Prop, P = fun e w' => ∃ a' c' og', e = .returned (.slice a' n c') ∧ OgR RAc og' (.slice a' n c') l w' ∧ Nw w w' ∧ ∀ g, og' = some g → w.heap.size ≤ g := ⟨_, rfl⟩
  rw [← hP]
  cases og with
  | none =>
    obtain ⟨e, rfl⟩ := hO
    injection e with e1 e2 e3
    subst e1 e2 e3
    have HF : Hid (P (.returned (.slice none 0 0)) w) := by rw [hP]; exact ⟨none, 0, none, rfl, ⟨rfl, rfl⟩, Fr.refl _ _, fun g hg => by cases hg⟩
    have hnil : ∀ w, (binOp BinOp.eql 48 (.slice none 0 0) (.slice none 0 0)).run Tryz.prog w = .ok (.bool true) w := fun _ => by kernel_rfl
    clear hP hn hl
    go_enter Tryz.func43, Tryz.ntmps43
    go_wp2_with fail
    exact HF.out
  | some g =>
    have hO2 : OwR RAc g (.slice a n c) l w := hO
    obtain ⟨c2, e, _, _⟩ := hO2.form
    injection e with e1 e2 e3
    subst e1 e3
    have hN : Nw w (w.alloc (.cells #[] 51)) := (Fr.refl _ _).alloc _
    obtain ⟨v', g', W, k1, k2, k3, k4⟩ := owR_app racOk (w.alloc (.cells #[] RAc.T)) w.heap.size _ [] (OwR.empty w) (.slice (some ⟨g, 0, none⟩) n c) l (((hO2.nw hN).slr racOk).mono (fun _ h => h.elim)) (by simp only [RAc, List.length_nil]; omega) (by simp only [List.length_nil]; omega)
    rw [List.nil_append] at k2
    obtain ⟨c', e2', _, _⟩ := k2.form
    rw [← hn] at e2'
    subst e2'
    have HF : Hid (P (.returned (.slice (some ⟨g', 0, none⟩) n c')) W) := by
      show P _ _
      rw [hP]
      refine ⟨_, _, some g', rfl, k2, Fr.then hN k3 (fun i hi => .inr (by omega)), fun g2 hg => ?_⟩
      injection hg with hg
      subst hg
      rcases k4 with h | h
      · omega
      · have : (w.alloc (.cells #[] RAc.T)).heap.size = w.heap.size + 1 := by simp
        omega
    have HAP : Hid (∀ ty, (Builtin.append_ #[48, 48] ty #[.slice (some ⟨w.heap.size, 0, none⟩) 0 0, .slice (some ⟨g, 0, none⟩) n c]).run Tryz.prog (w.alloc (.cells #[] 51)) = .ok (.slice (some ⟨g', 0, none⟩) n c') W) := k1
    clear k1 k2 k3 k4 hP hO hO2 hN hn e2
    have hnil : ∀ w, (binOp BinOp.eql 48 (.slice (some ⟨g, 0, none⟩) n c) (.slice none 0 0)).run Tryz.prog w = .ok (.bool false) w := fun _ => by kernel_rfl
    go_enter Tryz.func43, Tryz.ntmps43
    go_wp2_with (first
      | (at_builtin; refine Lib.wpList_append_run _ rfl _ _ 48 48 rfl (.slice (some ⟨w.heap.size, 0, none⟩) 0 0) (.slice (some ⟨g, 0, none⟩) n c) (by simp [Act.eval]) (by simp [Act.eval]) _ _ (HAP.out _) ?_))
    exact HF.out
set_option maxHeartbeats 4000000 in
theorem trace_any (H : FsH fb mb ot L h q cnt T w) (hT : T.length ≤ 1000000000000) : Calls Tryz.prog 16 #[.pointer (some ⟨fb, 0, none⟩)] w fun e w' => ∃ a' c' og', e = .returned (.slice a' T.length c') ∧ OgR RAc og' (.slice a' T.length c') T w' ∧ Nw w w' ∧ ∀ g, og' = some g → w.heap.size ≤ g := by
  obtain ⟨P, hP⟩ : ∃ P : Ending → World → Prop, P = fun e w' => ∃ a' c' og', e = .returned (.slice a' T.length c') ∧ OgR RAc og' (.slice a' T.length c') T w' ∧ Nw w w' ∧ ∀ g, og' = some g → w.heap.size ≤ g := ⟨_, rfl⟩
  rw [← hP]
  obtain ⟨tv, h1, h2⟩ := H.blk
  obtain ⟨a, c, rfl, _, _⟩ := h2.form
  have x5 := (rc h1 5 _ rfl).1
  have HC : Hid (Calls Tryz.prog 43 #[.slice a T.length c] w fun e w' => ∃ a' c', e = .returned (.slice a' T.length c') ∧ Hid (P (.returned (.slice a' T.length c')) w')) := by
    refine Calls.mono (cloneA_any w a T.length c ot T rfl h2 hT) ?_
    rintro e w' ⟨a', c', og', rfl, k⟩
    exact ⟨a', c', rfl, by show P _ _; rw [hP]; exact ⟨a', c', og', rfl, k⟩⟩
  clear H hP h1 h2
  generalize T.length = N at *
  go_enter Tryz.func16, Tryz.ntmps16
  go_wp2_with (first | (go_at_call 43; with_reducible refine HC.out.mono ?_; rintro e w2 ⟨a', c', rfl, HF⟩))
  exact HF.out
/-! ### The root alone -/
abbrev rootC : Array Value := #[.int .i64 1, .int .i64 1, .int .u32 0, .int .u32 0, .int .u32 0, .int .i64 0, .int .i32 0, .slice none 0 0, .string ⟨#[]⟩, .slice none 0 0]
def newOk (nodes bytes : Int) : Bool := decide (1 ≤ nodes) && decide (nodes ≤ 4096) && decide (0 ≤ bytes) && decide (bytes ≤ 4194304)
set_option maxHeartbeats 8000000 in
theorem bounds_root (nodes bytes : Int) (lb : Nat) (w : World) : Calls Tryz.prog 58 #[.agg #[.int .i64 nodes, .int .i64 bytes, .int .i64 2, .slice (some ⟨lb, 0, none⟩) 1 1]] w fun e w' => e = .returned (.bool (newOk nodes bytes)) ∧ Nw w w' := by
  obtain ⟨P, hP⟩ : ∃ P : Ending → World → Prop, P = fun e w' => e = .returned (.bool (newOk nodes bytes)) ∧ Nw w w' := ⟨_, rfl⟩
  rw [← hP]
  have HF : Hid (∀ V, Nw w V → P (.returned (.bool (newOk nodes bytes))) V) := fun V hV => by rw [hP]; exact ⟨rfl, hV⟩
  unfold newOk at HF
  clear hP
  by_cases h1 : 1 ≤ nodes
  · by_cases h2 : nodes ≤ 4096
    · by_cases h3 : 0 ≤ bytes
      · by_cases h4 : bytes ≤ 4194304
        · rw [decide_eq_true h1, decide_eq_true h2, decide_eq_true h3, decide_eq_true h4] at HF
          simp only [Bool.and_self] at HF
          have d1 := decide_eq_true h1
          have d2 := decide_eq_true h2
          have d3 := decide_eq_true h3
          have d4 := decide_eq_true h4
          go_enter Tryz.func58, Tryz.ntmps58
          go_wp2_with fail
          exact HF.out _ ((Fr.refl _ _).alloc _)
        · rw [decide_eq_true h1, decide_eq_true h2, decide_eq_true h3, decide_eq_false h4] at HF
          simp only [Bool.and_false] at HF
          have d1 := decide_eq_true h1
          have d2 := decide_eq_true h2
          have d3 := decide_eq_true h3
          have d4 := decide_eq_false h4
          go_enter Tryz.func58, Tryz.ntmps58
          go_wp2_with fail
          exact HF.out _ ((Fr.refl _ _).alloc _)
      · rw [decide_eq_true h1, decide_eq_true h2, decide_eq_false h3] at HF
        simp only [Bool.and_false, Bool.false_and] at HF
        have d1 := decide_eq_true h1
        have d2 := decide_eq_true h2
        have d3 := decide_eq_false h3
        go_enter Tryz.func58, Tryz.ntmps58
        go_wp2_with fail
        exact HF.out _ ((Fr.refl _ _).alloc _)
    · rw [decide_eq_true h1, decide_eq_false h2] at HF
      simp only [Bool.and_false, Bool.false_and] at HF
      have d1 := decide_eq_true h1
      have d2 := decide_eq_false h2
      go_enter Tryz.func58, Tryz.ntmps58
      go_wp2_with fail
      exact HF.out _ ((Fr.refl _ _).alloc _)
  · rw [decide_eq_false h1] at HF
    simp only [Bool.false_and] at HF
    have d1 := decide_eq_false h1
    go_enter Tryz.func58, Tryz.ntmps58
    go_wp2_with fail
    exact HF.out _ ((Fr.refl _ _).alloc _)
set_option maxHeartbeats 4000000 in
theorem entries_nil (w : World) : Calls Tryz.prog 92 #[.slice none 0 0] w fun e w' => e = .returned (.bool true) ∧ w = w' := by
  obtain ⟨P, hP⟩ : ∃ P : Ending → World → Prop, P = fun e w' => e = .returned (.bool true) ∧ w = w' := ⟨_, rfl⟩
  rw [← hP]
  have HF : Hid (P (.returned (.bool true)) w) := by rw [hP]; exact ⟨rfl, rfl⟩
  clear hP
  go_enter Tryz.func92, Tryz.ntmps92
  go_wp2_with fail
  go_loopg [8] 0 (fun kx i wr => i = .int .i64 0 ∧ wr = w)
  case atStart => exact ⟨rfl, rfl⟩
  case round =>
    obtain ⟨rfl, rfl⟩ := hrel
    go_wp2_with fail
    exact HF.out
set_option maxHeartbeats 4000000 in
theorem inode_root (w : World) : Calls Tryz.prog 78 #[.agg rootC] w fun e w' => e = .returned (.bool true) ∧ Nw w w' := by
  obtain ⟨P, hP⟩ : ∃ P : Ending → World → Prop, P = fun e w' => e = .returned (.bool true) ∧ Nw w w' := ⟨_, rfl⟩
  rw [← hP]
  have HF : Hid (∀ V, Nw w V → P (.returned (.bool true)) V) := fun V hV => by rw [hP]; exact ⟨rfl, hV⟩
  clear hP
  obtain ⟨V, hV⟩ : ∃ V, V = w.alloc (.cells rootC 44) := ⟨_, rfl⟩
  have hN : Nw w V := by rw [hV]; exact (Fr.refl _ _).alloc _
  have hc : ∀ j v, rootC[j]? = some v → V.cell? ⟨w.heap.size, j, none⟩ = some v := fun j v hv => by rw [hV]; exact (rc (nh w _) j v hv).1
  have c0 := hc 0 _ rfl
  have c1 := hc 1 _ rfl
  have c2 := hc 2 _ rfl
  have c3 := hc 3 _ rfl
  have c4 := hc 4 _ rfl
  have c5 := hc 5 _ rfl
  have c6 := hc 6 _ rfl
  have c7 := hc 7 _ rfl
  have c8 := hc 8 _ rfl
  have c9 := hc 9 _ rfl
  have HE : Hid (∀ W, Calls Tryz.prog 92 #[.slice none 0 0] W fun e w' => e = .returned (.bool true) ∧ W = w') := entries_nil
  have HM : Hid (∀ W, Calls Tryz.prog 63 #[.agg #[.int .u32 0, .int .u32 0, .int .u32 0, .int .i64 0, .int .i32 0]] W fun e w' => e = .returned (.bool true) ∧ Hid (Nw W w')) := fun W => isMeta_int 0 0 0 0 0 W
  have HW := tHid hV
  clear hc hV
  unfold rootC
  go_enter Tryz.func78, Tryz.ntmps78
  go_upto_region 1 with fail
  rw [← HW.out]
  clear HW
  go_quiet (fail)
  go_wp2_with (first | (go_at_call 92; with_reducible refine (HE.out _).mono ?_; rintro e w2 ⟨rfl, rfl⟩) | (go_at_call 63; with_reducible refine (HM.out _).mono ?_; rintro e w3 ⟨rfl, H3⟩))
  exact HF.out _ ((hN.drewN _).trans H3.out)
end Go.Proofs.YtcogkhcfpgelhabGreat

import Derived.Test.YtfmghmidklpdaabPuD
namespace Go.Proofs.Ytfmghmidklpdaab
open Go.RowKit
set_option linter.unusedVariables false
/-! ### Split -/
theorem pushO (V : World) (og : Option Nat) (a : Option Addr) (n c : Nat) (l : List Tx) (h : OgR RS og (.slice a n c) l V) (hn : l.length = n) (hl : n ≤ 8796093022208) (x : Tx) :
    ∃ og' a' c' W, Hid (∀ ty, (Builtin.append_ #[22, 22] ty #[.slice a n c, .slice (some ⟨V.heap.size, 0, none⟩) 1 1]).run Try.prog (V.alloc (.cells #[.string (mk x)] 9)) = .ok (.slice a' (n + 1) c') W) ∧
      OgR RS og' (.slice a' (n + 1) c') (l ++ [x]) W ∧ Fr (fun k => og = some k) V W ∧ Went og og' V ∧ n + 1 ≤ c' ∧ c' < 9223372036854775808 := by
  subst hn
  have hN : Nw V (V.alloc (.cells #[.string (mk x)] 9)) := (Fr.refl _ _).alloc _
  have hb := lit1 V x
  obtain ⟨v', og', W, k1, k2, k3, k4⟩ := ogR_app rsOk _ og _ l (h.nw hN) (.slice (some ⟨V.heap.size, 0, none⟩) 1 1) [x] hb.anyS (by simp only [RS, List.length_singleton]; omega) (by simp only [List.length_singleton]; omega)
  obtain ⟨a', c', e, q1, q2⟩ := k2.form
  rw [List.length_append, List.length_singleton] at e q1
  subst e
  refine ⟨og', a', c', W, k1, k2, hN.any.trans k3, ?_, q1, q2⟩
  have e2 : (V.alloc (.cells #[.string (mk x)] 9)).heap.size = V.heap.size + 1 := by simp
  rcases k4 with e | ⟨g, e, hg⟩
  · exact .inl e
  · exact .inr ⟨g, e, by omega⟩
def ns (p : Tx) : Bool := !stays p
/-- How Split's list stands, in its cell. -/
def spJ (w0 : World) (cb : Nat) (d : List Tx) (V : World) : Prop := ∃ og a n c, V.cell? ⟨cb, 0, none⟩ = some (.slice a n c) ∧ V.frozen? ⟨cb, 0, none⟩ = false ∧ OgR RS og (.slice a n c) (d.filter ns) V ∧ (∀ g, og = some g → w0.heap.size ≤ g ∧ g ≠ cb) ∧ Nw w0 V ∧ w0.heap.size ≤ cb ∧ (d.filter ns).length = n ∧ n ≤ c ∧ c < 9223372036854775808
def upT (d : List Tx) (p : Tx) : Bool := decide (p = [46, 46])
theorem og_len {og : Option Nat} {a : Option Addr} {n c : Nat} {l : List Tx} {V : World} (h : OgR RS og (.slice a n c) l V) : l.length = n ∧ n ≤ c ∧ c < 9223372036854775808 := by
  obtain ⟨a', c', e, q1, q2⟩ := h.form
  generalize hq : l.length = q at e q1
  cases e
  exact ⟨rfl, q1, q2⟩
theorem up_some (d ps : List Tx) : spB upT d ps = decide (([46, 46] : Tx) ∈ ps) := by
  induction ps generalizing d with
  | nil => rfl
  | cons p r ih =>
    rw [spB]
    unfold upT
    by_cases h : p = [46, 46]
    · rw [decide_eq_true h, if_pos rfl, decide_eq_true (by rw [h]; simp)]
    · rw [decide_eq_false h, if_neg (by decide)]
      have := ih (d ++ [p])
      unfold upT at this
      rw [this]
      apply decide_eq_decide.2
      rw [List.mem_cons]
      constructor
      · exact .inr
      · rintro (e | e)
        · exact absurd e.symm h
        · exact e
theorem up_none (d ps : List Tx) (h : ([46, 46] : Tx) ∉ ps) : spD upT d ps = d ++ ps := by
  induction ps generalizing d with
  | nil => rw [spD, List.append_nil]
  | cons p r ih =>
    rw [List.mem_cons, not_or] at h
    rw [spD]
    have hp : upT d p = false := decide_eq_false (fun e => h.1 e.symm)
    rw [hp, if_neg (by decide), ih _ h.2, List.append_assoc, List.singleton_append]
set_option maxHeartbeats 1000000 in
set_option maxRecDepth 100000 in
theorem tooLong_any (l : Tx) (w : World) (hl : l.length ≤ 140737488351232) : Calls Try.prog 28 #[.string (mk l)] w fun e w' => e = .returned (.bool (decide (255 < l.length))) ∧ w = w' := by
  obtain ⟨P, hP⟩ : ∃ P : Ending → World → Prop, P = fun e w' => e = .returned (.bool (decide (255 < l.length))) ∧ w = w' := ⟨_, rfl⟩
  rw [← hP]
  have HF : Hid (P (.returned (.bool (decide ((255 : Int) < ((mk l).size : Int))))) w) := by
    show P _ _
    rw [hP, mk_size]
    refine ⟨?_, rfl⟩
    congr 2
    apply decide_eq_decide.2
    omega
  have hsz : (mk l).size ≤ 140737488351232 := by rw [mk_size]; exact hl
  clear hP hl
  generalize mk l = s at *
  go_enter Try.func28, Try.ntmps28
  go_wp2
  exact HF.out
/-- The first text that is too long. -/
def tlF (ps : List Tx) : Bool := ps.any (fun p => decide (255 < p.length))
theorem tlF_iff (ps : List Tx) : tlF ps = true ↔ ∃ p ∈ ps, 255 < p.length := by unfold tlF; simp
end Go.Proofs.Ytfmghmidklpdaab

import Derived.Test.YtkpkiajehclbhaaCqC
namespace Go.Proofs.Ytkpkiajehclbhaa
open Go.RowKit
set_option linter.unusedVariables false
/-! ### Rows of slices, and the document's Words -/
def RV : RT (Option Addr × Nat × Nat) := { enc := fun x => [.slice x.1 x.2.1 x.2.2], k := 1, T := 22, TS := 98, z := (none, 0, 0), by_ := 24 }
abbrev sv (x : Option Addr × Nat × Nat) : Value := .slice x.1 x.2.1 x.2.2
theorem rvOk : RV.Ok := by
  refine ⟨fun _ => rfl, by decide, fun x v hv => ?_, Try.underlying98, ?_⟩
  · simp only [RV, List.mem_cons, List.mem_nil_iff, or_false] at hv
    subst hv; rfl
  · have h : (Try.prog.info? 22).map (fun i => (i.zero, i.size, i.bytes)) = some (some (.slice none 0 0), 1, 24) := by kernel_rfl
    cases hq : Try.prog.info? 22 with
    | none => simp [hq] at h
    | some i => simp [hq] at h; exact ⟨i, _, hq, h.1, h.2.1, h.2.2, rfl⟩
theorem SwR.setV {g : Nat} {xs : List (Option Addr × Nat × Nat)} {w : World} (h : SwR RV g xs w) (i : Nat) (z : Option Addr × Nat × Nat) : SwR RV g (xs.set i z) (w.setCell ⟨g, i, none⟩ (sv z)) := by
  unfold SwR at h ⊢
  rw [row_set h i]
  congr 2
  have e : ∀ l : List (Option Addr × Nat × Nat), flatR RV l = l.map sv := by
    intro l
    induction l with
    | nil => rfl
    | cons x r ih => rw [flatR, ih]; rfl
  rw [e, e, List.map_set]
  simp
theorem SwR.cellV {g : Nat} {xs : List (Option Addr × Nat × Nat)} {w : World} (h : SwR RV g xs w) (i : Nat) (x : Option Addr × Nat × Nat) (hx : xs[i]? = some x) : w.cell? ⟨g, i, none⟩ = some (sv x) ∧ w.frozen? ⟨g, i, none⟩ = false := by
  have a := h.cell rvOk i 0 x _ hx rfl
  rw [show RV.k = 1 from rfl, Nat.mul_one, Nat.add_zero] at a
  exact a
/-- Words that are made: all shorter than n, and of n those ahead of i. -/
def wbD (ls : List Nat) (n i j : Nat) : List By := if ls.getD j 0 < n ∨ (ls.getD j 0 = n ∧ j < i) then wb ls j else []
structure WdI (w0 : World) (gW : Nat) (ls : List Nat) (n i : Nat) (vs : List (Option Addr × Nat × Nat)) (w : World) : Prop where
  row : SwR RV gW vs w
  len : vs.length = ls.length
  each : ∀ j x, vs[j]? = some x → Sl (fun k => k = gW) (sv x) (wbD ls n i j) w
  low : w0.heap.size ≤ gW
  nw : Nw w0 w
variable {w0 w : World} {gW n i : Nat} {ls : List Nat} {vs : List (Option Addr × Nat × Nat)}
theorem WdI.keep {V : World} (h : WdI w0 gW ls n i vs w) (k : Nw w V) : WdI w0 gW ls n i vs V := ⟨h.row.kept k (fun h => h), h.len, fun j x hx => (h.each j x hx).nw k, h.low, h.nw.trans k⟩
theorem WdI.congr {n' i' : Nat} (h : WdI w0 gW ls n i vs w) (e : ∀ j, j < ls.length → wbD ls n i j = wbD ls n' i' j) : WdI w0 gW ls n' i' vs w :=
  ⟨h.row, h.len, fun j x hx => by rw [← e j (by rw [← h.len]; exact (List.getElem?_eq_some_iff.1 hx).1)]; exact h.each j x hx, h.low, h.nw⟩
theorem WdI.start (w0 : World) (ls : List Nat) (hl : ls.length ≤ 320) : ∃ W, Hid ((Instr.makeSlice 98 (.int .i64 ls.length) (.int .i64 ls.length)).run Try.prog w0 = .ok (.slice (some ⟨w0.heap.size, 0, none⟩) ls.length ls.length) W) ∧ WdI w0 w0.heap.size ls 1 0 (List.replicate ls.length (none, 0, 0)) W := by
  obtain ⟨W, h1, ⟨xs, e1, e2, e3, e4, e5⟩, h3, h4⟩ := OwR.made rvOk w0 ls.length ls.length (Nat.le_refl _) (by simp only [RV]; omega) (by omega)
  refine ⟨W, h1, ?_, by simp, ?_, Nat.le_refl _, h3⟩
  · rw [List.length_replicate] at e1 e2 e3
    have e1 : ls.length = xs.length := by
      generalize ls.length = A at e1
      generalize xs.length = B at e1
      cases e1
      rfl
    have e2' : xs = List.replicate ls.length (none, 0, 0) := by
      rw [List.take_of_length_le (by omega)] at e2
      exact e2
    rw [← e2']
    exact e5
  · intro j x hx
    rw [List.getElem?_replicate] at hx
    split at hx
    · injection hx with hx
      subst hx
      refine .inl ⟨none, rfl, ?_⟩
      unfold wbD
      split
      · rename_i h
        exact wb_nil j (by omega)
      · rfl
    · cases hx
theorem WdI.skip (h : WdI w0 gW ls n i vs w) (hn : ls.getD i 0 ≠ n) : WdI w0 gW ls n (i + 1) vs w := h.congr fun j _ => by
  unfold wbD
  have : (ls.getD j 0 < n ∨ (ls.getD j 0 = n ∧ j < i)) ↔ (ls.getD j 0 < n ∨ (ls.getD j 0 = n ∧ j < i + 1)) := by
    constructor
    · omega
    · rintro (h | ⟨h1, h2⟩)
      · exact .inl h
      · refine .inr ⟨h1, ?_⟩
        rcases Nat.lt_or_ge j i with h3 | h3
        · exact h3
        · obtain rfl : j = i := by omega
          exact absurd h1 hn
  simp only [this]
theorem WdI.next (h : WdI w0 gW ls n ls.length vs w) : WdI w0 gW ls (n + 1) 0 vs w := h.congr fun j hj => by
  unfold wbD
  have : (ls.getD j 0 < n ∨ (ls.getD j 0 = n ∧ j < ls.length)) ↔ (ls.getD j 0 < n + 1 ∨ (ls.getD j 0 = n + 1 ∧ j < 0)) := by omega
  simp only [this]
theorem WdI.put {w1 : World} {g ln c : Nat} (h : WdI w0 gW ls n i vs w) (hi : i < ls.length) (hn : ls.getD i 0 = n) (hG : Gr w (wb ls i) g ln c w1) : WdI w0 gW ls n (i + 1) (vs.set i (some ⟨g, 0, none⟩, ln, c)) (w1.setCell ⟨gW, i, none⟩ (.slice (some ⟨g, 0, none⟩) ln c)) := by
  obtain ⟨rfl, g1, g2, g3, g4, g5⟩ := hG
  have h1 := h.keep g5
  have hlt := h.row.lt
  have hf : Fr (fun k => k = gW) w1 (w1.setCell ⟨gW, i, none⟩ (.slice (some ⟨g, 0, none⟩) (wb ls i).length c)) := (Fr.refl _ _).setCell _ _ (.inl rfl)
  refine ⟨h1.row.setV i _, by rw [List.length_set]; exact h.len, ?_, h.low, Fr.then h1.nw hf (fun k hk => .inr (by rw [hk]; exact h.low))⟩
  intro j x hx
  rw [List.getElem?_set] at hx
  by_cases hj : i = j
  · subst hj
    rw [if_pos rfl, if_pos (by rw [h.len]; exact hi)] at hx
    injection hx with hx
    subst hx
    have e : wbD ls n (i + 1) i = wb ls i := by
      unfold wbD
      rw [if_pos (.inr ⟨hn, by omega⟩)]
    rw [e]
    exact (g3.kept hf (by omega)).slb |> fun k => .inr ⟨g, by omega, k⟩
  · rw [if_neg hj] at hx
    have e : wbD ls n (i + 1) j = wbD ls n i j := by
      unfold wbD
      have : (ls.getD j 0 < n ∨ (ls.getD j 0 = n ∧ j < i + 1)) ↔ (ls.getD j 0 < n ∨ (ls.getD j 0 = n ∧ j < i)) := by omega
      simp only [this]
    rw [e]
    exact (h1.each j x hx).kept hf (fun k hk => hk)
/-- The words of a code. -/
def WdA (w0 : World) (ls : List Nat) (e : Ending) (w : World) : Prop := ∃ gW vs, e = .returned (.slice (some ⟨gW, 0, none⟩) ls.length ls.length) ∧ WdI w0 gW ls 16 0 vs w
theorem WdI.at (h : WdI w0 gW ls 16 0 vs w) (hk : Cod ls) (j : Nat) (hj : j < ls.length) : ∃ a c, w.cell? ⟨gW, j, none⟩ = some (.slice a (ls.getD j 0) c) ∧ Sl (fun _ => False) (.slice a (ls.getD j 0) c) (wb ls j) w := by
  have hx : vs[j]? = some (vs[j]'(by rw [h.len]; exact hj)) := List.getElem?_eq_getElem _
  generalize (vs[j]'(by rw [h.len]; exact hj)) = x at hx
  have h1 := (h.row.cellV j x hx).1
  have h2 := h.each j x hx
  have e : wbD ls 16 0 j = wb ls j := by
    unfold wbD
    rw [if_pos (.inl (by have := hk.each j; omega))]
  rw [e] at h2
  have hlen : x.2.1 = ls.getD j 0 := by
    rw [← wb_length (ls := ls) j]
    rcases h2 with ⟨a, e1, e2⟩ | ⟨g, _, o, c, e1, _⟩
    · injection e1 with _ e1 _
      rw [e2]; exact e1
    · injection e1 with _ e1 _
  refine ⟨x.1, x.2.2, ?_, ?_⟩
  · rw [← hlen]; exact h1
  · rw [← hlen]; exact h2.mono (fun _ h => h.elim)
end Go.Proofs.Ytkpkiajehclbhaa

import Derived.Test.YtfmghmidklpdaabPuC
namespace Go.Proofs.Ytfmghmidklpdaab
open Go.RowKit
set_option linter.unusedVariables false
/-- One more behind a list. -/
theorem pushS (V : World) (g n c : Nat) (l : List Tx) (h : OwR RS g (.slice (some ⟨g, 0, none⟩) n c) l V) (hn : l.length = n) (hl : n ≤ 8796093022208) (x : Tx) :
    ∃ g' c' W, Hid (∀ ty, (Builtin.append_ #[22, 22] ty #[.slice (some ⟨g, 0, none⟩) n c, .slice (some ⟨V.heap.size, 0, none⟩) 1 1]).run Try.prog (V.alloc (.cells #[.string (mk x)] 9)) = .ok (.slice (some ⟨g', 0, none⟩) (n + 1) c') W) ∧
      OwR RS g' (.slice (some ⟨g', 0, none⟩) (n + 1) c') (l ++ [x]) W ∧ Fr (fun k => k = g) V W ∧ (g' = g ∨ V.heap.size ≤ g') ∧ n + 1 ≤ c' ∧ c' < 9223372036854775808 := by
  subst hn
  have hN : Nw V (V.alloc (.cells #[.string (mk x)] 9)) := (Fr.refl _ _).alloc _
  have hb := lit1 V x
  obtain ⟨v', g', W, k1, k2, k3, k4⟩ := owR_app rsOk _ g _ l (h.nw hN) (.slice (some ⟨V.heap.size, 0, none⟩) 1 1) [x] hb.anyS (by simp only [RS, List.length_singleton]; omega) (by simp only [List.length_singleton]; omega)
  obtain ⟨c', e, q1, q2⟩ := k2.form
  rw [List.length_append, List.length_singleton] at e q1
  subst e
  refine ⟨g', c', W, k1, k2, hN.any.trans k3, ?_, q1, q2⟩
  have e2 : (V.alloc (.cells #[.string (mk x)] 9)).heap.size = V.heap.size + 1 := by simp
  rcases k4 with e | e
  · exact .inl e
  · exact .inr (by omega)
theorem mk_get (l : Tx) (i : Nat) (hi : i < l.length) (h : i < (mk l).size) : (mk l)[i]'h = l[i]'hi := by
  show (mk l).data[i]'_ = _
  simp [mk]
/-- How Pieces' loop stands. -/
def PcI (l : Tx) (w : World) (I F g n c : Nat) (V : World) : Prop := ∃ done : List Tx, OwR RS g (.slice (some ⟨g, 0, none⟩) n c) done V ∧ done.length = n ∧ w.heap.size ≤ g ∧ Nw w V ∧ n ≤ F ∧
  ((I ≤ l.length ∧ F ≤ I ∧ (47 : UInt8) ∉ (l.take I).drop F ∧ pcs l = done ++ pcs (l.drop F)) ∨ (l.length < I ∧ pcs l = done))
theorem PcI.start (l : Tx) (w : World) : PcI l w 0 0 w.heap.size 0 0 (w.alloc (.cells #[] 9)) :=
  ⟨[], OwR.empty (R := RS) w, rfl, Nat.le_refl _, (Fr.refl _ _).alloc _, Nat.le_refl _, .inl ⟨Nat.zero_le _, Nat.le_refl _, by simp, rfl⟩⟩
theorem PcI.on {l : Tx} {w : World} {I F g n c : Nat} {V : World} (h : PcI l w I F g n c V) (hI : I < l.length) (hc : l[I] ≠ 47) : PcI l w (I + 1) F g n c V := by
  obtain ⟨done, h1, h2, h3, h4, h5, h6⟩ := h
  rcases h6 with ⟨k1, k2, k3, k4⟩ | ⟨k1, _⟩
  · refine ⟨done, h1, h2, h3, h4, h5, .inl ⟨by omega, by omega, ?_, k4⟩⟩
    rw [List.take_add_one, List.getElem?_eq_getElem hI, Option.toList_some, List.drop_append_of_le_length (by rw [List.length_take]; omega), List.mem_append, List.mem_singleton, not_or]
    exact ⟨k3, fun e => hc e.symm⟩
  · omega
theorem PcI.cut {l : Tx} {w : World} {I F g n c : Nat} {V : World} (h : PcI l w I F g n c V) (hI : I ≤ l.length) (hc : I = l.length ∨ l[I]? = some 47) (hl : l.length ≤ 1048576) :
    ∃ g' c' W, Hid (∀ ty, (Builtin.append_ #[22, 22] ty #[.slice (some ⟨g, 0, none⟩) n c, .slice (some ⟨V.heap.size, 0, none⟩) 1 1]).run Try.prog (V.alloc (.cells #[.string (mk ((l.take I).drop F))] 9)) = .ok (.slice (some ⟨g', 0, none⟩) (n + 1) c') W) ∧ PcI l w (I + 1) (I + 1) g' (n + 1) c' W ∧ n + 1 ≤ c' ∧ c' < 9223372036854775808 := by
  obtain ⟨done, h1, h2, h3, h4, h5, h6⟩ := h
  rcases h6 with ⟨k1, k2, k3, k4⟩ | ⟨k1, _⟩
  · obtain ⟨g', c', W, a1, a2, a3, a4, a5, a6⟩ := pushS V g n c done h1 h2 (by omega) ((l.take I).drop F)
    refine ⟨g', c', W, a1, ⟨done ++ [(l.take I).drop F], a2, by simp [h2], ?_, Fr.then h4 a3 (fun i hi => .inr (by omega)), by omega, ?_⟩, a5, a6⟩
    · have := h4.size
      rcases a4 with e | e <;> omega
    · have hd : l.drop F = (l.take I).drop F ++ l.drop I := by
        conv => lhs; rw [← List.take_append_drop I l]
        rw [List.drop_append_of_le_length (by rw [List.length_take]; omega)]
      rcases hc with e | e
      · right
        refine ⟨by omega, ?_⟩
        have hn : l.drop I = [] := List.drop_of_length_le (by omega)
        rw [k4, hd, hn, List.append_nil, pcs_none _ k3]
      · left
        obtain ⟨hi, he⟩ := List.getElem?_eq_some_iff.1 e
        refine ⟨by omega, Nat.le_refl _, ?_, ?_⟩
        · rw [List.drop_of_length_le (by rw [List.length_take]; omega)]; simp
        · rw [k4, hd, List.drop_eq_getElem_cons hi, he, pcs_at _ _ k3, List.append_assoc, List.singleton_append]
  · omega
end Go.Proofs.Ytfmghmidklpdaab

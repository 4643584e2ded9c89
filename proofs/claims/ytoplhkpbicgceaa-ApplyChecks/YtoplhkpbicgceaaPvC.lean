import Derived.Test.YtoplhkpbicgceaaPvB
namespace Go.Proofs.Ytoplhkpbicgceaa
open Go.RowKit
set_option linter.unusedVariables false
set_option maxHeartbeats 4000000 in
set_option maxRecDepth 100000 in
theorem qhas_any (w : World) (l : Tx) (c : UInt8) (z : Int) (hz : ((c.toNat : Nat) : Int) = z) (hl : l.length ≤ 140737488351232) :
    Calls Try.prog 20 #[.string (mk l), .int .u8 z] w fun e w' => e = .returned (.bool (decide (c ∈ l))) ∧ w = w' := by
  obtain ⟨P, hP⟩ : ∃ P : Ending → World → Prop, P = fun e w' => e = .returned (.bool (decide (c ∈ l))) ∧ w = w' := ⟨_, rfl⟩
  rw [← hP]
  have HP : Hid (P = fun e w' => e = .returned (.bool (decide (c ∈ l))) ∧ w = w') := hP
  clear hP
  have hsz := mk_size l
  have HG : Hid (∀ i (hi : i < l.length) (h : i < (mk l).size), ((mk l)[i]'h) = l[i]'hi) := mk_get l
  obtain ⟨L, hL⟩ : ∃ L, L = l.length := ⟨_, rfl⟩
  have HL : Hid (L = l.length) := hL
  have HSZ : Hid ((mk l).size = L) := by rw [hL]; exact hsz
  rw [← hL] at hl
  clear hL hsz
  have HZ : Hid (((c.toNat : Nat) : Int) = z) := hz
  clear hz
  have hsl : (mk l).size ≤ 140737488351232 := by rw [HSZ.out]; exact hl
  go_enter Try.func20, Try.ntmps20
  go_wp2
  go_loopg [5] L (fun kx i wr => ∃ (I : Nat), I ≤ L ∧ L - I ≤ kx ∧ i = .int .i64 I ∧ wr = w ∧ Hid (c ∉ l.take I))
  case atStart => exact ⟨0, by omega, by omega, rfl, rfl, (by simp : c ∉ l.take 0)⟩
  case round =>
    obtain ⟨I, hI, hkx, rfl, rfl, HI⟩ := hrel
    have hsz := HSZ.out
    have hLl := HL.out
    by_cases hlt : I < L
    · have hlt' : I < l.length := by omega
      have hg := HG.out I hlt'
      have z5 : I < (mk l).size := by omega
      have z6 : (I : Int) < ((mk l).size : Int) := by omega
      by_cases hc : (l[I]'hlt') = c
      · have HF : Hid (P (.returned (.bool true)) wr) := by
          show P _ _
          rw [HP.out, decide_eq_true (by rw [← hc]; exact List.getElem_mem hlt')]
          exact ⟨rfl, rfl⟩
        have hgx : ∀ h : I < (mk l).size, (((mk l)[I]'h).toNat : Int) = z := fun h => by rw [hg h, ← HZ.out, hc]
        clear HI HP HL HSZ HG hLl hsz hg hc HZ
        generalize mk l = s at *
        go_wp2_with fail
        exact HF.out
      · have HI2 : Hid (c ∉ l.take (I + 1)) := by
          show c ∉ _
          rw [List.take_add_one, List.getElem?_eq_getElem hlt', Option.toList_some, List.mem_append, List.mem_singleton, not_or]
          exact ⟨HI.out, fun e => hc e.symm⟩
        have hgx : ∀ h : I < (mk l).size, ((mk l)[I]'h).toNat = (l[I]'hlt').toNat := fun h => by rw [hg h]
        have hne : (((l[I]'hlt').toNat : Int) == z) = false := by
          rw [beq_eq_false_iff_ne, ← HZ.out]
          intro e
          apply hc
          apply UInt8.toNat_inj.1
          omega
        clear HI HP HL HSZ HG hLl hsz hg hc HZ
        generalize (l[I]'hlt').toNat = x at *
        generalize mk l = s at *
        go_wp2_with fail
        go_roundg (L - (I + 1))
        case measure => omega
        case rel => exact ⟨I + 1, by omega, by omega, by first | rfl | (congr 1), rfl, HI2⟩
    · have HF : Hid (P (.returned (.bool false)) wr) := by
        show P _ _
        have h := HI.out
        rw [List.take_of_length_le (by omega)] at h
        rw [HP.out, decide_eq_false h]
        exact ⟨rfl, rfl⟩
      have z5 : ¬ I < (mk l).size := by omega
      have z6 : ¬ (I : Int) < ((mk l).size : Int) := by omega
      clear HI HP HL HSZ HG hLl hsz HZ
      generalize mk l = s at *
      go_wp2_with fail
      exact HF.out
/-- How the document's loop over pieces stands. -/
def QsI (ps : List Tx) (w : World) (I g n c : Nat) (B : Bool) (V : World) : Prop := OwR RS g (.slice (some ⟨g, 0, none⟩) n c) ((ps.take I).filter ns) V ∧ ((ps.take I).filter ns).length = n ∧ w.heap.size ≤ g ∧ Nw w V ∧ ([46, 46] : Tx) ∉ ps.take I ∧ B = tlF ((ps.take I).filter ns)
theorem QsI.start (ps : List Tx) (w : World) : QsI ps w 0 w.heap.size 0 0 false (w.alloc (.cells #[] 9)) := by
  refine ⟨?_, by simp, Nat.le_refl _, (Fr.refl _ _).alloc _, by simp, by simp [tlF]⟩
  simp only [List.take_zero, List.filter_nil]
  exact OwR.empty (R := RS) w
theorem QsI.skip {ps : List Tx} {w : World} {I g n c : Nat} {B : Bool} {V : World} (h : QsI ps w I g n c B V) (hI : I < ps.length) (hs : stays ps[I] = true) : QsI ps w (I + 1) g n c B V := by
  obtain ⟨h1, h2, h3, h4, h5, h6⟩ := h
  have e : (ps.take (I + 1)).filter ns = (ps.take I).filter ns := by
    rw [List.take_add_one, List.getElem?_eq_getElem hI, Option.toList_some, List.filter_append]; simp [ns, hs]
  unfold QsI
  rw [e]
  refine ⟨h1, h2, h3, h4, ?_, h6⟩
  rw [List.take_add_one, List.getElem?_eq_getElem hI, Option.toList_some, List.mem_append, List.mem_singleton, not_or]
  exact ⟨h5, fun e => by rw [← e] at hs; cases hs⟩
theorem QsI.push {ps : List Tx} {w : World} {I g n c : Nat} {B : Bool} {V : World} (h : QsI ps w I g n c B V) (hI : I < ps.length) (hp : ps.length ≤ 5000) (hs : stays ps[I] = false) (hu : ps[I] ≠ [46, 46]) :
    ∃ g' c' W, Hid (∀ ty, (Builtin.append_ #[38, 38] ty #[.slice (some ⟨g, 0, none⟩) n c, .slice (some ⟨V.heap.size, 0, none⟩) 1 1]).run Try.prog (V.alloc (.cells #[.string (mk ps[I])] 9)) = .ok (.slice (some ⟨g', 0, none⟩) (n + 1) c') W) ∧ Hid (QsI ps w (I + 1) g' (n + 1) c' (B || decide (255 < ps[I].length)) W) ∧ n + 1 ≤ c' ∧ c' < 9223372036854775808 ∧ Fr (fun k => k = g) V W ∧ n ≤ 5000 := by
  obtain ⟨h1, h2, h3, h4, h5, h6⟩ := h
  have hn : n ≤ 5000 := by
    have := List.length_filter_le ns (ps.take I)
    rw [List.length_take] at this
    omega
  obtain ⟨g', c', W, a1, a2, a3, a4, a5, a6⟩ := pushS V g n c _ h1 h2 (by omega) ps[I]
  have e : (ps.take (I + 1)).filter ns = (ps.take I).filter ns ++ [ps[I]] := by
    rw [List.take_add_one, List.getElem?_eq_getElem hI, Option.toList_some, List.filter_append]; simp [ns, hs]
  refine ⟨g', c', W, a1, ?_, a5, a6, a3, hn⟩
  show QsI _ _ _ _ _ _ _ _
  unfold QsI
  rw [e]
  refine ⟨a2, by rw [List.length_append, h2]; rfl, ?_, Fr.then h4 a3 (fun i hi => .inr (by omega)), ?_, ?_⟩
  · have := h4.size
    rcases a4 with e | e <;> omega
  · rw [List.take_add_one, List.getElem?_eq_getElem hI, Option.toList_some, List.mem_append, List.mem_singleton, not_or]
    exact ⟨h5, fun e => hu e.symm⟩
  · rw [h6]; unfold tlF; rw [List.any_append]; simp
end Go.Proofs.Ytoplhkpbicgceaa

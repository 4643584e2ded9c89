import Derived.Test.YtfmghmidklpdaaaPyB
namespace Go.Proofs.Ytfmghmidklpdaaa
open Go.RowKit
set_option linter.unusedVariables false
theorem NewS.empty (w : World) : NewS w (some ⟨w.heap.size, 0, Option.none⟩) 0 0 [] (w.alloc (.cells #[] 9)) := ⟨some w.heap.size, OwR.empty (R := RS) w, fun g hg => by injection hg with hg; omega, (Fr.refl _ _).alloc _⟩
/-- Two lists, one behind the other. -/
theorem bothS (w : World) (aa pa : Option Addr) (A N ac pc : Nat) (d p : List Tx) (ha : SlR RS (fun _ => False) (.slice aa A ac) d w) (hp : SlR RS (fun _ => False) (.slice pa N pc) p w) (hA : d.length = A) (hN : p.length = N) (hs : A + N ≤ 1000000000000) :
    ∃ a1 c1 W1 a2 c2 W2, Hid (∀ ty, (Builtin.append_ #[22, 22] ty #[.slice (some ⟨w.heap.size, 0, none⟩) 0 0, .slice aa A ac]).run Try.prog (w.alloc (.cells #[] 9)) = .ok (.slice a1 A c1) W1) ∧
      Hid (∀ ty, (Builtin.append_ #[22, 22] ty #[.slice a1 A c1, .slice pa N pc]).run Try.prog W1 = .ok (.slice a2 (d ++ p).length c2) W2) ∧ NewS w a2 (d ++ p).length c2 (d ++ p) W2 := by
  subst hA hN
  have h0 := NewS.empty w
  obtain ⟨a1, c1, W1, k1, h1⟩ := h0.app _ d (ha.nw h0.nw) (by simp; omega)
  rw [List.nil_append] at k1 h1
  obtain ⟨a2, c2, W2, k2, h2⟩ := h1.app _ p (hp.nw h1.nw) (by omega)
  exact ⟨a1, c1, W1, a2, c2, W2, k1, k2, h2⟩
set_option maxHeartbeats 8000000 in
set_option maxRecDepth 100000 in
theorem qplace_any (w : World) (aa pa : Option Addr) (A N ac pc : Nat) (d p : List Tx) (ha : SlR RS (fun _ => False) (.slice aa A ac) d w) (hp : SlR RS (fun _ => False) (.slice pa N pc) p w) (hA : d.length = A) (hN : p.length = N) (hs : A + N ≤ 1000000000000) (hb : ∀ x ∈ d ++ p, x.length ≤ 140737488351232) :
    Calls Try.prog 24 #[.slice aa A ac, .slice pa N pc] w fun e w' => ∃ a n c, e = .returned (.tuple #[.slice a n c, .int .i64 ((ftF (d ++ p) : Nat) : Int)]) ∧ NewS w a n c (plF d p) w' := by
  obtain ⟨P, hP⟩ : ∃ P : Ending → World → Prop, P = fun e w' => ∃ a n c, e = .returned (.tuple #[.slice a n c, .int .i64 ((ftF (d ++ p) : Nat) : Int)]) ∧ NewS w a n c (plF d p) w' := ⟨_, rfl⟩
  rw [← hP]
  obtain ⟨a1, c1, W1, a2, c2, W2, HA1, HA2, hM⟩ := bothS w aa pa A N ac pc d p ha hp hA hN hs
  have HJ : Hid (Calls Try.prog 16 #[.slice a2 (d ++ p).length c2] W2 fun e w' => e = .returned (.tuple #[.string (mk (joinF (d ++ p)).1), .int .i64 ((ftF (d ++ p) : Nat) : Int)]) ∧ Hid (Nw W2 w')) := qjoin_any W2 _ (d ++ p) hM.sl hb (by rw [List.length_append]; omega)
  obtain ⟨T, hT⟩ : ∃ T, T = (d ++ p).length := ⟨_, rfl⟩
  by_cases h0 : ftF (d ++ p) = 0
  · have HF : Hid (∀ V', Nw W2 V' → P (.returned (.tuple #[.slice a2 T c2, .int .i64 0])) V') := fun V' k => by
      rw [hP]
      refine ⟨a2, T, c2, by rw [h0]; rfl, ?_⟩
      unfold plF
      rw [if_pos h0, hT]
      exact hM.on k
    rw [h0] at HJ
    rw [← hT] at HJ HA2
    clear hP ha hp h0 hb hM hT hA hN
    generalize mk (joinF (d ++ p)).1 = s at *
    go_enter Try.func24, Try.ntmps24
    go_wp2_with (first
      | (at_builtin; refine Lib.wpList_append_run _ rfl _ _ 22 22 rfl (.slice (some ⟨w.heap.size, 0, none⟩) 0 0) (.slice aa A ac) (by simp [Act.eval]) (by simp [Act.eval]) _ _ (HA1.out _) ?_)
      | (at_builtin; refine Lib.wpList_append_run _ rfl _ _ 22 22 rfl (.slice a1 A c1) (.slice pa N pc) (by simp [Act.eval]) (by simp [Act.eval]) _ _ (HA2.out _) ?_)
      | (go_at_call 16; with_reducible refine HJ.out.mono ?_; rintro e w2 ⟨rfl, H3⟩))
    exact HF.out _ H3.out
  · have HF : Hid (∀ V', Nw W2 V' → P (.returned (.tuple #[.slice none 0 0, .int .i64 ((ftF (d ++ p) : Nat) : Int)])) V') := fun V' k => by
      rw [hP]
      refine ⟨none, 0, 0, rfl, ?_⟩
      unfold plF
      rw [if_neg h0]
      exact ((NewS.none V').from (hM.nw.trans k))
    have hne : (((ftF (d ++ p) : Nat) : Int) == 0) = false := by rw [beq_eq_false_iff_ne]; omega
    have hne2 : ¬ ((ftF (d ++ p) : Nat) : Int) = 0 := by omega
    rw [← hT] at HJ HA2
    clear hP ha hp h0 hb hM hT hA hN
    generalize mk (joinF (d ++ p)).1 = s at *
    generalize ftF (d ++ p) = Y at *
    go_enter Try.func24, Try.ntmps24
    go_wp2_with (first
      | (at_builtin; refine Lib.wpList_append_run _ rfl _ _ 22 22 rfl (.slice (some ⟨w.heap.size, 0, none⟩) 0 0) (.slice aa A ac) (by simp [Act.eval]) (by simp [Act.eval]) _ _ (HA1.out _) ?_)
      | (at_builtin; refine Lib.wpList_append_run _ rfl _ _ 22 22 rfl (.slice a1 A c1) (.slice pa N pc) (by simp [Act.eval]) (by simp [Act.eval]) _ _ (HA2.out _) ?_)
      | (go_at_call 16; with_reducible refine HJ.out.mono ?_; rintro e w2 ⟨rfl, H3⟩))
    exact HF.out _ H3.out
set_option maxHeartbeats 8000000 in
set_option maxRecDepth 100000 in
theorem qcompare_any (w : World) (va vb : Value) (l m : List Tx) (hl : SlR RS (fun _ => False) va l w) (hm : SlR RS (fun _ => False) vb m w) :
    Calls Try.prog 18 #[va, vb] w fun e w' => e = .returned (.int .i64 (cmL l m)) ∧ Nw w w' := by
  obtain ⟨P, hP⟩ : ∃ P : Ending → World → Prop, P = fun e w' => e = .returned (.int .i64 (cmL l m)) ∧ Nw w w' := ⟨_, rfl⟩
  rw [← hP]
  have HP : Hid (P = fun e w' => e = .returned (.int .i64 (cmL l m)) ∧ Nw w w') := hP
  clear hP
  obtain ⟨a1, c1, rfl, k1, k2, _⟩ := hl.form
  obtain ⟨a2, c2, rfl, k3, k4, _⟩ := hm.form
  have HI1 : Hid (SlR RS (fun _ => False) (.slice a1 l.length c1) l w) := hl
  have HI2 : Hid (SlR RS (fun _ => False) (.slice a2 m.length c2) m w) := hm
  clear hl hm
  obtain ⟨L, hL⟩ : ∃ n, n = l.length := ⟨_, rfl⟩
  obtain ⟨M, hM⟩ : ∃ n, n = m.length := ⟨_, rfl⟩
  have HL : Hid (L = l.length) := hL
  have HM : Hid (M = m.length) := hM
  rw [← hL] at HI1 k1 ⊢
  rw [← hM] at HI2 k3 ⊢
  clear hL hM
  go_enter Try.func18, Try.ntmps18
  go_wp2
  go_loopg [5] L (fun kx i wr => ∃ (I : Nat), I ≤ L ∧ L - I ≤ kx ∧ i = .int .i64 I ∧ Hid (I ≤ M ∧ Nw w wr ∧ ∀ j, j < I → l[j]? = m[j]?))
  case atStart => exact ⟨0, by omega, by omega, rfl, by omega, Fr.refl _ _, fun j hj => by omega⟩
  case round =>
    obtain ⟨I, hI, hkx, rfl, HI⟩ := hrel
    obtain ⟨hIM, hN, hE⟩ := HI.out
    have hLl := HL.out
    have hMm := HM.out
    by_cases hlt : I < L
    · have hlt' : I < l.length := by omega
      have d0 : decide (I < L) = true := decide_eq_true hlt
      have d1 : decide ((I : Int) < (L : Int)) = true := decide_eq_true (by omega)
      obtain ⟨g1, o1, rfl, _, hcell1⟩ := rs_at (HI1.out.nw hN) I hlt'
      by_cases hlt2 : I < M
      · have hlt2' : I < m.length := by omega
        obtain ⟨g2, o2, rfl, _, hcell2⟩ := rs_at (HI2.out.nw hN) I hlt2'
        have hb := mk_eq l[I] m[I]
        have hlt3 : Op.bytesLess (mk l[I]).toList (mk m[I]).toList = lt l[I] m[I] := by rw [mk_toList, mk_toList]
        rcases lt_tri l[I] m[I] with h | h | h
        · have hz : cmT l[I] m[I] = -1 := by unfold cmT; rw [if_pos h]
          rw [h] at hlt3
          have HF : Hid (∀ V, Nw wr V → P (.returned (.int .i64 (-1))) V) := fun V hV => by
            rw [HP.out]
            refine ⟨?_, hN.trans hV⟩
            rw [cmL_at l m I hlt' hlt2' hE (by rw [hz]; decide), hz]
          clear HI HP hN hE HI1 HI2 hLl hMm HL HM hIM h hz hb
          generalize mk l[I] = x at *
          generalize mk m[I] = y at *
          go_wp2_with fail
          go_quiet (fail)
          go_wp2_with fail
          exact HF.out _ ((Fr.refl _ _).drewN _)
        · have HN : Hid (∀ V, Nw wr V → Nw w V ∧ ∀ j, j < I + 1 → l[j]? = m[j]?) := fun V hV => ⟨hN.trans hV, fun j hj => by
            by_cases hj' : j < I
            · exact hE j hj'
            · obtain rfl : j = I := by omega
              rw [List.getElem?_eq_getElem hlt', List.getElem?_eq_getElem hlt2', h]⟩
          rw [h, lt_irrefl] at hlt3
          rw [decide_eq_true h] at hb
          rw [h] at hcell1 hb
          clear HI HP hN hE HI1 HI2 hLl hMm HL HM hIM h
          generalize mk m[I] = y at *
          go_wp2_with fail
          go_quiet (fail)
          go_wp2_with fail
          go_quiet (fail)
          go_wp2_with fail
          go_roundg (L - (I + 1))
          case measure => omega
          case rel => exact ⟨I + 1, by omega, by omega, by first | rfl | (congr 1), by omega, HN.out _ (by first | exact (Fr.refl _ _).drewN _ | exact ((Fr.refl _ _).drewN _).drewN _)⟩
        · have hk := lt_asymm h
          have hne : l[I] ≠ m[I] := fun e => by rw [e, lt_irrefl] at h; cases h
          have hz : cmT l[I] m[I] = 1 := by unfold cmT; rw [hk, if_neg (by decide), if_neg hne]
          rw [hk] at hlt3
          rw [decide_eq_false hne] at hb
          have HF : Hid (∀ V, Nw wr V → P (.returned (.int .i64 1)) V) := fun V hV => by
            rw [HP.out]
            refine ⟨?_, hN.trans hV⟩
            rw [cmL_at l m I hlt' hlt2' hE (by rw [hz]; decide), hz]
          clear HI HP hN hE HI1 HI2 hLl hMm HL HM hIM h hz hk hne
          generalize mk l[I] = x at *
          generalize mk m[I] = y at *
          go_wp2_with fail
          go_quiet (fail)
          go_wp2_with fail
          go_quiet (fail)
          go_wp2_with fail
          exact HF.out _ (by first | exact (Fr.refl _ _).drewN _ | exact ((Fr.refl _ _).drewN _).drewN _)
      · have HF : Hid (P (.returned (.int .i64 1)) wr) := by
          show P _ _
          rw [HP.out]
          refine ⟨?_, hN⟩
          obtain rfl : I = M := by omega
          rw [cmL_drop l m I (by omega) (by omega) hE, List.drop_eq_getElem_cons hlt', List.drop_of_length_le (by omega : m.length ≤ I), cmL]
        have q1 : ¬ L < M := by omega
        have q2 : M < L := by omega
        clear HI HP hN hE HI1 HI2 hLl hMm HL HM hIM hcell1
        go_wp2_with fail
        exact HF.out
    · have d0 : decide (I < L) = false := decide_eq_false hlt
      have d1 : decide ((I : Int) < (L : Int)) = false := decide_eq_false (by omega)
      by_cases hlt2 : I < M
      · have HF : Hid (P (.returned (.int .i64 (-1))) wr) := by
          show P _ _
          rw [HP.out]
          refine ⟨?_, hN⟩
          have hlt2' : I < m.length := by omega
          rw [cmL_drop l m I (by omega) (by omega) hE, List.drop_eq_getElem_cons hlt2', List.drop_of_length_le (by omega : l.length ≤ I), cmL]
        have hLM : L < M := by omega
        clear HI HP hN hE HI1 HI2 hLl hMm HL HM hIM hlt2
        go_wp2_with fail
        exact HF.out
      · have HF : Hid (P (.returned (.int .i64 0)) wr) := by
          show P _ _
          rw [HP.out]
          refine ⟨?_, hN⟩
          rw [cmL_drop l m I (by omega) (by omega) hE, List.drop_of_length_le (by omega : m.length ≤ I), List.drop_of_length_le (by omega : l.length ≤ I), cmL]
        have hLM : ¬ L < M := by omega
        have hML : ¬ M < L := by omega
        clear HI HP hN hE HI1 HI2 hLl hMm HL HM hIM hlt2
        go_wp2_with fail
        exact HF.out
theorem take_upto (l m : List Tx) (k : Nat) (h : m.length ≤ l.length) (hk : k = m.length) (he : ∀ j, j < k → l[j]? = m[j]?) : l.take m.length = m := by
  apply List.ext_getElem?
  intro i
  by_cases hi : i < m.length
  · rw [List.getElem?_take_of_lt hi]; exact he i (by omega)
  · rw [List.getElem?_eq_none (by rw [List.length_take]; omega), List.getElem?_eq_none (by omega)]
set_option maxHeartbeats 8000000 in
set_option maxRecDepth 100000 in
theorem qunder_any (w : World) (va vb : Value) (l m : List Tx) (hl : SlR RS (fun _ => False) va l w) (hm : SlR RS (fun _ => False) vb m w) :
    Calls Try.prog 20 #[va, vb] w fun e w' => e = .returned (.bool (und l m)) ∧ Nw w w' := by
  obtain ⟨P, hP⟩ : ∃ P : Ending → World → Prop, P = fun e w' => e = .returned (.bool (und l m)) ∧ Nw w w' := ⟨_, rfl⟩
  rw [← hP]
  have HP : Hid (P = fun e w' => e = .returned (.bool (und l m)) ∧ Nw w w') := hP
  clear hP
  obtain ⟨a1, c1, rfl, k1, k2, _⟩ := hl.form
  obtain ⟨a2, c2, rfl, k3, k4, _⟩ := hm.form
  have HI1 : Hid (SlR RS (fun _ => False) (.slice a1 l.length c1) l w) := hl
  have HI2 : Hid (SlR RS (fun _ => False) (.slice a2 m.length c2) m w) := hm
  clear hl hm
  obtain ⟨L, hL⟩ : ∃ n, n = l.length := ⟨_, rfl⟩
  obtain ⟨M, hM⟩ : ∃ n, n = m.length := ⟨_, rfl⟩
  have HL : Hid (L = l.length) := hL
  have HM : Hid (M = m.length) := hM
  rw [← hL] at HI1 k1 ⊢
  rw [← hM] at HI2 k3 ⊢
  by_cases hne : M < L
  · have HU : Hid (und l m = decide (l.take m.length = m)) := by
      show _ = _
      unfold und; rw [decide_eq_true (by omega), Bool.true_and]
    clear hL hM
    have d0 : ¬ (L : Int) ≤ (M : Int) := by omega
    have d1 : ¬ L ≤ M := by omega
    go_enter Try.func20, Try.ntmps20
    go_wp2
    go_loopg [5] M (fun kx i wr => ∃ (I : Nat), I ≤ M ∧ M - I ≤ kx ∧ i = .int .i64 I ∧ Hid (Nw w wr ∧ ∀ j, j < I → l[j]? = m[j]?))
    case atStart => exact ⟨0, by omega, by omega, rfl, Fr.refl _ _, fun j hj => by omega⟩
    case round =>
      obtain ⟨I, hI, hkx, rfl, HI⟩ := hrel
      obtain ⟨hN, hE⟩ := HI.out
      have hLl := HL.out
      have hMm := HM.out
      by_cases hlt : I < M
      · have hlt1 : I < l.length := by omega
        have hlt2 : I < m.length := by omega
        obtain ⟨g1, o1, rfl, _, hcell1⟩ := rs_at (HI1.out.nw hN) I hlt1
        obtain ⟨g2, o2, rfl, _, hcell2⟩ := rs_at (HI2.out.nw hN) I hlt2
        have hbq := mk_eq l[I] m[I]
        have hIL : I < L := by omega
        by_cases heq : l[I] = m[I]
        · rw [decide_eq_true heq] at hbq
          have HN : Hid (∀ V, Nw wr V → Nw w V ∧ ∀ j, j < I + 1 → l[j]? = m[j]?) := fun V hV => ⟨hN.trans hV, fun j hj => by
            by_cases hj' : j < I
            · exact hE j hj'
            · obtain rfl : j = I := by omega
              rw [List.getElem?_eq_getElem hlt1, List.getElem?_eq_getElem hlt2, heq]⟩
          clear HI HP HU hN hE HI1 HI2 heq hLl hMm HL HM
          generalize mk l[I] = x at *
          generalize mk m[I] = y at *
          go_wp2_with fail
          go_quiet (fail)
          go_wp2_with fail
          go_roundg (M - (I + 1))
          case measure => omega
          case rel => exact ⟨I + 1, by omega, by omega, by first | rfl | (congr 1), HN.out _ ((Fr.refl _ _).drewN _)⟩
        · rw [decide_eq_false heq] at hbq
          have HF : Hid (∀ V, Nw wr V → P (.returned (.bool false)) V) := fun V hV => by
            rw [HP.out]
            refine ⟨?_, hN.trans hV⟩
            rw [HU.out, decide_eq_false]
            intro h
            apply heq
            have : (l.take m.length)[I]? = m[I]? := by rw [h]
            rw [List.getElem?_take_of_lt hlt2, List.getElem?_eq_getElem hlt1, List.getElem?_eq_getElem hlt2] at this
            injection this
          clear HI HP HU hN hE HI1 HI2 heq hLl hMm HL HM
          generalize mk l[I] = x at *
          generalize mk m[I] = y at *
          go_wp2_with fail
          go_quiet (fail)
          go_wp2_with fail
          exact HF.out _ ((Fr.refl _ _).drewN _)
      · have HF : Hid (P (.returned (.bool true)) wr) := by
          show P _ _
          rw [HP.out]
          exact ⟨by rw [HU.out, decide_eq_true (take_upto l m I (by omega) (by omega) hE)], hN⟩
        clear HI HP HU hN hE HI1 HI2 hLl hMm HL HM
        go_wp2_with fail
        exact HF.out
  · have HF : Hid (P (.returned (.bool false)) w) := by
      show P _ _
      rw [HP.out]
      unfold und
      rw [decide_eq_false (by omega), Bool.false_and]
      exact ⟨rfl, Fr.refl _ _⟩
    have d0 : (L : Int) ≤ (M : Int) := by omega
    have d1 : L ≤ M := by omega
    clear HP HI1 HI2 HL HM hL hM
    go_enter Try.func20, Try.ntmps20
    go_wp2_with fail
    exact HF.out
end Go.Proofs.Ytfmghmidklpdaaa

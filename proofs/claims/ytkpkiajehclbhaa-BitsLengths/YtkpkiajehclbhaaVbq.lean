import Derived.Test.YtkpkiajehclbhaaVbp
namespace Go.Proofs.Ytkpkiajehclbhaa
open Go.RowKit
set_option linter.unusedVariables false
/-- What sorted gives. -/
def SoA (ps : List Pk) (w : World) (e : Ending) (w' : World) : Prop := ∃ g c qs, e = .returned (.slice (some ⟨g, 0, none⟩) ps.length c) ∧ OwR RP g (.slice (some ⟨g, 0, none⟩) ps.length c) qs w' ∧ qs.Perm ps ∧ SoP qs ∧ w.heap.size ≤ g ∧ Nw w w'
/-- What is sorted so far. -/
def SrI (w : World) (ps : List Pk) (I g c : Nat) (qs : List Pk) (wr : World) : Prop := OwR RP g (.slice (some ⟨g, 0, none⟩) I c) qs wr ∧ qs.Perm (ps.take I) ∧ SoP qs ∧ w.heap.size ≤ g ∧ Nw w wr ∧ qs.length = I
/-- What comes of putting one in. -/
def InP (w : World) (ps : List Pk) (I g c K gp op : Nat) (x : Pk) (wr : World) (m : Nat) : Prop := ∃ g1 c1 W1 g2 c2 W2, Hid (∀ ty, (Builtin.append_ #[105, 105] ty #[.slice (some ⟨(wr.drewN m).heap.size, 0, none⟩) 0 0, .slice (some ⟨g, 0, none⟩) K c]).run Try.prog ((wr.drewN m).alloc (.cells #[] 107)) = .ok (.slice (some ⟨g1, 0, none⟩) K c1) W1) ∧ Hid (∀ ty, (Builtin.append_ #[105, 105] ty #[.slice (some ⟨g1, 0, none⟩) K c1, .slice (some ⟨W1.heap.size, 0, none⟩) 1 1]).run Try.prog (W1.alloc (.cells #[.int .i64 (x.1 : Nat), .slice x.2.1 x.2.2.1 x.2.2.2] 107)) = .ok (.slice (some ⟨g2, 0, none⟩) (K + 1) c2) W2) ∧ (W1.cell? ⟨gp, op + I * 2, none⟩ = some (.int .i64 (x.1 : Nat)) ∧ W1.cell? ⟨gp, op + I * 2 + 1, none⟩ = some (.slice x.2.1 x.2.2.1 x.2.2.2)) ∧ Hid (∀ o' c', ((o' = K * 2 ∧ c' = c - K) ∨ (c ≤ K ∧ c' = 0)) → ∃ g3 c3 W3, Hid (∀ ty, (Builtin.append_ #[105, 105] ty #[.slice (some ⟨g2, 0, none⟩) (K + 1) c2, .slice (some ⟨g, o', none⟩) (I - K) c']).run Try.prog W2 = .ok (.slice (some ⟨g3, 0, none⟩) (I + 1) c3) W3) ∧ Hid (∃ qs, SrI w ps (I + 1) g3 c3 qs W3))
set_option maxHeartbeats 32000000 in
set_option maxRecDepth 100000 in
theorem sorted_any (w : World) (v : Value) (ps : List Pk) (h : SlR RP (fun k => w.heap.size ≤ k) v ps w) (hl : ps.length ≤ 1000) (hb : ∀ x ∈ ps, x.1 ≤ 72057594037927936) : Calls Try.prog 60 #[v] w (SoA ps w) := by
  obtain ⟨P, hP⟩ : ∃ P : Ending → World → Prop, P = SoA ps w := ⟨_, rfl⟩
  rw [← hP]
  have HP : Hid (P = SoA ps w) := hP
  have HS : Hid (∀ V, Nw w V → SlR RP (fun k => w.heap.size ≤ k) v ps V) := fun V hV => h.nw hV
  have HB : Hid (∀ x ∈ ps, x.1 ≤ 72057594037927936) := hb
  obtain ⟨a0, c0, rfl, hc0, hc02, _⟩ := h.form
  have HI0 : Hid (∃ qs, SrI w ps 0 w.heap.size 0 qs (w.alloc (.cells #[] 107))) := ⟨[], OwR.empty (R := RP) w, by simp, List.Pairwise.nil, Nat.le_refl _, (Fr.refl _ _).alloc _, rfl⟩
  clear hP h hb
  generalize hL : ps.length = L at *
  have HL : Hid (ps.length = L) := hL
  clear hL
  go_enter Try.func60, Try.ntmps60
  go_wp2
  go_loopg [3, 4] L (fun kx r i wr => ∃ (I g c : Nat), I ≤ L ∧ L - I ≤ kx ∧ r = .slice (some ⟨g, 0, none⟩) I c ∧ i = .int .i64 I ∧ Hid (∃ qs, SrI w ps I g c qs wr))
  case atStart => exact ⟨0, w.heap.size, 0, by omega, by omega, rfl, rfl, HI0⟩
  case round =>
    clear HI0
    obtain ⟨I, g, c, hI, hkx, rfl, rfl, HI⟩ := hrel
    obtain ⟨qs, q1, q2, q3, q4, q5, q6⟩ := HI.out
    by_cases hlt : I < L
    · have hz : (I : Int) < (L : Int) := by omega
      obtain ⟨x, hx⟩ : ∃ x, ps[I]? = some x := ⟨_, List.getElem?_eq_getElem (by rw [HL.out]; exact hlt)⟩
      have hxb := HB.out x (List.mem_of_getElem? hx)
      obtain ⟨gp, op, rfl, _, _, _⟩ := rp_at (HS.out wr q5) I x hx
      have HXC : Hid (∀ V, Nw w V → V.cell? ⟨gp, op + I * 2, none⟩ = some (.int .i64 (x.1 : Nat)) ∧ V.cell? ⟨gp, op + I * 2 + 1, none⟩ = some (.slice x.2.1 x.2.2.1 x.2.2.2)) := fun V hV => by
        obtain ⟨g', o', e, _, k1, k2⟩ := rp_at (HS.out V hV) I x hx
        injection e with e
        injection e with e1 e2
        subst e1 e2
        exact ⟨k1, k2⟩
      have hic : I ≤ c ∧ c < 9223372036854775808 := by
        obtain ⟨c', e, r1, r2⟩ := q1.form
        rw [q6] at e r1
        cases e
        exact ⟨r1, r2⟩
      obtain ⟨hic1, hic2⟩ := hic
      have HQ : Hid (SrI w ps I g c qs wr) := ⟨q1, q2, q3, q4, q5, q6⟩
      have HX : Hid (ps[I]? = some x) := hx
      have hO0 : Hid (∀ j y, I ≤ j → qs[j]? = some y → x.1 < y.1) := fun j y hj hy => by
        have := (List.getElem?_eq_some_iff.1 hy).1
        omega
      clear HI hx q1 q2 q3 q4 q5 q6 HP
      go_wp2_with fail
      go_loopg [5] I (fun kx k wr => ∃ (K : Nat), K ≤ I ∧ K ≤ kx ∧ k = .int .i64 K ∧ Hid (∀ j y, K ≤ j → qs[j]? = some y → x.1 < y.1) ∧ Hid (SrI w ps I g c qs wr))
      case atStart => exact ⟨I, by omega, by omega, rfl, hO0, HQ⟩
      case round =>
        clear hO0 HQ
        obtain ⟨K, hK, hkx2, rfl, HO, HQ⟩ := hrel
        obtain ⟨q1, q2, q3, q4, q5, q6⟩ := HQ.out
        obtain ⟨kx1, kx2⟩ := HXC.out wr q5
        have HEnd : Hid ((K = 0 ∨ ∃ y, 0 < K ∧ qs[K - 1]? = some y ∧ y.1 ≤ x.1) → ∀ m, InP w ps I g c K gp op x wr m) := fun hst m => by
          have hNm : Nw wr (wr.drewN m) := (Fr.refl _ _).drewN m
          obtain ⟨g1, c1, W1, g2, c2, W2, a1, a2, a3, a4, a5⟩ := ins_one (wr.drewN m) g I c qs (q1.nw hNm) q6 (by omega) K hK x
          refine ⟨g1, c1, W1, g2, c2, W2, a1, a2, HXC.out W1 ((q5.trans hNm).trans a3), fun o' c' ho => ?_⟩
          obtain ⟨g3, c3, W3, b1, b2, b3, b4⟩ := a5 o' c' ho
          refine ⟨g3, c3, W3, b1, _, b2, ?_, ?_, ?_, (q5.trans hNm).trans b3, ?_⟩
          · refine (ins_perm qs K x).trans ?_
            rw [List.take_add_one, HX.out]
            exact List.Perm.append_right _ q2
          · refine ins_sorted qs q3 K x (fun y hy => ?_) (fun y hy => ?_)
            · rcases hst with e | ⟨y0, hK0, hy0, hle⟩
              · rw [e] at hy; simp at hy
              · obtain ⟨j, hj1, hj2⟩ := List.mem_take_iff_getElem.1 hy
                have hK1 := (List.getElem?_eq_some_iff.1 hy0)
                obtain ⟨hK2, hK3⟩ := hK1
                have : y.1 ≤ y0.1 := by
                  rw [← hj2, ← hK3]
                  by_cases e : j = K - 1
                  · subst e; exact Nat.le_refl _
                  · exact List.pairwise_iff_getElem.1 q3 j (K - 1) (by omega) hK2 (by omega)
                omega
            · obtain ⟨j, hj1, hj2⟩ := List.getElem_of_mem hy
              have h3 : qs[K + j]? = some y := by rw [← hj2, ← List.getElem?_drop]; exact List.getElem?_eq_getElem hj1
              exact Nat.le_of_lt (HO.out (K + j) y (by omega) h3)
          · have := q5.size
            have : (wr.drewN m).heap.size = wr.heap.size := rfl
            omega
          · simp; omega
        by_cases hK0 : K = 0
        · have hd0 : decide ((0 : Int) < (K : Int)) = false := decide_eq_false (by omega)
          have hd2 : decide (0 < K) = false := decide_eq_false (by omega)
          have HE : Hid (∀ m, InP w ps I g c K gp op x wr m) := HEnd.out (.inl hK0)
          clear hK0
          clear HEnd HQ HO q1 q2 q3 q4 q5 q6 HXC HX HS HB
          by_cases hck : c ≤ K
          · go_wp2_with fail
            go_quiet (fail)
            obtain ⟨g1, c1, W1, g2, c2, W2, HA1, HA2, ⟨y1, y2⟩, HA3⟩ := HE.out nq
            obtain ⟨g3, c3, W3, HA4, HN⟩ := HA3.out 0 0 (.inr ⟨hck, rfl⟩)
            go_wp2_with (first
              | (at_builtin; refine Lib.wpList_append_run _ rfl _ _ 105 105 rfl (.slice (some ⟨_, 0, none⟩) 0 0) (.slice (some ⟨g, 0, none⟩) K c) (by simp [Act.eval]) (by simp [Act.eval]) _ _ (HA1.out _) ?_)
              | (at_builtin; refine Lib.wpList_append_run _ rfl _ _ 105 105 rfl (.slice (some ⟨g1, 0, none⟩) K c1) (.slice (some ⟨_, 0, none⟩) 1 1) (by simp [Act.eval]) (by simp [Act.eval]) _ _ (HA2.out _) ?_)
              | (at_builtin; refine Lib.wpList_append_run _ rfl _ _ 105 105 rfl (.slice (some ⟨g2, 0, none⟩) (K + 1) c2) (.slice (some ⟨g, 0, none⟩) (I - K) 0) (by simp [Act.eval]) (by simp [Act.eval]) _ _ (HA4.out _) ?_))
            go_roundg (L - (I + 1))
            case measure => omega
            case rel => exact ⟨I + 1, g3, c3, by omega, by omega, rfl, by first | rfl | (congr 1), HN⟩
          · go_wp2_with fail
            go_quiet (fail)
            obtain ⟨g1, c1, W1, g2, c2, W2, HA1, HA2, ⟨y1, y2⟩, HA3⟩ := HE.out nq
            obtain ⟨g3, c3, W3, HA4, HN⟩ := HA3.out (K * 2) (c - K) (.inl ⟨rfl, rfl⟩)
            go_wp2_with (first
              | (at_builtin; refine Lib.wpList_append_run _ rfl _ _ 105 105 rfl (.slice (some ⟨_, 0, none⟩) 0 0) (.slice (some ⟨g, 0, none⟩) K c) (by simp [Act.eval]) (by simp [Act.eval]) _ _ (HA1.out _) ?_)
              | (at_builtin; refine Lib.wpList_append_run _ rfl _ _ 105 105 rfl (.slice (some ⟨g1, 0, none⟩) K c1) (.slice (some ⟨_, 0, none⟩) 1 1) (by simp [Act.eval]) (by simp [Act.eval]) _ _ (HA2.out _) ?_)
              | (at_builtin; refine Lib.wpList_append_run _ rfl _ _ 105 105 rfl (.slice (some ⟨g2, 0, none⟩) (K + 1) c2) (.slice (some ⟨g, K * 2, none⟩) (I - K) (c - K)) (by simp [Act.eval]) (by simp [Act.eval]) _ _ (HA4.out _) ?_))
            go_roundg (L - (I + 1))
            case measure => omega
            case rel => exact ⟨I + 1, g3, c3, by omega, by omega, rfl, by first | rfl | (congr 1), HN⟩
        · have hn0 : (0 : Int) < (K : Int) := by omega
          have hn2 : decide (0 < K) = true := decide_eq_true (by omega)
          obtain ⟨K', hK'⟩ : ∃ K', K' + 1 = K := ⟨K - 1, by omega⟩
          have hK'i : (K : Int) - 1 = (K' : Int) := by omega
          have hK'I : (K' : Int) < (I : Int) := by omega
          have hw1 : IntKind.i64.wrap (K' : Int) = (K' : Int) := by rw [IntKind.wrap_i64]; omega
          obtain ⟨y, hy⟩ : ∃ y, qs[K']? = some y := ⟨_, List.getElem?_eq_getElem (by omega)⟩
          have hyb : y.1 ≤ 72057594037927936 := by
            have := q2.mem_iff.1 (List.mem_of_getElem? hy)
            exact HB.out y (List.mem_of_mem_take this)
          have ky : wr.cell? ⟨g, K' * 2, none⟩ = some (.int .i64 (y.1 : Nat)) := (q1.cell rpOk K' 0 y _ hy rfl).1
          by_cases hyx : x.1 < y.1
          · have hyd : decide (x.1 < y.1) = true := decide_eq_true hyx
            have hyi : ((x.1 : Nat) : Int) < ((y.1 : Nat) : Int) := by omega
            have HO2 : Hid (∀ j z, K' ≤ j → qs[j]? = some z → x.1 < z.1) := fun j z hj hz2 => by
              by_cases e : j = K'
              · rw [e, hy] at hz2; injection hz2 with hz2; subst hz2; exact hyx
              · exact HO.out j z (by omega) hz2
            have HQ2 : Hid (∀ V, Nw wr V → SrI w ps I g c qs V) := fun V hV => ⟨q1.nw hV, q2, q3, q4, q5.trans hV, q6⟩
            obtain ⟨x1, x2⟩ := x
            obtain ⟨y1, y2⟩ := y
            clear HEnd HQ HO q1 q2 q3 q4 q5 q6 HXC HX HS HB hy hyx
            go_wp2_with fail
            go_quiet (fail)
            go_wp2_with fail
            go_roundg K'
            case measure => omega
            case rel => exact ⟨K', by omega, by omega, by first | rfl | (congr 1), HO2, HQ2.out _ ((Fr.refl _ _).drewN _)⟩
          · have hyd : decide (x.1 < y.1) = false := decide_eq_false hyx
            have hyi : decide (((x.1 : Nat) : Int) < ((y.1 : Nat) : Int)) = false := decide_eq_false (by omega)
            have HE : Hid (∀ m, InP w ps I g c K gp op x wr m) := HEnd.out (.inr ⟨y, by omega, by rw [show K - 1 = K' by omega]; exact hy, by omega⟩)
            clear hy hyx hK0
            clear HEnd HQ HO q1 q2 q3 q4 q5 q6 HXC HX HS HB
            by_cases hck : c ≤ K
            · go_wp2_with fail
              go_quiet (fail)
              obtain ⟨g1, c1, W1, g2, c2, W2, HA1, HA2, ⟨y1, y2⟩, HA3⟩ := HE.out nq
              obtain ⟨g3, c3, W3, HA4, HN⟩ := HA3.out 0 0 (.inr ⟨hck, rfl⟩)
              go_wp2_with (first
                | (at_builtin; refine Lib.wpList_append_run _ rfl _ _ 105 105 rfl (.slice (some ⟨_, 0, none⟩) 0 0) (.slice (some ⟨g, 0, none⟩) K c) (by simp [Act.eval]) (by simp [Act.eval]) _ _ (HA1.out _) ?_)
                | (at_builtin; refine Lib.wpList_append_run _ rfl _ _ 105 105 rfl (.slice (some ⟨g1, 0, none⟩) K c1) (.slice (some ⟨_, 0, none⟩) 1 1) (by simp [Act.eval]) (by simp [Act.eval]) _ _ (HA2.out _) ?_)
                | (at_builtin; refine Lib.wpList_append_run _ rfl _ _ 105 105 rfl (.slice (some ⟨g2, 0, none⟩) (K + 1) c2) (.slice (some ⟨g, 0, none⟩) (I - K) 0) (by simp [Act.eval]) (by simp [Act.eval]) _ _ (HA4.out _) ?_))
              go_roundg (L - (I + 1))
              case measure => omega
              case rel => exact ⟨I + 1, g3, c3, by omega, by omega, rfl, by first | rfl | (congr 1), HN⟩
            · go_wp2_with fail
              go_quiet (fail)
              obtain ⟨g1, c1, W1, g2, c2, W2, HA1, HA2, ⟨y1, y2⟩, HA3⟩ := HE.out nq
              obtain ⟨g3, c3, W3, HA4, HN⟩ := HA3.out (K * 2) (c - K) (.inl ⟨rfl, rfl⟩)
              go_wp2_with (first
                | (at_builtin; refine Lib.wpList_append_run _ rfl _ _ 105 105 rfl (.slice (some ⟨_, 0, none⟩) 0 0) (.slice (some ⟨g, 0, none⟩) K c) (by simp [Act.eval]) (by simp [Act.eval]) _ _ (HA1.out _) ?_)
                | (at_builtin; refine Lib.wpList_append_run _ rfl _ _ 105 105 rfl (.slice (some ⟨g1, 0, none⟩) K c1) (.slice (some ⟨_, 0, none⟩) 1 1) (by simp [Act.eval]) (by simp [Act.eval]) _ _ (HA2.out _) ?_)
                | (at_builtin; refine Lib.wpList_append_run _ rfl _ _ 105 105 rfl (.slice (some ⟨g2, 0, none⟩) (K + 1) c2) (.slice (some ⟨g, K * 2, none⟩) (I - K) (c - K)) (by simp [Act.eval]) (by simp [Act.eval]) _ _ (HA4.out _) ?_))
              go_roundg (L - (I + 1))
              case measure => omega
              case rel => exact ⟨I + 1, g3, c3, by omega, by omega, rfl, by first | rfl | (congr 1), HN⟩
    · obtain rfl : I = L := by omega
      have hz : ¬ (I : Int) < (I : Int) := by omega
      have HF2 : Hid (P (.returned (.slice (some ⟨g, 0, none⟩) I c)) wr) := by
        show P _ _
        rw [HP.out]
        refine ⟨g, c, qs, by rw [HL.out], by rw [HL.out]; exact q1, ?_, q3, q4, q5⟩
        rw [List.take_of_length_le (by rw [HL.out]; exact Nat.le_refl _)] at q2
        exact q2
      clear HI HS HB HP q1 q2 q3 q4 q5 q6
      go_wp2_with fail
      exact HF2.out
end Go.Proofs.Ytkpkiajehclbhaa

import Derived.Test.YtffhpoilifgcdaaDoorLzY
namespace Go.Proofs.YtffhpoilifgcdaaDoor
open Go.RowKit
set_option linter.unusedVariables false
/-- One byte more, nil or own. -/
theorem mine_step (K : Nat → Prop) (l : List By) (wr : World) (hK : ∀ k, K k → k < wr.heap.size) (v : Value) (h : Mine K v l wr) (hs : l.length ≤ 150000000000000) (x : By) (z : Int) (hz : z = x.toNat) :
    ∃ a c v' W, v = .slice a l.length c ∧ Hid (∀ ty, (Builtin.append_ #[23, 23] ty #[.slice a l.length c, .slice (some ⟨wr.heap.size, 0, none⟩) 1 1]).run Tryd.prog (wr.alloc (.cells #[.int .u8 z] 5)) = .ok v' W) ∧ Hid (Mine K v' (l ++ [x]) W ∧ Fr (fun k => ¬ K k) wr W) := by
  have hN : Nw wr (wr.alloc (.cells #[.int .u8 z] 5)) := (Fr.refl _ _).alloc _
  have hsz : (wr.alloc (.cells #[.int .u8 z] 5)).heap.size = wr.heap.size + 1 := by simp
  obtain ⟨v', W, hap, hM, hF⟩ := mine_app K _ (fun k hk => by rw [hsz]; have := hK k hk; omega) v l (h.nw hN) _ _ (one_byte' wr x z hz) (by simp; omega)
  obtain ⟨a, c, rfl, _, _⟩ := h.sl.form
  exact ⟨a, c, v', W, rfl, hap, hM, hN.any.trans hF⟩
set_option maxHeartbeats 8000000 in
set_option maxRecDepth 100000 in
theorem full_any (K : Nat → Prop) (w : World) (hK : ∀ k, K k → k < w.heap.size) (v : Value) (l : List By) (h : Mine K v l w) (hl : l.length ≤ 140737488351232) (x : By) :
    Calls Tryd.prog 14 #[v, .int .u8 x.toNat] w fun e w' => (∃ r, e = .returned r) ∧ Fr (fun k => ¬ K k) w w' := by
  obtain ⟨P, hP⟩ : ∃ P : Ending → World → Prop, P = fun e w' => (∃ r, e = .returned r) ∧ Fr (fun k => ¬ K k) w w' := ⟨_, rfl⟩
  rw [← hP]
  have HP : Hid (P = fun e w' => (∃ r, e = .returned r) ∧ Fr (fun k => ¬ K k) w w') := hP
  clear hP
  have HI0 : Hid (Mine K v l w ∧ Fr (fun k => ¬ K k) w w) := ⟨h, Fr.refl _ _⟩
  have HK : Hid (∀ k, K k → k < w.heap.size) := hK
  obtain ⟨a, c, rfl, hc, hc2⟩ := h.sl.form
  have hxl := x.isLt
  clear h hK
  generalize hL : l.length = L at *
  have hL' : Hid (l.length = L) := hL
  clear hL
  go_enter Tryd.func14, Tryd.ntmps14
  go_wp2
  go_loopg [4] L (fun kx i wr => ∃ (I : Nat) (m : List By), I ≤ L ∧ L - I ≤ kx ∧ i = .int .i64 I ∧ Hid (m.length = L ∧ Mine K (.slice a L c) m wr ∧ Fr (fun k => ¬ K k) w wr))
  case atStart => exact ⟨0, l, by omega, by omega, rfl, hL'.out, HI0.out.1, HI0.out.2⟩
  case round =>
    obtain ⟨I, m, hI, hkx, rfl, HI⟩ := hrel
    clear HI0
    obtain ⟨hml, hM, hF⟩ := HI.out
    by_cases hlt : I < L
    · rcases hM with ⟨_, rfl⟩ | ⟨g, hg, hO⟩
      · simp at hml; omega
      · have hO' := hO
        obtain ⟨xs, e1, _⟩ := hO'
        injection e1 with e1 _ _
        subst e1
        obtain ⟨k1, k2⟩ := hO.at I (by omega)
        have HN : Hid ((m.set I x).length = L ∧ Mine K (.slice (some ⟨g, 0, none⟩) L c) (m.set I x) (wr.setCell ⟨g, I, none⟩ (.int .u8 x.toNat)) ∧ Fr (fun k => ¬ K k) w (wr.setCell ⟨g, I, none⟩ (.int .u8 x.toNat))) :=
          ⟨by rw [List.length_set]; exact hml, .inr ⟨g, hg, hO.put I (by omega) x _ rfl⟩, hF.setCell _ _ (.inl hg)⟩
        obtain ⟨y, hy⟩ : ∃ y : Nat, wr.cell? ⟨g, I, none⟩ = some (.int .u8 y) := ⟨_, k1⟩
        clear k1
        clear HI hO hF hml HP HK
        go_wp2_with fail
        go_roundg (L - (I + 1))
        case measure => omega
        case rel => exact ⟨I + 1, _, by omega, by omega, by first | rfl | (congr 1), HN⟩
    · have hz : ¬ (I : Int) < (L : Int) := by omega
      have HI1 : Hid (m.length ≤ L ∧ Mine K (.slice a L c) m wr ∧ Fr (fun k => ¬ K k) w wr) := ⟨by omega, hM, hF⟩
      clear HI hM hF hml
      go_wp2
      go_loopg [0, 5] 90 (fun kx v i wr => ∃ (J : Nat) (m : List By), J ≤ 90 ∧ 90 - J ≤ kx ∧ i = .int .i64 J ∧ Hid (m.length ≤ L + J ∧ Mine K v m wr ∧ Fr (fun k => ¬ K k) w wr))
      case atStart => exact ⟨0, m, by omega, by omega, rfl, HI1⟩
      case round =>
        obtain ⟨J, m2, hJ, hkx2, rfl, HJ⟩ := hrel
        obtain ⟨hml2, hM2, hF2⟩ := HJ.out
        clear HI1
        by_cases hlt2 : J < 90
        · obtain ⟨a2, c2, v', W, rfl, HAP, HN⟩ := mine_step K m2 _ (fun k hk => Nat.lt_of_lt_of_le (HK.out k hk) hF2.size) u0 hM2 (by omega) x _ rfl
          have HN' : Hid ((m2 ++ [x]).length ≤ L + (J + 1) ∧ Mine K v' (m2 ++ [x]) W ∧ Fr (fun k => ¬ K k) w W) := ⟨by rw [List.length_append, List.length_singleton]; omega, HN.out.1, hF2.trans HN.out.2⟩
          have hz2 : (J : Int) < 90 := by omega
          clear HN hM2 hF2 HJ HP HK
          generalize m2.length = ln at *
          go_wp2_with (first
            | (at_builtin; refine Lib.wpList_append_run _ rfl _ _ 23 23 rfl (.slice a2 ln c2) (.slice (some ⟨_, 0, none⟩) 1 1) (by simp [Act.eval]) (by simp [Act.eval]) _ _ (HAP.out _) ?_))
          go_roundg (90 - (J + 1))
          case measure => omega
          case rel => exact ⟨J + 1, _, by omega, by omega, by first | rfl | (congr 1), HN'⟩
        · have hz2 : ¬ (J : Int) < 90 := by omega
          have HF := hF2
          have HF' : Hid (Fr (fun k => ¬ K k) w _) := HF
          clear HJ hM2 hF2 HF HK
          go_wp2
          go_end0
          rw [HP.out]
          exact ⟨⟨_, rfl⟩, HF'.out⟩
end Go.Proofs.YtffhpoilifgcdaaDoor

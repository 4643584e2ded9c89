import Derived.Test.YtincbbnppcpfpaaDoorTas
import Derived.Test.YtincbbnppcpfpaaDoorTao
namespace Go.Proofs.YtincbbnppcpfpaaDoor
open Go.RowKit
set_option linter.unusedVariables false
/-- One number more, to a list of one's own or to none. -/
theorem ogi_push (wr : World) (og : Option Nat) (v : Value) (l : List Nat) (h : OgR RI og v (toI l) wr) (hl : l.length ≤ 1000000) (x : Nat) :
    ∃ a' c' W og', Hid (∀ ty, (Builtin.append_ #[42, 42] ty #[v, .slice (some ⟨wr.heap.size, 0, none⟩) 1 1]).run Tryd.prog (wr.alloc (.cells #[.int .i64 (x : Nat)] 3)) = .ok (.slice a' (l.length + 1) c') W) ∧ OgR RI og' (.slice a' (l.length + 1) c') (toI (l ++ [x])) W ∧ Fr (fun k => og = some k) wr W ∧ Went og og' wr ∧ l.length + 1 ≤ c' ∧ c' < 9223372036854775808 := by
  have hN : Nw wr (wr.alloc (.cells #[.int .i64 (x : Nat)] 3)) := (Fr.refl _ _).alloc _
  have hb := OwR.built riOk wr [(x : Int)] #[.int .i64 (x : Nat)] (by simp [flatR, RI]) (by simp)
  obtain ⟨v', og', W, k1, k2, k3, k4⟩ := ogR_app riOk _ og v (toI l) (h.nw hN) (.slice (some ⟨wr.heap.size, 0, none⟩) 1 1) [(x : Int)] ((hb.slr riOk).mono (fun _ h => h.elim)) (by simp [RI, toI_length]; omega) (by simp [toI_length]; omega)
  have e : toI l ++ [(x : Int)] = toI (l ++ [x]) := by simp [toI]
  rw [e] at k2
  obtain ⟨a', c', e2, q1, q2⟩ := k2.form
  rw [toI_length, List.length_append, List.length_singleton] at e2 q1
  subst e2
  refine ⟨a', c', W, og', k1, k2, hN.any.trans k3, ?_, q1, q2⟩
  rcases k4 with rfl | ⟨g, rfl, hg⟩
  · exact .inl rfl
  · refine .inr ⟨g, rfl, ?_⟩
    have : (wr.alloc (.cells #[.int .i64 (x : Nat)] 3)).heap.size = wr.heap.size + 1 := by simp
    omega
def fx (I : Nat) : Nat := if 256 ≤ I ∧ I < 280 then 7 else if 144 ≤ I ∧ I < 256 then 9 else 8
theorem fixA_len : fixA.length = 288 := by
  unfold fixA
  rw [List.length_append, List.length_append, List.length_append, List.length_replicate, List.length_replicate, List.length_replicate, List.length_replicate]
set_option maxRecDepth 100000 in
theorem fixA_at : ∀ I, I < 288 → fixA[I]? = some (fx I) := by decide
theorem fixA_take (I : Nat) (h : I < 288) : fixA.take (I + 1) = fixA.take I ++ [fx I] := by
  rw [List.take_add_one, fixA_at I h]; rfl
theorem fixB_take (I : Nat) (h : I < 32) : fixB.take (I + 1) = fixB.take I ++ [5] := by
  rw [List.take_add_one]
  have : fixB[I]? = some 5 := by unfold fixB; rw [List.getElem?_replicate, if_pos h]
  rw [this]; rfl
/-- A list of lengths that grows, of one's own. -/
def GwI (w : World) (l : List Nat) (a : Option Addr) (n c : Nat) (wr : World) : Prop := ∃ og, n = l.length ∧ OgR RI og (.slice a n c) (toI l) wr ∧ (∀ g, og = some g → w.heap.size ≤ g) ∧ Nw w wr
theorem GwI.start (w V : World) (hV : Nw w V) : GwI w [] none 0 0 V := ⟨none, rfl, ⟨rfl, rfl⟩, fun g h => (by cases h), hV⟩
theorem GwI.nw {w wr V : World} {l : List Nat} {a : Option Addr} {n c : Nat} (h : GwI w l a n c wr) (hV : Nw wr V) : GwI w l a n c V := by
  obtain ⟨og, h1, h2, h3, h4⟩ := h
  exact ⟨og, h1, h2.nw hV, h3, h4.trans hV⟩
theorem GwI.push {w wr : World} {l : List Nat} {a : Option Addr} {n c : Nat} (h : GwI w l a n c wr) (hl : n ≤ 1000000) (x : Nat) :
    ∃ a' c' W, Hid (∀ ty, (Builtin.append_ #[42, 42] ty #[.slice a n c, .slice (some ⟨wr.heap.size, 0, none⟩) 1 1]).run Tryd.prog (wr.alloc (.cells #[.int .i64 (x : Nat)] 3)) = .ok (.slice a' (n + 1) c') W) ∧ GwI w (l ++ [x]) a' (n + 1) c' W ∧ Fr (fun k => w.heap.size ≤ k) wr W := by
  obtain ⟨og, rfl, h2, h3, h4⟩ := h
  obtain ⟨a', c', W, og', k1, k2, k3, k4, _, _⟩ := ogi_push wr og _ l h2 hl x
  refine ⟨a', c', W, k1, ⟨og', by simp, k2, fun g hg => ?_, Fr.then h4 k3 (fun i hi => .inr (h3 i hi))⟩, k3.mono (fun i hi => .inl (h3 i hi))⟩
  rcases k4 with rfl | ⟨g', e, hg'⟩
  · exact h3 g hg
  · rw [e] at hg; injection hg with hg; subst hg; exact Nat.le_trans h4.size hg'
theorem GwI.slr {w wr : World} {l : List Nat} {a : Option Addr} {n c : Nat} (h : GwI w l a n c wr) : SlR RI (fun k => k < w.heap.size ∨ wr.heap.size ≤ k) (.slice a n c) (toI l) wr := by
  obtain ⟨og, h1, h2, h3, h4⟩ := h
  refine (h2.slr riOk).mono (fun g hg e => ?_)
  have e1 := h3 g e
  have e2 := h2.lt g e
  omega
set_option maxHeartbeats 16000000 in
set_option maxRecDepth 100000 in
theorem gfixed_any (w : World) : Calls Tryd.prog 39 #[] w fun e w' => ∃ a1 c1 a2 c2, e = .returned (.tuple #[.slice a1 288 c1, .slice a2 32 c2]) ∧ Hid (SlR RI (fun k => k < w.heap.size ∨ w'.heap.size ≤ k) (.slice a1 288 c1) (toI fixA) w' ∧ SlR RI (fun k => k < w.heap.size ∨ w'.heap.size ≤ k) (.slice a2 32 c2) (toI fixB) w' ∧ Nw w w') := by
  obtain ⟨P, hP⟩ : ∃ P : Ending → World → Prop, P = fun e w' => ∃ a1 c1 a2 c2, e = .returned (.tuple #[.slice a1 288 c1, .slice a2 32 c2]) ∧ Hid (SlR RI (fun k => k < w.heap.size ∨ w'.heap.size ≤ k) (.slice a1 288 c1) (toI fixA) w' ∧ SlR RI (fun k => k < w.heap.size ∨ w'.heap.size ≤ k) (.slice a2 32 c2) (toI fixB) w' ∧ Nw w w') := ⟨_, rfl⟩
  rw [← hP]
  have HP : Hid (∀ a1 c1 a2 c2 V, SlR RI (fun k => k < w.heap.size ∨ V.heap.size ≤ k) (.slice a1 288 c1) (toI fixA) V → SlR RI (fun k => k < w.heap.size ∨ V.heap.size ≤ k) (.slice a2 32 c2) (toI fixB) V → Nw w V → P (.returned (.tuple #[.slice a1 288 c1, .slice a2 32 c2])) V) := fun a1 c1 a2 c2 V h1 h2 h3 => by rw [hP]; exact ⟨a1, c1, a2, c2, rfl, h1, h2, h3⟩
  have HI0 : Hid (GwI w (fixA.take 0) none 0 0 w) := GwI.start w w (Fr.refl _ _)
  clear hP
  go_enter Tryd.func39, Tryd.ntmps39
  go_wp2_with fail
  go_loopg [2, 4] 288 (fun kx l i wr => ∃ (I c : Nat) (a : Option Addr), I ≤ 288 ∧ 288 - I ≤ kx ∧ l = .slice a I c ∧ i = .int .i64 I ∧ Hid (GwI w (fixA.take I) a I c wr))
  case atStart => exact ⟨0, 0, none, by omega, by omega, rfl, rfl, HI0⟩
  case round =>
    clear HI0
    obtain ⟨I, c, a, hI, hkx, rfl, rfl, HI⟩ := hrel
    by_cases hlt : I < 288
    · have hz : (I : Int) < 288 := by omega
      obtain ⟨a', c', W, HAP, hN, _⟩ := HI.out.push (by omega) (fx I)
      rw [← fixA_take I hlt] at hN
      have HN : Hid (GwI w (fixA.take (I + 1)) a' (I + 1) c' W) := hN
      clear HI hN HP
      by_cases h1 : I < 144
      · rw [show fx I = 8 by unfold fx; rw [if_neg (by omega), if_neg (by omega)]] at HAP
        have z1 : ¬ (144 : Int) ≤ (I : Int) := by omega
        have z2 : ¬ (256 : Int) ≤ (I : Int) := by omega
        go_wp2_with (first | (at_builtin; refine Lib.wpList_append_run _ rfl _ _ 42 42 rfl (.slice a I c) (.slice (some ⟨wr.heap.size, 0, none⟩) 1 1) (by simp [Act.eval]) (by simp [Act.eval]) _ _ (HAP.out _) ?_))
        go_roundg (288 - (I + 1))
        case measure => omega
        case rel => exact ⟨I + 1, c', a', by omega, by omega, rfl, by first | rfl | (congr 1), HN⟩
      · have z1 : (144 : Int) ≤ (I : Int) := by omega
        by_cases h2 : I < 256
        · rw [show fx I = 9 by unfold fx; rw [if_neg (by omega), if_pos (by omega)]] at HAP
          have z2 : ¬ (256 : Int) ≤ (I : Int) := by omega
          have z3 : (I : Int) < 256 := by omega
          go_wp2_with (first | (at_builtin; refine Lib.wpList_append_run _ rfl _ _ 42 42 rfl (.slice a I c) (.slice (some ⟨wr.heap.size, 0, none⟩) 1 1) (by simp [Act.eval]) (by simp [Act.eval]) _ _ (HAP.out _) ?_))
          go_roundg (288 - (I + 1))
          case measure => omega
          case rel => exact ⟨I + 1, c', a', by omega, by omega, rfl, by first | rfl | (congr 1), HN⟩
        · have z2 : (256 : Int) ≤ (I : Int) := by omega
          have z3 : ¬ (I : Int) < 256 := by omega
          by_cases h3 : I < 280
          · rw [show fx I = 7 by unfold fx; rw [if_pos (by omega)]] at HAP
            have z4 : (I : Int) < 280 := by omega
            go_wp2_with (first | (at_builtin; refine Lib.wpList_append_run _ rfl _ _ 42 42 rfl (.slice a I c) (.slice (some ⟨wr.heap.size, 0, none⟩) 1 1) (by simp [Act.eval]) (by simp [Act.eval]) _ _ (HAP.out _) ?_))
            go_roundg (288 - (I + 1))
            case measure => omega
            case rel => exact ⟨I + 1, c', a', by omega, by omega, rfl, by first | rfl | (congr 1), HN⟩
          · rw [show fx I = 8 by unfold fx; rw [if_neg (by omega), if_neg (by omega)]] at HAP
            have z4 : ¬ (I : Int) < 280 := by omega
            go_wp2_with (first | (at_builtin; refine Lib.wpList_append_run _ rfl _ _ 42 42 rfl (.slice a I c) (.slice (some ⟨wr.heap.size, 0, none⟩) 1 1) (by simp [Act.eval]) (by simp [Act.eval]) _ _ (HAP.out _) ?_))
            go_roundg (288 - (I + 1))
            case measure => omega
            case rel => exact ⟨I + 1, c', a', by omega, by omega, rfl, by first | rfl | (congr 1), HN⟩
    · obtain rfl : I = 288 := by omega
      have hA := HI.out.slr
      have hNA : Nw w wr := by obtain ⟨_, _, _, _, hh⟩ := HI.out; exact hh
      rw [List.take_of_length_le (by rw [fixA_len]; omega)] at hA
      have HA : Hid (SlR RI (fun k => k < w.heap.size ∨ wr.heap.size ≤ k) (.slice a 288 c) (toI fixA) wr ∧ Nw w wr) := ⟨hA, hNA⟩
      generalize wr = w1 at *
      have HJ0 : Hid (GwI w1 (fixB.take 0) none 0 0 w1) := GwI.start w1 w1 (Fr.refl _ _)
      clear HI hA hNA
      go_wp2_with fail
      go_loopg [3, 6] 32 (fun kx l i wx => ∃ (I c : Nat) (a : Option Addr), I ≤ 32 ∧ 32 - I ≤ kx ∧ l = .slice a I c ∧ i = .int .i64 I ∧ Hid (GwI w1 (fixB.take I) a I c wx))
      case atStart => exact ⟨0, 0, none, by omega, by omega, rfl, rfl, HJ0⟩
      case round =>
        clear HJ0
        obtain ⟨J, c2, a2, hJ, hkx2, rfl, rfl, HJ⟩ := hrel
        by_cases hltJ : J < 32
        · have hz : (J : Int) < 32 := by omega
          obtain ⟨a', c', W, HAP, hN, _⟩ := HJ.out.push (by omega) 5
          rw [← fixB_take J hltJ] at hN
          have HN : Hid (GwI w1 (fixB.take (J + 1)) a' (J + 1) c' W) := hN
          clear HJ hN HP HA
          go_wp2_with (first | (at_builtin; refine Lib.wpList_append_run _ rfl _ _ 42 42 rfl (.slice a2 J c2) (.slice (some ⟨wr.heap.size, 0, none⟩) 1 1) (by simp [Act.eval]) (by simp [Act.eval]) _ _ (HAP.out _) ?_))
          go_roundg (32 - (J + 1))
          case measure => omega
          case rel => exact ⟨J + 1, c', a', by omega, by omega, rfl, by first | rfl | (congr 1), HN⟩
        · obtain rfl : J = 32 := by omega
          have hB := HJ.out.slr
          have hNB : Nw w1 wr := by obtain ⟨_, _, _, _, hh⟩ := HJ.out; exact hh
          rw [List.take_of_length_le (by unfold fixB; rw [List.length_replicate]; omega)] at hB
          obtain ⟨hA, hNA⟩ := HA.out
          have HF : Hid (P (.returned (.tuple #[.slice a 288 c, .slice a2 32 c2])) wr) := HP.out _ _ _ _ _ ((hA.nw hNB).mono (fun g hg => by
            rcases hg with hg | hg
            · exact .inl hg
            · exact .inr (Nat.le_trans hNB.size hg))) (hB.mono (fun g hg => by
            rcases hg with hg | hg
            · exact .inl (Nat.lt_of_lt_of_le hg hNA.size)
            · exact .inr hg)) (hNA.trans hNB)
          clear HJ HA HP hB hNB hA hNA
          go_wp2_with fail
          exact HF.out
end Go.Proofs.YtincbbnppcpfpaaDoor

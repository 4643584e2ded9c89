import Derived.Test.YtincbbnppcpfpaaDoorTae
namespace Go.Proofs.YtincbbnppcpfpaaDoor
open Go.RowKit
set_option linter.unusedVariables false
theorem zeros_ow (w : World) (n G : Nat) (hG : n ≤ G) (hc : G < 9223372036854775808) : Ow w.heap.size (.slice (some ⟨w.heap.size, 0, none⟩) 0 G) [] (w.drew.alloc (.cells (Builtin.zeroCells (Value.int .u8 0).cells n ++ Builtin.zeroCells (Value.int .u8 0).cells (G - n)) 5)) := by
  refine ⟨List.replicate G 0#8, by simp, by simp, by simp, by simpa using hc, ?_⟩
  show (w.drew.heap.push _)[w.heap.size]? = _
  rw [zeroB, zeroB]
  have e : w.drew.heap = w.heap := rfl
  rw [e]
  simp
  omega
set_option maxHeartbeats 8000000 in
set_option maxRecDepth 100000 in
theorem grow_any (w : World) (n : Nat) (hn : n ≤ 200000000000000) : Calls Tryd.prog 52 #[.slice none 0 0, .int .i64 n] w fun e w' => ∃ a c, e = .returned (.slice a 0 c) ∧ Mine (fun k => k < w.heap.size) (.slice a 0 c) [] w' ∧ Nw w w' := by
  obtain ⟨P, hP⟩ : ∃ P : Ending → World → Prop, P = fun e w' => ∃ a c, e = .returned (.slice a 0 c) ∧ Mine (fun k => k < w.heap.size) (.slice a 0 c) [] w' ∧ Nw w w' := ⟨_, rfl⟩
  rw [← hP]
  have HP : Hid (P = fun e w' => ∃ a c, e = .returned (.slice a 0 c) ∧ Mine (fun k => k < w.heap.size) (.slice a 0 c) [] w' ∧ Nw w w') := hP
  clear hP
  by_cases h0 : n = 0
  · subst h0
    have HF : Hid (P (.returned (.slice none 0 0)) w) := by
      show P _ _
      rw [HP.out]
      exact ⟨_, _, rfl, .inl ⟨rfl, rfl⟩, Fr.refl _ _⟩
    clear HP
    go_enter Tryd.func52, Tryd.ntmps52
    go_wp2
    exact HF.out
  · obtain ⟨i, hi, hz, hs, hby⟩ := infoB
    have hrun := fun ty => Lib.run_append_nil_zeros w 22 3 ty 5 i (.int .u8 0) .i64 .i64 Tryd.underlying22 Tryd.underlying3 hi hz n (by omega) (by omega) (by omega) (by rw [hby]; omega)
    have hge := grownCap_ge w n 0 5
    have hle := grownCap_le_maxLen w n 0 5 (by unfold maxLen; omega)
    unfold maxLen at hle
    generalize grownCap w n 0 5 = G at *
    obtain ⟨W, hW⟩ : ∃ W, W = w.drew.alloc (.cells (Builtin.zeroCells (Value.int .u8 0).cells n ++ Builtin.zeroCells (Value.int .u8 0).cells (G - n)) 5) := ⟨_, rfl⟩
    rw [← hW] at hrun
    have HF : Hid (P (.returned (.slice (some ⟨w.heap.size, 0, none⟩) 0 G)) W) := by
      show P _ _
      rw [HP.out]
      refine ⟨_, _, rfl, .inr ⟨w.heap.size, by omega, ?_⟩, ?_⟩
      · rw [hW]; exact zeros_ow w n G (by omega) (by omega)
      · rw [hW]; exact (Fr.refl _ _).drew.alloc _
    have HAP : Hid (∀ ty, (Builtin.append_ #[22, 3] ty #[.slice none 0 0, .int .i64 n]).run Tryd.prog w = .ok (.slice (some ⟨w.heap.size, 0, none⟩) n G) W) := hrun
    have hz0 : ¬ (n : Int) < 0 := by omega
    have hz1 : (0 : Int) < (n : Int) := by omega
    clear HP hrun hW hi hz hs hby
    go_enter Tryd.func52, Tryd.ntmps52
    go_wp2_with (first
      | (at_builtin; refine Lib.wpList_append_run _ rfl _ _ 22 3 rfl (.slice none 0 0) (.int .i64 n) (by simp [Act.eval]) (by simp [Act.eval]) _ _ (HAP.out _) ?_))
    exact HF.out
set_option maxHeartbeats 8000000 in
set_option maxRecDepth 100000 in
theorem concat_any (w : World) (g : Nat) (va vp : Value) (a p : List By) (hg : g < w.heap.size) (c0 : w.cell? ⟨g, 0, none⟩ = some va) (c1 : w.cell? ⟨g, 1, none⟩ = some vp) (ha : Sl (fun k => w.heap.size ≤ k) va a w) (hp : Sl (fun k => w.heap.size ≤ k) vp p w) (hs : a.length + p.length ≤ 200000000000000) :
    Calls Tryd.prog 42 #[.slice (some ⟨g, 0, none⟩) 2 2] w fun e w' => ∃ a' c', e = .returned (.slice a' (a ++ p).length c') ∧ Mine (fun k => k < w.heap.size) (.slice a' (a ++ p).length c') (a ++ p) w' ∧ Nw w w' := by
  obtain ⟨P, hP⟩ : ∃ P : Ending → World → Prop, P = fun e w' => ∃ a' c', e = .returned (.slice a' (a ++ p).length c') ∧ Mine (fun k => k < w.heap.size) (.slice a' (a ++ p).length c') (a ++ p) w' ∧ Nw w w' := ⟨_, rfl⟩
  rw [← hP]
  have HP : Hid (P = fun e w' => ∃ a' c', e = .returned (.slice a' (a ++ p).length c') ∧ Mine (fun k => k < w.heap.size) (.slice a' (a ++ p).length c') (a ++ p) w' ∧ Nw w w') := hP
  clear hP
  obtain ⟨aa, ac, rfl, _, _⟩ := ha.form
  obtain ⟨pa, pc, rfl, _, _⟩ := hp.form
  have hN0 : ∀ {V}, Nw w V → Fr (fun k => ¬ k < w.heap.size) w V := fun h => h.any
  -- from what Grow gives to the end
  have HG : Hid (Calls Tryd.prog 52 #[.slice none 0 0, .int .i64 (a.length + p.length : Nat)] w fun e w1 => ∃ a1 d1, e = .returned (.slice a1 0 d1) ∧ w1.cell? ⟨g, 0, none⟩ = some (.slice aa a.length ac) ∧ ∃ a2 d2 W2, Hid (∀ ty, (Builtin.append_ #[22, 22] ty #[.slice a1 0 d1, .slice aa a.length ac]).run Tryd.prog w1 = .ok (.slice a2 a.length d2) W2) ∧ W2.cell? ⟨g, 1, none⟩ = some (.slice pa p.length pc) ∧ ∃ a3 d3 W3, Hid (∀ ty, (Builtin.append_ #[22, 22] ty #[.slice a2 a.length d2, .slice pa p.length pc]).run Tryd.prog W2 = .ok (.slice a3 (a ++ p).length d3) W3) ∧ Hid (P (.returned (.slice a3 (a ++ p).length d3)) W3)) := by
    show Calls _ _ _ _ _
    refine (grow_any w _ (by omega)).mono ?_
    rintro e w1 ⟨a1, d1, rfl, hM1, hN1⟩
    refine ⟨a1, d1, rfl, hN1.cell c0, ?_⟩
    obtain ⟨v2, W2, hap2, hM2, hF2⟩ := mine_app (fun k => k < w.heap.size) w1 (fun k hk => Nat.lt_of_lt_of_le hk hN1.size) _ [] hM1 (.slice aa a.length ac) a ((ha.nw hN1).mono (fun _ h => h.elim)) (by simp; omega)
    rw [List.nil_append] at hM2
    obtain ⟨a2, d2, rfl, _, _⟩ := hM2.sl.form
    have hN2 : Nw w W2 := Fr.then hN1 hF2 (fun k hk => .inr (by omega))
    refine ⟨a2, d2, W2, hap2, hN2.cell c1, ?_⟩
    obtain ⟨v3, W3, hap3, hM3, hF3⟩ := mine_app (fun k => k < w.heap.size) W2 (fun k hk => Nat.lt_of_lt_of_le hk hN2.size) _ a hM2 (.slice pa p.length pc) p ((hp.nw hN2).mono (fun _ h => h.elim)) (by omega)
    obtain ⟨a3, d3, rfl, _, _⟩ := hM3.sl.form
    refine ⟨a3, d3, W3, hap3, ?_⟩
    show P _ _
    rw [HP.out]
    exact ⟨a3, d3, rfl, hM3, Fr.then hN2 hF3 (fun k hk => .inr (by omega))⟩
  clear HP ha hp hN0
  generalize (a ++ p).length = T at *
  generalize a.length = A at *
  generalize p.length = N at *
  generalize hSN : A + N = SN at *
  go_enter Tryd.func42, Tryd.ntmps42
  go_wp2
  go_loopg [3, 11] 3 (fun kx s i wr => wr = w ∧ ∃ I S : Nat, 3 - I ≤ kx ∧ s = .int .i64 S ∧ i = .int .i64 I ∧ ((I = 0 ∧ S = 0) ∨ (I = 1 ∧ S = A) ∨ (I = 2 ∧ S = SN)))
  case atStart => exact ⟨rfl, 0, 0, by omega, rfl, rfl, .inl ⟨rfl, rfl⟩⟩
  case round =>
    obtain ⟨rfl, I, S, hkx, rfl, rfl, hI⟩ := hrel
    rcases hI with ⟨rfl, rfl⟩ | ⟨rfl, rfl⟩ | ⟨rfl, rfl⟩
    · clear HG
      have hz : ¬ (A : Int) < 0 := by omega
      go_wp2
      go_roundg 2
      all_goals (first | omega | exact ⟨rfl, 1, A, by omega, rfl, rfl, .inr (.inl ⟨rfl, rfl⟩)⟩)
    · clear HG
      have hz : (S : Int) + (N : Int) = (SN : Int) := by omega
      have hz1 : ¬ (SN : Int) < 0 := by omega
      go_wp2
      go_roundg 1
      all_goals (first | omega | exact ⟨rfl, 2, SN, by omega, rfl, rfl, .inr (.inr ⟨rfl, rfl⟩)⟩)
    · go_wp2_with (first
        | (go_at_call 52; with_reducible refine (HG.out).mono ?_; rintro e w1 ⟨a1, d1, rfl, x0, a2, d2, W2, HAP2, x1, a3, d3, W3, HAP3, HF⟩))
      go_loopg [6, 27] 3 (fun kx v i wr => ∃ I : Nat, 3 - I ≤ kx ∧ i = .int .i64 I ∧ ((I = 0 ∧ v = .slice a1 0 d1 ∧ wr = w1) ∨ (I = 1 ∧ v = .slice a2 A d2 ∧ wr = W2) ∨ (I = 2 ∧ v = .slice a3 T d3 ∧ wr = W3)))
      case atStart => exact ⟨0, by omega, rfl, .inl ⟨rfl, rfl, rfl⟩⟩
      case round =>
        obtain ⟨I, hkx, rfl, hI⟩ := hrel
        rcases hI with ⟨rfl, rfl, rfl⟩ | ⟨rfl, rfl, rfl⟩ | ⟨rfl, rfl, rfl⟩
        · go_wp2_with (first
            | (at_builtin; refine Lib.wpList_append_run _ rfl _ _ 22 22 rfl (.slice a1 0 d1) (.slice aa A ac) (by simp [Act.eval]) (by simp [Act.eval]) _ _ (HAP2.out _) ?_))
          go_roundg 2
          all_goals (first | omega | exact ⟨1, by omega, rfl, .inr (.inl ⟨rfl, rfl, rfl⟩)⟩)
        · go_wp2_with (first
            | (at_builtin; refine Lib.wpList_append_run _ rfl _ _ 22 22 rfl (.slice a2 A d2) (.slice pa N pc) (by simp [Act.eval]) (by simp [Act.eval]) _ _ (HAP3.out _) ?_))
          go_roundg 1
          all_goals (first | omega | exact ⟨2, by omega, rfl, .inr (.inr ⟨rfl, rfl, rfl⟩)⟩)
        · go_wp2_with fail
          exact HF.out
end Go.Proofs.YtincbbnppcpfpaaDoor

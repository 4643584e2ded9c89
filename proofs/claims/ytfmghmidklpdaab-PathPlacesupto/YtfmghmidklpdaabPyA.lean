import Derived.Test.YtfmghmidklpdaabPxA
namespace Go.Proofs.Ytfmghmidklpdaab
open Go.RowKit
set_option linter.unusedVariables false
/-- A list of the call's own, none of whose blocks was there before. -/
def NewS (w : World) (a : Option Addr) (n c : Nat) (l : List Tx) (w' : World) : Prop := ∃ og, OgR RS og (.slice a n c) l w' ∧ (∀ g, og = some g → w.heap.size ≤ g) ∧ Nw w w'
theorem NewS.len {w w' : World} {l : List Tx} {a : Option Addr} {n c : Nat} (h : NewS w a n c l w') : l.length = n ∧ n ≤ c ∧ c < 9223372036854775808 := by
  obtain ⟨og, h1, _⟩ := h
  exact og_len h1
theorem NewS.sl {w w' : World} {l : List Tx} {a : Option Addr} {n c : Nat} (h : NewS w a n c l w') : SlR RS (fun _ => False) (.slice a n c) l w' := by
  obtain ⟨og, h1, _⟩ := h
  exact (h1.slr rsOk).any
theorem NewS.nw {w w' : World} {l : List Tx} {a : Option Addr} {n c : Nat} (h : NewS w a n c l w') : Nw w w' := by
  obtain ⟨og, _, _, h3⟩ := h
  exact h3
theorem NewS.on {w w' w'' : World} {l : List Tx} {a : Option Addr} {n c : Nat} (h : NewS w a n c l w') (k : Nw w' w'') : NewS w a n c l w'' := by
  obtain ⟨og, h1, h2, h3⟩ := h
  exact ⟨og, h1.nw k, h2, h3.trans k⟩
theorem NewS.from {w0 w w' : World} {l : List Tx} {a : Option Addr} {n c : Nat} (h : NewS w a n c l w') (k : Nw w0 w) : NewS w0 a n c l w' := by
  obtain ⟨og, h1, h2, h3⟩ := h
  exact ⟨og, h1, fun g hg => Nat.le_trans k.size (h2 g hg), k.trans h3⟩
theorem NewS.none (w : World) : NewS w .none 0 0 [] w := ⟨.none, ⟨rfl, rfl⟩, fun g hg => (by cases hg), Fr.refl _ _⟩
theorem NewS.app {w w' : World} {l : List Tx} {a : Option Addr} {n c : Nat} (h : NewS w a n c l w') (x : Value) (m : List Tx) (hx : SlR RS (fun _ => False) x m w') (hb : l.length + m.length ≤ 1000000000000) :
    ∃ a' c' W, Hid (∀ ty, (Builtin.append_ #[22, 22] ty #[.slice a n c, x]).run Try.prog w' = .ok (.slice a' (l ++ m).length c') W) ∧ NewS w a' (l ++ m).length c' (l ++ m) W := by
  obtain ⟨og, h1, h2, h3⟩ := h
  obtain ⟨v', og', W, k1, k2, k3, k4⟩ := ogR_app rsOk w' og _ l h1 x m hx (by simp only [RS]; omega) (by omega)
  obtain ⟨a', c', e, q1, q2⟩ := k2.form
  subst e
  refine ⟨a', c', W, k1, og', k2, fun g hg => ?_, Fr.then h3 k3 (fun i hi => .inr (h2 i hi))⟩
  rcases k4 with e | ⟨g2, e, hg2⟩
  · exact h2 g (by rw [← e]; exact hg)
  · rw [e] at hg; injection hg with hg; subst hg
    exact Nat.le_trans h3.size hg2
theorem infoS : ∃ i, Try.prog.info? 9 = some i ∧ i.zero = some (.string (mk [])) ∧ i.size = 1 ∧ i.bytes = 16 := by
  have h : (Try.prog.info? 9).map (fun i => (i.zero, i.size, i.bytes)) = some (some (.string (mk [])), 1, 16) := by kernel_rfl
  cases hq : Try.prog.info? 9 with
  | none => simp [hq] at h
  | some i => simp [hq] at h; exact ⟨i, rfl, h.1, h.2.1, h.2.2⟩
theorem zerosS (w : World) (n G : Nat) (hG : n ≤ G) (hc : G < 9223372036854775808) : OwR RS w.heap.size (.slice (some ⟨w.heap.size, 0, none⟩) 0 G) [] (w.drew.alloc (.cells (Builtin.zeroCells (Value.string (mk [])).cells n ++ Builtin.zeroCells (Value.string (mk [])).cells (G - n)) 9)) := by
  refine ⟨List.replicate G [], by simp, by simp, by simp, by simpa using hc, ?_⟩
  have hz : (Value.string (mk [])).cells = (RS.enc RS.z).toArray := rfl
  show (w.drew.heap.push _)[w.heap.size]? = _
  rw [zeroR rsOk _ hz, zeroR rsOk _ hz]
  have e : w.drew.heap = w.heap := rfl
  rw [e]
  have e2 : (flatR RS (List.replicate n RS.z)).toArray ++ (flatR RS (List.replicate (G - n) RS.z)).toArray = (flatR RS (List.replicate G ([] : Tx))).toArray := by
    have : List.replicate G ([] : Tx) = List.replicate n RS.z ++ List.replicate (G - n) RS.z := by
      rw [List.replicate_append_replicate]
      show List.replicate G ([] : Tx) = List.replicate _ ([] : Tx)
      congr 1; omega
    rw [this, flatR_append]; simp
  rw [e2]
  show (w.heap.push _)[w.heap.size]? = _
  rw [Array.getElem?_push_size]
  rfl
set_option maxHeartbeats 8000000 in
set_option maxRecDepth 100000 in
theorem growS_any (w : World) (n : Nat) (hn : n ≤ 1000000000000) : Calls Try.prog 19 #[.slice none 0 0, .int .i64 n] w fun e w' => ∃ a c, e = .returned (.slice a 0 c) ∧ NewS w a 0 c [] w' := by
  obtain ⟨P, hP⟩ : ∃ P : Ending → World → Prop, P = fun e w' => ∃ a c, e = .returned (.slice a 0 c) ∧ NewS w a 0 c [] w' := ⟨_, rfl⟩
  rw [← hP]
  by_cases h0 : n = 0
  · subst h0
    have HF : Hid (P (.returned (.slice none 0 0)) w) := by
      show P _ _
      rw [hP]
      exact ⟨_, _, rfl, NewS.none w⟩
    clear hP
    go_enter Try.func19, Try.ntmps19
    go_wp2
    exact HF.out
  · obtain ⟨i, hi, hz, hs, hby⟩ := infoS
    have hrun := fun ty => Lib.run_append_nil_zeros w 22 3 ty 9 i (.string (mk [])) .i64 .i64 Try.underlying22 Try.underlying3 hi hz n (by omega) (by omega) (by omega) (by rw [hby]; omega)
    have hge := grownCap_ge w n 0 9
    have hle := grownCap_le_maxLen w n 0 9 (by unfold maxLen; omega)
    unfold maxLen at hle
    generalize grownCap w n 0 9 = G at *
    obtain ⟨W, hW⟩ : ∃ W, W = w.drew.alloc (.cells (Builtin.zeroCells (Value.string (mk [])).cells n ++ Builtin.zeroCells (Value.string (mk [])).cells (G - n)) 9) := ⟨_, rfl⟩
    rw [← hW] at hrun
    have HF : Hid (P (.returned (.slice (some ⟨w.heap.size, 0, none⟩) 0 G)) W) := by
      show P _ _
      rw [hP]
      refine ⟨_, _, rfl, some w.heap.size, ?_, fun g hg => by injection hg with hg; omega, ?_⟩
      · rw [hW]; exact zerosS w n G (by omega) (by omega)
      · rw [hW]; exact (Fr.refl _ _).drew.alloc _
    have HAP : Hid (∀ ty, (Builtin.append_ #[22, 3] ty #[.slice none 0 0, .int .i64 n]).run Try.prog w = .ok (.slice (some ⟨w.heap.size, 0, none⟩) n G) W) := hrun
    have hz0 : ¬ (n : Int) < 0 := by omega
    have hz1 : (0 : Int) < (n : Int) := by omega
    clear hP hrun hW hi hz hs hby
    go_enter Try.func19, Try.ntmps19
    go_wp2_with (first
      | (at_builtin; refine Lib.wpList_append_run _ rfl _ _ 22 3 rfl (.slice none 0 0) (.int .i64 n) (by simp [Act.eval]) (by simp [Act.eval]) _ _ (HAP.out _) ?_))
    exact HF.out
set_option maxHeartbeats 8000000 in
set_option maxRecDepth 100000 in
theorem concatS_any (w : World) (g : Nat) (aa pa : Option Addr) (ac pc : Nat) (a p : List Tx) (c0 : w.cell? ⟨g, 0, none⟩ = some (.slice aa a.length ac)) (c1 : w.cell? ⟨g, 1, none⟩ = some (.slice pa p.length pc)) (ha : SlR RS (fun _ => False) (.slice aa a.length ac) a w) (hp : SlR RS (fun _ => False) (.slice pa p.length pc) p w) (hs : a.length + p.length ≤ 1000000000000) :
    Calls Try.prog 10 #[.slice (some ⟨g, 0, none⟩) 2 2] w fun e w' => ∃ a' c', e = .returned (.slice a' (a ++ p).length c') ∧ NewS w a' (a ++ p).length c' (a ++ p) w' := by
  obtain ⟨P, hP⟩ : ∃ P : Ending → World → Prop, P = fun e w' => ∃ a' c', e = .returned (.slice a' (a ++ p).length c') ∧ NewS w a' (a ++ p).length c' (a ++ p) w' := ⟨_, rfl⟩
  rw [← hP]
  have HG : Hid (Calls Try.prog 19 #[.slice none 0 0, .int .i64 (a.length + p.length : Nat)] w fun e w1 => ∃ a1 d1, e = .returned (.slice a1 0 d1) ∧ w1.cell? ⟨g, 0, none⟩ = some (.slice aa a.length ac) ∧ ∃ a2 d2 W2, Hid (∀ ty, (Builtin.append_ #[22, 22] ty #[.slice a1 0 d1, .slice aa a.length ac]).run Try.prog w1 = .ok (.slice a2 a.length d2) W2) ∧ W2.cell? ⟨g, 1, none⟩ = some (.slice pa p.length pc) ∧ ∃ a3 d3 W3, Hid (∀ ty, (Builtin.append_ #[22, 22] ty #[.slice a2 a.length d2, .slice pa p.length pc]).run Try.prog W2 = .ok (.slice a3 (a ++ p).length d3) W3) ∧ Hid (P (.returned (.slice a3 (a ++ p).length d3)) W3)) := by
    show Calls _ _ _ _ _
    refine (growS_any w _ (by omega)).mono ?_
    rintro e w1 ⟨a1, d1, rfl, hM1⟩
    refine ⟨a1, d1, rfl, hM1.nw.cell c0, ?_⟩
    obtain ⟨a2, d2, W2, hap2, hM2⟩ := hM1.app _ a (ha.nw hM1.nw) (by simp; omega)
    rw [List.nil_append] at hap2 hM2
    refine ⟨a2, d2, W2, hap2, hM2.nw.cell c1, ?_⟩
    obtain ⟨a3, d3, W3, hap3, hM3⟩ := hM2.app _ p (hp.nw hM2.nw) (by omega)
    refine ⟨a3, d3, W3, hap3, ?_⟩
    show P _ _
    rw [hP]
    exact ⟨a3, d3, rfl, hM3⟩
  obtain ⟨_, _, e, _, _⟩ := ha.form
  clear e
  clear hP ha hp
  generalize (a ++ p).length = T at *
  generalize a.length = A at *
  generalize p.length = N at *
  generalize hSN : A + N = SN at *
  go_enter Try.func10, Try.ntmps10
  go_wp2
  go_loopg [3, 11] 3 (fun kx s i wr => wr = w ∧ ∃ I S : Nat, 3 - I ≤ kx ∧ s = .int .i64 S ∧ i = .int .i64 I ∧ ((I = 0 ∧ S = 0) ∨ (I = 1 ∧ S = A) ∨ (I = 2 ∧ S = SN)))
  case atStart => exact ⟨rfl, 0, 0, by omega, rfl, rfl, .inl ⟨rfl, rfl⟩⟩
  case round =>
    obtain ⟨rfl, I, S, hkx, rfl, rfl, hI⟩ := hrel
    rcases hI with ⟨rfl, rfl⟩ | ⟨rfl, rfl⟩ | ⟨rfl, rfl⟩
    · clear HG
      have hz : ¬ (A : Int) < 0 := by omega
      go_wp2
      go_roundg 2
      all_goals (first | omega | exact ⟨rfl, 1, A, by omega, rfl, rfl, .inr (.inl ⟨rfl, rfl⟩)⟩)
    · clear HG
      have hz : (S : Int) + (N : Int) = (SN : Int) := by omega
      have hz1 : ¬ (SN : Int) < 0 := by omega
      go_wp2
      go_roundg 1
      all_goals (first | omega | exact ⟨rfl, 2, SN, by omega, rfl, rfl, .inr (.inr ⟨rfl, rfl⟩)⟩)
    · go_wp2_with (first
        | (go_at_call 19; with_reducible refine (HG.out).mono ?_; rintro e w1 ⟨a1, d1, rfl, x0, a2, d2, W2, HAP2, x1, a3, d3, W3, HAP3, HF⟩))
      go_loopg [6, 27] 3 (fun kx v i wr => ∃ I : Nat, 3 - I ≤ kx ∧ i = .int .i64 I ∧ ((I = 0 ∧ v = .slice a1 0 d1 ∧ wr = w1) ∨ (I = 1 ∧ v = .slice a2 A d2 ∧ wr = W2) ∨ (I = 2 ∧ v = .slice a3 T d3 ∧ wr = W3)))
      case atStart => exact ⟨0, by omega, rfl, .inl ⟨rfl, rfl, rfl⟩⟩
      case round =>
        obtain ⟨I, hkx, rfl, hI⟩ := hrel
        rcases hI with ⟨rfl, rfl, rfl⟩ | ⟨rfl, rfl, rfl⟩ | ⟨rfl, rfl, rfl⟩
        · go_wp2_with (first
            | (at_builtin; refine Lib.wpList_append_run _ rfl _ _ 22 22 rfl (.slice a1 0 d1) (.slice aa A ac) (by simp [Act.eval]) (by simp [Act.eval]) _ _ (HAP2.out _) ?_))
          go_roundg 2
          all_goals (first | omega | exact ⟨1, by omega, rfl, .inr (.inl ⟨rfl, rfl, rfl⟩)⟩)
        · go_wp2_with (first
            | (at_builtin; refine Lib.wpList_append_run _ rfl _ _ 22 22 rfl (.slice a2 A d2) (.slice pa N pc) (by simp [Act.eval]) (by simp [Act.eval]) _ _ (HAP3.out _) ?_))
          go_roundg 1
          all_goals (first | omega | exact ⟨2, by omega, rfl, .inr (.inr ⟨rfl, rfl, rfl⟩)⟩)
        · go_wp2_with fail
          exact HF.out
end Go.Proofs.Ytfmghmidklpdaab

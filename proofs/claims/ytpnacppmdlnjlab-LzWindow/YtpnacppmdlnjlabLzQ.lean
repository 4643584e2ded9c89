import Derived.Test.YtpnacppmdlnjlabLzO
import Derived.Test.YtpnacppmdlnjlabLzM
namespace Go.Proofs.Ytpnacppmdlnjlab
open Go.RowKit
set_option linter.unusedVariables false
theorem Sl.open {D : Nat} {v : Value} {b : List By} {w : World} (h : Sl (fun k => D ≤ k) v b w) : ∃ a c, v = .slice a b.length c ∧ b.length ≤ c ∧ c < 9223372036854775808 ∧ (b ≠ [] → ∃ g o, a = some ⟨g, o, none⟩ ∧ g < D ∧ Rd g o b w) := by
  rcases h with ⟨a, rfl, rfl⟩ | ⟨g, hg, o, c, rfl, h1, h2, h3⟩
  · exact ⟨a, 0, rfl, by simp, by simp, fun h => absurd rfl h⟩
  · exact ⟨_, c, rfl, h1, h2, fun _ => ⟨g, o, rfl, by omega, h3⟩⟩
theorem canHold_yes (m : Int) (h0 : 0 ≤ m) (h1 : m ≤ 4194304) (w : World) : Calls Try.prog 8 #[.int .i64 m] w fun e w' => e = .returned (.bool true) ∧ w' = w := by
  go_enter Try.func8, Try.ntmps8
  go_wp2
  try go_ret
  exact ⟨by simp, rfl⟩
/-- What Decode answers. -/
def Decd (r : List By × Nat × Nat) (w : World) (e : Ending) (w' : World) : Prop :=
  ∃ a c, e = .returned (.tuple #[.slice a r.1.length c, .int .i64 r.2.1, .int .i64 r.2.2]) ∧ Mine (fun k => k < w.heap.size) (.slice a r.1.length c) r.1 w' ∧ Nw w w'
theorem Decd.none {x y : Nat} {w w' : World} (h : Nw w w') : Decd ([], x, y) w (.returned (.tuple #[.slice none 0 0, .int .i64 x, .int .i64 y])) w' := ⟨_, _, rfl, Mine.nil _ _, h⟩
set_option maxHeartbeats 8000000 in
set_option maxRecDepth 100000 in
theorem decode_any (w : World) (vb va : Value) (b ahead : List By) (most : Int) (hb : Old w vb b) (ha : Old w va ahead) (hbl : b.length ≤ 140737488351232) (hal : ahead.length ≤ 140737488351232) :
    Calls Try.prog 5 #[vb, va, .int .i64 most] w (Decd (dec b ahead most) w) := by
  obtain ⟨P, hP⟩ : ∃ P, P = Decd (dec b ahead most) w := ⟨_, rfl⟩
  rw [← hP]
  have HP : Hid (P = Decd (dec b ahead most) w) := hP
  clear hP
  by_cases hm : most < 0 ∨ 4194304 < most
  · have HF : Hid (P (.returned (.tuple #[.slice none 0 0, .int .i64 0, .int .i64 1])) w) := by
      show P _ _
      rw [HP.out, dec, if_pos hm]
      exact Decd.none (Fr.refl _ _)
    clear HP hb ha
    rcases hm with hm | hm
    · go_enter Try.func5, Try.ntmps5
      go_wp2
      exact HF.out
    · have h0 : 0 ≤ most := by omega
      have h1 : ¬ most ≤ 4194304 := by omega
      go_enter Try.func5, Try.ntmps5
      go_wp2
      exact HF.out
  · obtain ⟨m, rfl⟩ : ∃ m : Nat, most = m := ⟨most.toNat, by omega⟩
    have hml : m ≤ 4194304 := by omega
    obtain ⟨a, c, rfl, hc, hc2, hbo⟩ := hb.open
    obtain ⟨aa, ac, hva, hac, hac2, hao⟩ := ha.open
    obtain ⟨W1, hW1⟩ : ∃ W1, w.alloc (.cells #[va, .slice none 0 0, .int .i64 m] 34) = W1 := ⟨_, rfl⟩
    have hN1 : Nw w W1 := by rw [← hW1]; exact (Fr.refl _ _).alloc _
    have hPI : PI w.heap.size w.heap.size va ahead m [] (fun k => k < w.heap.size) W1 := by
      refine ⟨?_, ?_, ⟨_, ?_, Mine.nil _ _⟩, ?_, by simp, Nat.le_refl _, ha.nw hN1, by simp, hml, hal⟩
      all_goals rw [← hW1]
      · exact new_cell _ _ _ _ _ rfl
      · exact new_cell _ _ _ _ _ rfl
      · exact new_cell _ _ _ _ _ rfl
      · exact new_frozen _ _ _ _
    have HS := scan_any (player_tkr w.heap.size w.heap.size va ahead m) a c b [] W1 hN1.size (fun h => by
      obtain ⟨g, o, h1, h2, h3⟩ := hbo h
      exact ⟨g, o, h1, h2, h3.nw hN1⟩) hc hc2 hbl hPI
    obtain ⟨pb, hpb⟩ : ∃ pb, w.heap.size = pb := ⟨_, rfl⟩
    have hnw : ∀ w2, Fr (fun k => w.heap.size ≤ k) W1 w2 → Nw w w2 := fun w2 hF => hN1.then hF (fun i hi => .inr hi)
    have hdec : dec b ahead m = match scanS (pl ahead m) b.length b [] with | .bad a y => ([], a, y) | .good s => (s, 0, 0) := by
      rw [dec, if_neg hm]; rfl
    cases hsc : scanS (pl ahead m) b.length b [] with
    | bad x y =>
      have HS' : Hid (Calls Try.prog 9 #[.slice a b.length c, .iface 32 (.pointer (some ⟨pb, 0, none⟩))] W1 fun e w2 => e = .returned (.tuple #[.int .i64 x, .int .i64 y]) ∧ (¬ (y : Int) = 0) ∧ Hid (P (.returned (.tuple #[.slice none 0 0, .int .i64 x, .int .i64 y])) w2)) := by
        rw [hpb] at HS
        refine HS.mono ?_
        rw [hsc]
        rintro e w2 ⟨hF, rfl, hy⟩
        refine ⟨rfl, by omega, ?_⟩
        show P _ _
        rw [HP.out, hdec, hsc]
        exact Decd.none (hnw _ (by rw [hpb]; exact hF))
      clear HS HP hPI hb ha hbo hao hnw hdec hsc hN1
      subst hva
      have h0 : (0 : Int) ≤ (m : Int) := by omega
      have h1 : (m : Int) ≤ 4194304 := by omega
      go_enter Try.func5, Try.ntmps5
      have HC : Hid (Calls Try.prog 8 #[.int .i64 m] w fun e w' => e = .returned (.bool true) ∧ w' = w) := canHold_yes m h0 h1 w
      go_wp2_with (first | (go_at_call 8; with_reducible refine (HC.out).mono ?_; rintro e w3 ⟨rfl, rfl⟩) | (go_at_call 9; with_reducible refine (HS'.out).mono ?_; rintro e w2 ⟨rfl, hy, HF⟩))
      exact HF.out
    | good s =>
      have HS' : Hid (Calls Try.prog 9 #[.slice a b.length c, .iface 32 (.pointer (some ⟨pb, 0, none⟩))] W1 fun e w2 => e = .returned (.tuple #[.int .i64 0, .int .i64 0]) ∧ ∃ vo, w2.cell? ⟨pb, 1, none⟩ = some vo ∧ Hid (P (.returned (.tuple #[vo, .int .i64 0, .int .i64 0])) w2)) := by
        rw [hpb] at HS
        refine HS.mono ?_
        rw [hsc]
        rintro e w2 ⟨hF, rfl, hT⟩
        obtain ⟨vo, k1, k2⟩ := hT.out
        obtain ⟨a1, c1, rfl, _, _⟩ := k2.sl.form
        refine ⟨rfl, _, k1, ?_⟩
        show P _ _
        rw [HP.out, hdec, hsc]
        exact ⟨a1, c1, rfl, k2.more (fun g hg => .inl (.inl (by rw [← hpb]; exact hg))), hnw _ (by rw [hpb]; exact hF)⟩
      clear HS HP hPI hb ha hbo hao hnw hdec hsc hN1
      subst hva
      have h0 : (0 : Int) ≤ (m : Int) := by omega
      have h1 : (m : Int) ≤ 4194304 := by omega
      go_enter Try.func5, Try.ntmps5
      have HC : Hid (Calls Try.prog 8 #[.int .i64 m] w fun e w' => e = .returned (.bool true) ∧ w' = w) := canHold_yes m h0 h1 w
      go_wp2_with (first | (go_at_call 8; with_reducible refine (HC.out).mono ?_; rintro e w3 ⟨rfl, rfl⟩) | (go_at_call 9; with_reducible refine (HS'.out).mono ?_; rintro e w2 ⟨rfl, vo, hvo, HF⟩))
      exact HF.out
end Go.Proofs.Ytpnacppmdlnjlab

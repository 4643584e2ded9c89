import Derived.Test.YtdeefemeiggolaaQw
import Derived.Test.YtdeefemeiggolaaQa
import Derived.Lib.AppendZeros
namespace Go.Proofs.Ytdeefemeiggolaa
open Go.RowKit
set_option linter.unusedVariables false
/-- A copy: append([]byte{}, x...). -/
theorem copyB (w : World) (x : Value) (l : List By) (hx : Old w x l) (hl : l.length ≤ 200000000000000) : ∃ g c W, Hid (∀ ty, (Builtin.append_ #[22, 22] ty #[.slice (some ⟨w.heap.size, 0, none⟩) 0 0, x]).run Try.prog (w.alloc (.cells #[] 5)) = .ok (.slice (some ⟨g, 0, none⟩) l.length c) W) ∧ Ow g (.slice (some ⟨g, 0, none⟩) l.length c) l W ∧ w.heap.size ≤ g ∧ Nw w W := by
  obtain ⟨v, g, W, hap, hO, hF, hg⟩ := app_any (w.alloc (.cells #[] 5)) w.heap.size _ [] (Ow.empty w) x l ((hx.nw ((Fr.refl _ _).alloc _)).mono (fun _ h => h.elim)) (by simp; omega)
  rw [List.nil_append] at hO
  have hO' := hO
  obtain ⟨xs, rfl, _⟩ := hO'
  refine ⟨g, xs.length, W, hap, hO, ?_, Fr.then ((Fr.refl _ _).alloc _) hF (fun i hi => .inr (by omega))⟩
  rcases hg with h | h
  · omega
  · simp at h; omega
/-- What is refused has no bytes. -/
theorem fdec_bad (b : List By) (most : Int) (h : (fdec b most).2.2 ≠ 0) : (fdec b most).1 = [] := by
  unfold fdec at h ⊢
  split
  · rfl
  · rename_i h1
    rw [if_neg h1] at h
    cases hr : readF b most.toNat 0 [] [] with
    | bad a y => rfl
    | ok r => obtain ⟨o, fs⟩ := r; rw [hr] at h; simp at h
theorem fdec_ok {b : List By} {m : Nat} (hm : m ≤ 4194304) (h : (fdec b m).2.2 = 0) : ∃ out fs, readF b m 0 [] [] = .ok (out, fs) ∧ fdec b m = (out, b.length, 0) := by
  unfold fdec at h ⊢
  rw [if_neg (by omega)] at h ⊢
  rw [Int.toNat_natCast] at h ⊢
  cases hr : readF b m 0 [] [] with
  | bad a y => rw [hr] at h; exact absurd h (readF_bad hr)
  | ok r => obtain ⟨o, fs⟩ := r; exact ⟨o, fs, rfl, rfl⟩
theorem fdec_of {b : List By} {m : Nat} {out : List By} {fs : List Fm} (hm : m ≤ 4194304) (h : readF b m 0 [] [] = .ok (out, fs)) : fdec b m = (out, b.length, 0) := by
  unfold fdec
  rw [if_neg (by omega), Int.toNat_natCast, h]
/-- With other room. -/
theorem fdec_room {b : List By} {m : Nat} (hm : m ≤ 4194304) : ((fdec b m).2.2 = 0 → (fdec b m).1.length ≤ m ∧ fdec b 4194304 = fdec b m) ∧ ((fdec b m).2.2 ≠ 0 → (fdec b 4194304).2.2 = 0 → m < (fdec b 4194304).1.length) := by
  constructor
  · intro h
    obtain ⟨out, fs, h1, h2⟩ := fdec_ok hm h
    have hb := readF_bound (by simp) h1
    have h3 := readF_room hm (Nat.le_refl _) h1 (Nat.le_trans hb hm)
    have h4 := fdec_of (Nat.le_refl _) h3
    rw [h2]
    exact ⟨hb, h4⟩
  · intro h h0
    obtain ⟨out, fs, h1, h2⟩ := fdec_ok (m := 4194304) (Nat.le_refl _) h0
    have h2' : fdec b (4194304 : Int) = (out, b.length, 0) := h2
    rw [h2']
    show m < out.length
    by_cases hl : out.length ≤ m
    · have h3 := readF_room (Nat.le_refl _) hm h1 hl
      rw [fdec_of hm h3] at h
      exact absurd rfl h
    · omega
set_option maxHeartbeats 40000000 in
set_option maxRecDepth 100000 in
theorem fb_walk (w : World) (ab : Option Addr) (cb : Nat) (b : List By) (most : Int) (hb : Old w (.slice ab b.length cb) b) (hbl : b.length ≤ 140737488351232) :
    Calls Try.prog 6 #[.slice ab b.length cb, .int .i64 most] w fun e w' => e = .returned (.bool true) ∧ Nw w w' := by
  obtain ⟨P, hP⟩ : ∃ P : Ending → World → Prop, P = fun e w' => e = .returned (.bool true) ∧ Nw w w' := ⟨_, rfl⟩
  rw [← hP]
  have HT : Hid (∀ V, Nw w V → P (.returned (.bool true)) V) := fun V hV => by rw [hP]; exact ⟨rfl, hV⟩
  clear hP
  have HL : Hid (Calls Try.prog 21 #[] w fun e w1 => e = .returned (.bool true) ∧ ∃ g1 c1 W1, Hid (∀ ty, (Builtin.append_ #[22, 22] ty #[.slice (some ⟨w1.heap.size, 0, none⟩) 0 0, .slice ab b.length cb]).run Try.prog (w1.alloc (.cells #[] 5)) = .ok (.slice (some ⟨g1, 0, none⟩) b.length c1) W1) ∧ Hid (Calls Try.prog 15 #[.slice (some ⟨g1, 0, none⟩) b.length c1, .int .i64 most] W1 fun e w2 => ∃ a2 c2, e = .returned (.tuple #[.slice a2 (fdec b most).1.length c2, .int .i64 (fdec b most).2.1, .int .i64 (fdec b most).2.2]) ∧ Hid (Nw w w2 ∧ Old w2 (.slice a2 (fdec b most).1.length c2) (fdec b most).1) ∧ ∃ g3 c3 W3, Hid (∀ ty, (Builtin.append_ #[22, 22] ty #[.slice (some ⟨w2.heap.size, 0, none⟩) 0 0, .slice ab b.length cb]).run Try.prog (w2.alloc (.cells #[] 5)) = .ok (.slice (some ⟨g3, 0, none⟩) b.length c3) W3) ∧ Hid (Calls Try.prog 15 #[.slice (some ⟨g3, 0, none⟩) b.length c3, .int .i64 4194304] W3 fun e w4 => ∃ a4 c4, e = .returned (.tuple #[.slice a4 (fdec b 4194304).1.length c4, .int .i64 (fdec b 4194304).2.1, .int .i64 (fdec b 4194304).2.2]) ∧ (convert 22 9 (.slice a2 (fdec b most).1.length c2)).run Try.prog w4 = .ok (.string (str (fdec b most).1)) w4 ∧ (convert 22 9 (.slice a4 (fdec b 4194304).1.length c4)).run Try.prog w4 = .ok (.string (str (fdec b 4194304).1)) w4 ∧ Hid (Nw w w4)))) := by
    show Calls _ _ _ _ _
    refine (lives_any w).mono ?_
    rintro e w1 ⟨rfl, hN1⟩
    refine ⟨rfl, ?_⟩
    obtain ⟨g1, c1, W1, hap1, hO1, _, hNa⟩ := copyB w1 _ b (Sl.later hb hN1) (by omega)
    refine ⟨g1, c1, W1, hap1, ?_⟩
    show Calls _ _ _ _ _
    refine (fdecode_any W1 _ b most hO1.old hbl).mono ?_
    rintro e w2 ⟨a2, c2, rfl, hM2, hN2⟩
    have h2 : Nw w w2 := (hN1.trans hNa).trans hN2
    refine ⟨a2, c2, rfl, ⟨h2, hM2.old⟩, ?_⟩
    obtain ⟨g3, c3, W3, hap3, hO3, _, hNb⟩ := copyB w2 _ b (Sl.later hb h2) (by omega)
    refine ⟨g3, c3, W3, hap3, ?_⟩
    show Calls _ _ _ _ _
    refine (fdecode_any W3 _ b 4194304 hO3.old hbl).mono ?_
    rintro e w4 ⟨a4, c4, rfl, hM4, hN4⟩
    exact ⟨a4, c4, rfl, conv_any (Sl.later (Sl.later hM2.old hNb) hN4), conv_any hM4.old, (h2.trans hNb).trans hN4⟩
  by_cases hm : most < 0 ∨ 4194304 < most
  · have hf : fdec b most = ([], 0, 1) := by unfold fdec; rw [if_pos hm]
    rw [hf] at HL
    simp only [List.length_nil] at HL
    clear hb
    generalize b.length = L at *
    rcases hm with hm | hm
    · go_enter Try.func6, Try.ntmps6
      go_wp2_with (first | (go_at_call 21; with_reducible refine HL.out.mono ?_; rintro e w1 ⟨rfl, g1, c1, W1, HAP1, H2⟩) | (at_builtin; refine Lib.wpList_append_run _ rfl _ _ 22 22 rfl (.slice (some ⟨w1.heap.size, 0, none⟩) 0 0) (.slice ab L cb) (by simp [Act.eval]) (by simp [Act.eval]) _ _ (HAP1.out _) ?_) | (go_at_call 15; with_reducible refine H2.out.mono ?_; rintro e w2 ⟨a2, c2, rfl, K2, g3, c3, W3, HAP3, H4⟩))
      exact HT.out _ K2.out.1
    · have h0 : 0 ≤ most := by omega
      have h1 : ¬ most ≤ 4194304 := by omega
      go_enter Try.func6, Try.ntmps6
      go_wp2_with (first | (go_at_call 21; with_reducible refine HL.out.mono ?_; rintro e w1 ⟨rfl, g1, c1, W1, HAP1, H2⟩) | (at_builtin; refine Lib.wpList_append_run _ rfl _ _ 22 22 rfl (.slice (some ⟨w1.heap.size, 0, none⟩) 0 0) (.slice ab L cb) (by simp [Act.eval]) (by simp [Act.eval]) _ _ (HAP1.out _) ?_) | (go_at_call 15; with_reducible refine H2.out.mono ?_; rintro e w2 ⟨a2, c2, rfl, K2, g3, c3, W3, HAP3, H4⟩))
      exact HT.out _ K2.out.1
  · obtain ⟨m, rfl⟩ : ∃ m : Nat, most = m := ⟨most.toNat, by omega⟩
    have hml : m ≤ 4194304 := by omega
    obtain ⟨r1, r2⟩ := fdec_room (b := b) hml
    have z0 : ¬ (m : Int) < 0 := by omega
    have z1 : ¬ (4194304 : Int) < (m : Int) := by omega
    by_cases he : (fdec b m).2.2 = 0
    · obtain ⟨h1, h2⟩ := r1 he
      rw [h2] at HL
      obtain ⟨R, at', why, hdec⟩ : ∃ R at' why, fdec b m = (R, at', why) := ⟨_, _, _, rfl⟩
      rw [hdec] at HL he h1
      simp only at HL he h1
      subst he
      clear hb r1 r2 h2 hdec
      have hz : (R.length : Int) ≤ (m : Int) := by omega
      generalize hS : str R = S at *
      clear hS
      generalize R.length = rl at *
      generalize b.length = L at *
      go_enter Try.func6, Try.ntmps6
      go_wp2_with (first | (go_at_call 21; with_reducible refine HL.out.mono ?_; rintro e w1 ⟨rfl, g1, c1, W1, HAP1, H2⟩) | (at_builtin; refine Lib.wpList_append_run _ rfl _ _ 22 22 rfl (.slice (some ⟨w1.heap.size, 0, none⟩) 0 0) (.slice ab L cb) (by simp [Act.eval]) (by simp [Act.eval]) _ _ (HAP1.out _) ?_) | (go_at_call 15; with_reducible refine H2.out.mono ?_; rintro e w2 ⟨a2, c2, rfl, K2, g3, c3, W3, HAP3, H4⟩) | (at_builtin; refine Lib.wpList_append_run _ rfl _ _ 22 22 rfl (.slice (some ⟨w2.heap.size, 0, none⟩) 0 0) (.slice ab L cb) (by simp [Act.eval]) (by simp [Act.eval]) _ _ (HAP3.out _) ?_) | (go_at_call 15; with_reducible refine H4.out.mono ?_; rintro e w4 ⟨a4, c4, rfl, f1, f2, K4⟩))
      exact HT.out _ K4.out
    · have hnil := fdec_bad b m he
      have r2' := r2 he
      obtain ⟨R, at', why, hdec⟩ : ∃ R at' why, fdec b m = (R, at', why) := ⟨_, _, _, rfl⟩
      obtain ⟨R4, at4, why4, hdec4⟩ : ∃ R at' why, fdec b 4194304 = (R, at', why) := ⟨_, _, _, rfl⟩
      rw [hdec] at HL he hnil
      rw [hdec4] at HL r2'
      simp only at HL he hnil r2'
      subst hnil
      clear hb r1 r2 hdec hdec4
      rw [List.length_nil] at HL
      have he' : ¬ (why : Int) = 0 := by omega
      generalize hS : str [] = S at *
      clear hS
      generalize hS4 : str R4 = S4 at *
      clear hS4
      by_cases hf : why4 = 0
      · have hz := r2' hf
        have hz' : (m : Int) < (R4.length : Int) := by omega
        subst hf
        clear r2'
        generalize R4.length = rl at *
        generalize b.length = L at *
        go_enter Try.func6, Try.ntmps6
        go_wp2_with (first | (go_at_call 21; with_reducible refine HL.out.mono ?_; rintro e w1 ⟨rfl, g1, c1, W1, HAP1, H2⟩) | (at_builtin; refine Lib.wpList_append_run _ rfl _ _ 22 22 rfl (.slice (some ⟨w1.heap.size, 0, none⟩) 0 0) (.slice ab L cb) (by simp [Act.eval]) (by simp [Act.eval]) _ _ (HAP1.out _) ?_) | (go_at_call 15; with_reducible refine H2.out.mono ?_; rintro e w2 ⟨a2, c2, rfl, K2, g3, c3, W3, HAP3, H4⟩) | (at_builtin; refine Lib.wpList_append_run _ rfl _ _ 22 22 rfl (.slice (some ⟨w2.heap.size, 0, none⟩) 0 0) (.slice ab L cb) (by simp [Act.eval]) (by simp [Act.eval]) _ _ (HAP3.out _) ?_) | (go_at_call 15; with_reducible refine H4.out.mono ?_; rintro e w4 ⟨a4, c4, rfl, f1, f2, K4⟩))
        exact HT.out _ K4.out
      · have hz' : ¬ (why4 : Int) = 0 := by omega
        clear r2'
        generalize R4.length = rl at *
        generalize b.length = L at *
        go_enter Try.func6, Try.ntmps6
        go_wp2_with (first | (go_at_call 21; with_reducible refine HL.out.mono ?_; rintro e w1 ⟨rfl, g1, c1, W1, HAP1, H2⟩) | (at_builtin; refine Lib.wpList_append_run _ rfl _ _ 22 22 rfl (.slice (some ⟨w1.heap.size, 0, none⟩) 0 0) (.slice ab L cb) (by simp [Act.eval]) (by simp [Act.eval]) _ _ (HAP1.out _) ?_) | (go_at_call 15; with_reducible refine H2.out.mono ?_; rintro e w2 ⟨a2, c2, rfl, K2, g3, c3, W3, HAP3, H4⟩) | (at_builtin; refine Lib.wpList_append_run _ rfl _ _ 22 22 rfl (.slice (some ⟨w2.heap.size, 0, none⟩) 0 0) (.slice ab L cb) (by simp [Act.eval]) (by simp [Act.eval]) _ _ (HAP3.out _) ?_) | (go_at_call 15; with_reducible refine H4.out.mono ?_; rintro e w4 ⟨a4, c4, rfl, f1, f2, K4⟩))
        exact HT.out _ K4.out
end Go.Proofs.Ytdeefemeiggolaa

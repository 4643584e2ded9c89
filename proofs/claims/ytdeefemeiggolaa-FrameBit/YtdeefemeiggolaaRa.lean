import Derived.Test.YtdeefemeiggolaaQw
import Derived.Test.YtdeefemeiggolaaQa
import Derived.Lib.AppendZeros
import Derived.Test.YtdeefemeiggolaaQz
namespace Go.Proofs.Ytdeefemeiggolaa
open Go.RowKit
set_option linter.unusedVariables false
/-- A copy: append([]byte{}, x...). -/
theorem copyB (w : World) (x : Value) (l : List By) (hx : Old w x l) (hl : l.length ≤ 200000000000000) : ∃ g c W, Hid (∀ ty, (Builtin.append_ #[22, 22] ty #[.slice (some ⟨w.heap.size, 0, none⟩) 0 0, x]).run Try.prog (w.alloc (.cells #[] 5)) = .ok (.slice (some ⟨g, 0, none⟩) l.length c) W) ∧ Ow g (.slice (some ⟨g, 0, none⟩) l.length c) l W ∧ w.heap.size ≤ g ∧ Nw w W := by
  obtain ⟨v, g, W, hap, hO, hF, hg⟩ := app_any (w.alloc (.cells #[] 5)) w.heap.size _ [] (Ow.empty w) x l ((hx.nw ((Fr.refl _ _).alloc _)).mono (fun _ h => h.elim)) (by simp; omega)
  rw [List.nil_append] at hO
  have hO' := hO
  obtain ⟨xs, rfl, _⟩ := hO'
  refine ⟨g, xs.length, W, hap, hO, ?_, Fr.then ((Fr.refl _ _).alloc _) hF (fun i hi => .inr (by omega))⟩
  rcases hg with h | h
  · omega
  · simp at h; omega
/-- What is refused has no bytes. -/
theorem fdec_bad (b : List By) (most : Int) (h : (fdec b most).2.2 ≠ 0) : (fdec b most).1 = [] := by
  unfold fdec at h ⊢
  split
  · rfl
  · rename_i h1
    rw [if_neg h1] at h
    cases hr : readF b most.toNat 0 [] [] with
    | bad a y => rfl
    | ok r => obtain ⟨o, fs⟩ := r; rw [hr] at h; simp at h
theorem fdec_ok {b : List By} {m : Nat} (hm : m ≤ 4194304) (h : (fdec b m).2.2 = 0) : ∃ out fs, readF b m 0 [] [] = .ok (out, fs) ∧ fdec b m = (out, b.length, 0) := by
  unfold fdec at h ⊢
  rw [if_neg (by omega)] at h ⊢
  rw [Int.toNat_natCast] at h ⊢
  cases hr : readF b m 0 [] [] with
  | bad a y => rw [hr] at h; exact absurd h (readF_bad hr)
  | ok r => obtain ⟨o, fs⟩ := r; exact ⟨o, fs, rfl, rfl⟩
theorem fdec_of {b : List By} {m : Nat} {out : List By} {fs : List Fm} (hm : m ≤ 4194304) (h : readF b m 0 [] [] = .ok (out, fs)) : fdec b m = (out, b.length, 0) := by
  unfold fdec
  rw [if_neg (by omega), Int.toNat_natCast, h]
/-- With other room. -/
theorem fdec_room {b : List By} {m : Nat} (hm : m ≤ 4194304) : ((fdec b m).2.2 = 0 → (fdec b m).1.length ≤ m ∧ fdec b 4194304 = fdec b m) ∧ ((fdec b m).2.2 ≠ 0 → (fdec b 4194304).2.2 = 0 → m < (fdec b 4194304).1.length) := by
  constructor
  · intro h
    obtain ⟨out, fs, h1, h2⟩ := fdec_ok hm h
    have hb := readF_bound (by simp) h1
    have h3 := readF_room hm (Nat.le_refl _) h1 (Nat.le_trans hb hm)
    have h4 := fdec_of (Nat.le_refl _) h3
    rw [h2]
    exact ⟨hb, h4⟩
  · intro h h0
    obtain ⟨out, fs, h1, h2⟩ := fdec_ok (m := 4194304) (Nat.le_refl _) h0
    have h2' : fdec b (4194304 : Int) = (out, b.length, 0) := h2
    rw [h2']
    show m < out.length
    by_cases hl : out.length ≤ m
    · have h3 := readF_room (Nat.le_refl _) hm h1 hl
      rw [fdec_of hm h3] at h
      exact absurd rfl h
    · omega
set_option maxHeartbeats 40000000 in
set_option maxRecDepth 100000 in
theorem fb_walk (w : World) (ab : Option Addr) (cb : Nat) (b : List By) (most : Int) (hb : Old w (.slice ab b.length cb) b) (hbl : b.length ≤ 140737488351232) :
    Calls Try.prog 6 #[.slice ab b.length cb, .int .i64 most] w fun e w' => e = .returned (.bool true) ∧ Nw w w' := by
  obtain ⟨P, hP⟩ : ∃ P : Ending → World → Prop, P = fun e w' => e = .returned (.bool true) ∧ Nw w w' := ⟨_, rfl⟩
  rw [← hP]
  have HT : Hid (∀ V, Nw w V → P (.returned (.bool true)) V) := fun V hV => by rw [hP]; exact ⟨rfl, hV⟩
  clear hP
  have HL : Hid (Calls Try.prog 21 #[] w fun e w1 => e = .returned (.bool true) ∧ ∃ g1 c1 W1, Hid (∀ ty, (Builtin.append_ #[22, 22] ty #[.slice (some ⟨w1.heap.size, 0, none⟩) 0 0, .slice ab b.length cb]).run Try.prog (w1.alloc (.cells #[] 5)) = .ok (.slice (some ⟨g1, 0, none⟩) b.length c1) W1) ∧ Hid (Calls Try.prog 15 #[.slice (some ⟨g1, 0, none⟩) b.length c1, .int .i64 most] W1 fun e w2 => ∃ a2 c2, e = .returned (.tuple #[.slice a2 (fdec b most).1.length c2, .int .i64 (fdec b most).2.1, .int .i64 (fdec b most).2.2]) ∧ Hid (Nw w w2 ∧ Old w2 (.slice a2 (fdec b most).1.length c2) (fdec b most).1) ∧ ∃ g3 c3 W3, Hid (∀ ty, (Builtin.append_ #[22, 22] ty #[.slice (some ⟨w2.heap.size, 0, none⟩) 0 0, .slice ab b.length cb]).run Try.prog (w2.alloc (.cells #[] 5)) = .ok (.slice (some ⟨g3, 0, none⟩) b.length c3) W3) ∧ Hid (Calls Try.prog 15 #[.slice (some ⟨g3, 0, none⟩) b.length c3, .int .i64 4194304] W3 fun e w4 => ∃ a4 c4, e = .returned (.tuple #[.slice a4 (fdec b 4194304).1.length c4, .int .i64 (fdec b 4194304).2.1, .int .i64 (fdec b 4194304).2.2]) ∧ (convert 22 9 (.slice a2 (fdec b most).1.length c2)).run Try.prog w4 = .ok (.string (str (fdec b most).1)) w4 ∧ (convert 22 9 (.slice a4 (fdec b 4194304).1.length c4)).run Try.prog w4 = .ok (.string (str (fdec b 4194304).1)) w4 ∧ Hid (Nw w w4)))) := by
    show Calls _ _ _ _ _
    refine (lives_any w).mono ?_
    rintro e w1 ⟨rfl, hN1⟩
    refine ⟨rfl, ?_⟩
    obtain ⟨g1, c1, W1, hap1, hO1, _, hNa⟩ := copyB w1 _ b (Sl.later hb hN1) (by omega)
    refine ⟨g1, c1, W1, hap1, ?_⟩
    show Calls _ _ _ _ _
    refine (fdecode_any W1 _ b most hO1.old hbl).mono ?_
    rintro e w2 ⟨a2, c2, rfl, hM2, hN2⟩
    have h2 : Nw w w2 := (hN1.trans hNa).trans hN2
    refine ⟨a2, c2, rfl, ⟨h2, hM2.old⟩, ?_⟩
    obtain ⟨g3, c3, W3, hap3, hO3, _, hNb⟩ := copyB w2 _ b (Sl.later hb h2) (by omega)
    refine ⟨g3, c3, W3, hap3, ?_⟩
    show Calls _ _ _ _ _
    refine (fdecode_any W3 _ b 4194304 hO3.old hbl).mono ?_
    rintro e w4 ⟨a4, c4, rfl, hM4, hN4⟩
    exact ⟨a4, c4, rfl, conv_any (Sl.later (Sl.later hM2.old hNb) hN4), conv_any hM4.old, (h2.trans hNb).trans hN4⟩
  by_cases hm : most < 0 ∨ 4194304 < most
  · have hf : fdec b most = ([], 0, 1) := by unfold fdec; rw [if_pos hm]
    rw [hf] at HL
    simp only [List.length_nil] at HL
    clear hb
    generalize b.length = L at *
    rcases hm with hm | hm
    · go_enter Try.func6, Try.ntmps6
      go_wp2_with (first | (go_at_call 21; with_reducible refine HL.out.mono ?_; rintro e w1 ⟨rfl, g1, c1, W1, HAP1, H2⟩) | (at_builtin; refine Lib.wpList_append_run _ rfl _ _ 22 22 rfl (.slice (some ⟨w1.heap.size, 0, none⟩) 0 0) (.slice ab L cb) (by simp [Act.eval]) (by simp [Act.eval]) _ _ (HAP1.out _) ?_) | (go_at_call 15; with_reducible refine H2.out.mono ?_; rintro e w2 ⟨a2, c2, rfl, K2, g3, c3, W3, HAP3, H4⟩))
      exact HT.out _ K2.out.1
    · have h0 : 0 ≤ most := by omega
      have h1 : ¬ most ≤ 4194304 := by omega
      go_enter Try.func6, Try.ntmps6
      go_wp2_with (first | (go_at_call 21; with_reducible refine HL.out.mono ?_; rintro e w1 ⟨rfl, g1, c1, W1, HAP1, H2⟩) | (at_builtin; refine Lib.wpList_append_run _ rfl _ _ 22 22 rfl (.slice (some ⟨w1.heap.size, 0, none⟩) 0 0) (.slice ab L cb) (by simp [Act.eval]) (by simp [Act.eval]) _ _ (HAP1.out _) ?_) | (go_at_call 15; with_reducible refine H2.out.mono ?_; rintro e w2 ⟨a2, c2, rfl, K2, g3, c3, W3, HAP3, H4⟩))
      exact HT.out _ K2.out.1
  · obtain ⟨m, rfl⟩ : ∃ m : Nat, most = m := ⟨most.toNat, by omega⟩
    have hml : m ≤ 4194304 := by omega
    obtain ⟨r1, r2⟩ := fdec_room (b := b) hml
    have z0 : ¬ (m : Int) < 0 := by omega
    have z1 : ¬ (4194304 : Int) < (m : Int) := by omega
    by_cases he : (fdec b m).2.2 = 0
    · obtain ⟨h1, h2⟩ := r1 he
      rw [h2] at HL
      obtain ⟨R, at', why, hdec⟩ : ∃ R at' why, fdec b m = (R, at', why) := ⟨_, _, _, rfl⟩
      rw [hdec] at HL he h1
      simp only at HL he h1
      subst he
      clear hb r1 r2 h2 hdec
      have hz : (R.length : Int) ≤ (m : Int) := by omega
      generalize hS : str R = S at *
      clear hS
      generalize R.length = rl at *
      generalize b.length = L at *
      go_enter Try.func6, Try.ntmps6
      go_wp2_with (first | (go_at_call 21; with_reducible refine HL.out.mono ?_; rintro e w1 ⟨rfl, g1, c1, W1, HAP1, H2⟩) | (at_builtin; refine Lib.wpList_append_run _ rfl _ _ 22 22 rfl (.slice (some ⟨w1.heap.size, 0, none⟩) 0 0) (.slice ab L cb) (by simp [Act.eval]) (by simp [Act.eval]) _ _ (HAP1.out _) ?_) | (go_at_call 15; with_reducible refine H2.out.mono ?_; rintro e w2 ⟨a2, c2, rfl, K2, g3, c3, W3, HAP3, H4⟩) | (at_builtin; refine Lib.wpList_append_run _ rfl _ _ 22 22 rfl (.slice (some ⟨w2.heap.size, 0, none⟩) 0 0) (.slice ab L cb) (by simp [Act.eval]) (by simp [Act.eval]) _ _ (HAP3.out _) ?_) | (go_at_call 15; with_reducible refine H4.out.mono ?_; rintro e w4 ⟨a4, c4, rfl, f1, f2, K4⟩))
      exact HT.out _ K4.out
    · have hnil := fdec_bad b m he
      have r2' := r2 he
      obtain ⟨R, at', why, hdec⟩ : ∃ R at' why, fdec b m = (R, at', why) := ⟨_, _, _, rfl⟩
      obtain ⟨R4, at4, why4, hdec4⟩ : ∃ R at' why, fdec b 4194304 = (R, at', why) := ⟨_, _, _, rfl⟩
      rw [hdec] at HL he hnil
      rw [hdec4] at HL r2'
      simp only at HL he hnil r2'
      subst hnil
      clear hb r1 r2 hdec hdec4
      rw [List.length_nil] at HL
      have he' : ¬ (why : Int) = 0 := by omega
      generalize hS : str [] = S at *
      clear hS
      generalize hS4 : str R4 = S4 at *
      clear hS4
      by_cases hf : why4 = 0
      · have hz := r2' hf
        have hz' : (m : Int) < (R4.length : Int) := by omega
        subst hf
        clear r2'
        generalize R4.length = rl at *
        generalize b.length = L at *
        go_enter Try.func6, Try.ntmps6
        go_wp2_with (first | (go_at_call 21; with_reducible refine HL.out.mono ?_; rintro e w1 ⟨rfl, g1, c1, W1, HAP1, H2⟩) | (at_builtin; refine Lib.wpList_append_run _ rfl _ _ 22 22 rfl (.slice (some ⟨w1.heap.size, 0, none⟩) 0 0) (.slice ab L cb) (by simp [Act.eval]) (by simp [Act.eval]) _ _ (HAP1.out _) ?_) | (go_at_call 15; with_reducible refine H2.out.mono ?_; rintro e w2 ⟨a2, c2, rfl, K2, g3, c3, W3, HAP3, H4⟩) | (at_builtin; refine Lib.wpList_append_run _ rfl _ _ 22 22 rfl (.slice (some ⟨w2.heap.size, 0, none⟩) 0 0) (.slice ab L cb) (by simp [Act.eval]) (by simp [Act.eval]) _ _ (HAP3.out _) ?_) | (go_at_call 15; with_reducible refine H4.out.mono ?_; rintro e w4 ⟨a4, c4, rfl, f1, f2, K4⟩))
        exact HT.out _ K4.out
      · have hz' : ¬ (why4 : Int) = 0 := by omega
        clear r2'
        generalize R4.length = rl at *
        generalize b.length = L at *
        go_enter Try.func6, Try.ntmps6
        go_wp2_with (first | (go_at_call 21; with_reducible refine HL.out.mono ?_; rintro e w1 ⟨rfl, g1, c1, W1, HAP1, H2⟩) | (at_builtin; refine Lib.wpList_append_run _ rfl _ _ 22 22 rfl (.slice (some ⟨w1.heap.size, 0, none⟩) 0 0) (.slice ab L cb) (by simp [Act.eval]) (by simp [Act.eval]) _ _ (HAP1.out _) ?_) | (go_at_call 15; with_reducible refine H2.out.mono ?_; rintro e w2 ⟨a2, c2, rfl, K2, g3, c3, W3, HAP3, H4⟩) | (at_builtin; refine Lib.wpList_append_run _ rfl _ _ 22 22 rfl (.slice (some ⟨w2.heap.size, 0, none⟩) 0 0) (.slice ab L cb) (by simp [Act.eval]) (by simp [Act.eval]) _ _ (HAP3.out _) ?_) | (go_at_call 15; with_reducible refine H4.out.mono ?_; rintro e w4 ⟨a4, c4, rfl, f1, f2, K4⟩))
        exact HT.out _ K4.out
end Go.Proofs.Ytdeefemeiggolaa

namespace Go.Proofs.Ytdeefemeiggolaa
open Go.RowKit
set_option linter.unusedVariables false
/-! ### hand, Can -/
def mk5 : List By := [1#8, 2#8, 3#8, 4#8, 5#8]
set_option maxHeartbeats 4000000 in
set_option maxRecDepth 100000 in
theorem hand_any (w : World) (vb : Value) (b : List By) (hb : Old w vb b) (hbl : b.length ≤ 140737488351232) :
    Calls Try.prog 9 #[vb] w fun e w' => ∃ g c, e = .returned (.slice (some ⟨g, 0, none⟩) (b.length + 5) c) ∧ Ow g (.slice (some ⟨g, 0, none⟩) (b.length + 5) c) (b ++ mk5) w' ∧ w.heap.size ≤ g ∧ Nw w w' := by
  obtain ⟨P, hP⟩ : ∃ P : Ending → World → Prop, P = fun e w' => ∃ g c, e = .returned (.slice (some ⟨g, 0, none⟩) (b.length + 5) c) ∧ Ow g (.slice (some ⟨g, 0, none⟩) (b.length + 5) c) (b ++ mk5) w' ∧ w.heap.size ≤ g ∧ Nw w w' := ⟨_, rfl⟩
  rw [← hP]
  obtain ⟨g1, c1, W1, hap1, hO1, hg1, hN1⟩ := copyB w _ b hb (by omega)
  have hN2 : Nw W1 (W1.alloc (.cells #[.int .u8 1, .int .u8 2, .int .u8 3, .int .u8 4, .int .u8 5] 5)) := (Fr.refl _ _).alloc _
  have hB2 : Bw W1.heap.size mk5 (W1.alloc (.cells #[.int .u8 1, .int .u8 2, .int .u8 3, .int .u8 4, .int .u8 5] 5)) := by
    show (W1.heap.push _)[W1.heap.size]? = _
    rw [Array.getElem?_push_size]; rfl
  have hO2 : Ow W1.heap.size (.slice (some ⟨W1.heap.size, 0, none⟩) 5 5) mk5 (W1.alloc (.cells #[.int .u8 1, .int .u8 2, .int .u8 3, .int .u8 4, .int .u8 5] 5)) := ⟨mk5, rfl, rfl, by decide, by decide, hB2⟩
  obtain ⟨v3, g3, W3, hap3, hO3, hF3, hg3⟩ := app_any _ g1 _ b (hO1.nw hN2) _ mk5 (.inr ⟨_, fun h => h, hO2.slb⟩) (by simp [mk5]; omega)
  have hO3' := hO3
  obtain ⟨xs, rfl, _⟩ := hO3'
  have hlm : (b ++ mk5).length = b.length + 5 := by simp [mk5]
  rw [hlm] at hap3 hO3
  have HAP1 := hap1
  have HAP3 : Hid (∀ ty, _) := hap3
  have hsz : (W1.alloc (.cells #[.int .u8 1, .int .u8 2, .int .u8 3, .int .u8 4, .int .u8 5] 5)).heap.size = W1.heap.size + 1 := by simp
  have HF : Hid (P (.returned (.slice (some ⟨g3, 0, none⟩) (b.length + 5) xs.length)) W3) := by
    show P _ _
    rw [hP]
    have hs1 := hN1.size
    refine ⟨g3, xs.length, rfl, hO3, ?_, Fr.then (hN1.trans hN2) hF3 (fun k hk => .inr (by omega))⟩
    rcases hg3 with h | h <;> omega
  obtain ⟨a, c, rfl, _, _⟩ := hb.form
  clear hP hb hap1 hO1 hN1 hN2 hB2 hO2 hap3 hO3 hF3 hg3 hg1 hlm hsz
  generalize b.length = L at *
  generalize xs.length = C at *
  go_enter Try.func9, Try.ntmps9
  go_wp2_with (first | (at_builtin; refine Lib.wpList_append_run _ rfl _ _ 22 22 rfl (.slice (some ⟨w.heap.size, 0, none⟩) 0 0) (.slice a L c) (by simp [Act.eval]) (by simp [Act.eval]) _ _ (HAP1.out _) ?_) | (at_builtin; refine Lib.wpList_append_run _ rfl _ _ 22 22 rfl (.slice (some ⟨g1, 0, none⟩) L c1) (.slice (some ⟨W1.heap.size, 0, none⟩) 5 5) (by simp [Act.eval]) (by simp [Act.eval]) _ _ (HAP3.out _) ?_))
  exact HF.out
set_option maxRecDepth 100000 in
theorem dCan_any (w : World) (k : Int) (b1 b2 b3 b4 : Bool) : Calls Try.prog 23 #[.agg #[.int .i64 k, .bool b1, .bool b2, .bool b3, .bool b4]] w fun e w' => e = .returned (.bool (decide (4 ≤ k ∧ k ≤ 7))) ∧ Nw w w' := by
  have hN : Hid (∀ o, Nw w (w.alloc o)) := fun o => (Fr.refl _ _).alloc o
  by_cases h1 : 4 ≤ k
  · by_cases h2 : k ≤ 7
    · rw [decide_eq_true ⟨h1, h2⟩]
      go_enter Try.func23, Try.ntmps23
      go_wp2
      try go_ret
      exact ⟨by simp, hN.out _⟩
    · rw [decide_eq_false (fun h => h2 h.2)]
      go_enter Try.func23, Try.ntmps23
      go_wp2
      try go_ret
      exact ⟨by simp, hN.out _⟩
  · rw [decide_eq_false (fun h => h1 h.1)]
    go_enter Try.func23, Try.ntmps23
    go_wp2
    try go_ret
    exact ⟨by simp, hN.out _⟩
end Go.Proofs.Ytdeefemeiggolaa

namespace Go.Proofs.Ytdeefemeiggolaa
open Go.RowKit
set_option linter.unusedVariables false
/-! ### left -/
set_option maxHeartbeats 8000000 in
set_option maxRecDepth 100000 in
theorem left_any (w : World) (g : Nat) (N c : Nat) (vb : Value) (b : List By) (hb : Sl (fun k => k = g) vb b w) (hN : N = b.length + 5) (hO : Ow g (.slice (some ⟨g, 0, none⟩) N c) (b ++ mk5) w) (hbl : b.length ≤ 140737488351232) :
    Calls Try.prog 14 #[.slice (some ⟨g, 0, none⟩) N c, vb] w fun e w' => e = .returned (.bool true) ∧ Fr (fun k => k = g) w w' := by
  obtain ⟨P, hP⟩ : ∃ P : Ending → World → Prop, P = fun e w' => e = .returned (.bool true) ∧ Fr (fun k => k = g) w w' := ⟨_, rfl⟩
  rw [← hP]
  have HF : Hid (∀ V, Fr (fun k => k = g) w V → P (.returned (.bool true)) V) := fun V hV => by rw [hP]; exact ⟨rfl, hV⟩
  clear hP
  have hlm : (b ++ mk5).length = N := by rw [hN]; simp [mk5]
  have hc1 : (convert 22 9 (.slice (some ⟨g, 0, none⟩) N c)).run Try.prog w = .ok (.string (str (b ++ mk5))) w := conv_any hO.old
  have hc2 : (convert 22 9 vb).run Try.prog w = .ok (.string (str b)) w := conv_any hb
  have hcat : str b ++ ⟨#[1, 2, 3, 4, 5]⟩ = str (b ++ mk5) := by rw [← str_app]; rfl
  have HI0 : Hid (∃ xs : List By, Ow g (.slice (some ⟨g, 0, none⟩) N c) xs w ∧ xs.length = N ∧ Fr (fun k => k = g) w w) := ⟨_, hO, hlm, Fr.refl _ _⟩
  obtain ⟨a, c2, rfl, _, _⟩ := hb.form
  have hNl : N ≤ 140737488351237 := by omega
  have hsz : (str b).size ≤ 140737488351232 := by rw [str_size]; omega
  clear hb hO hlm hN hbl
  generalize str (b ++ mk5) = s1 at *
  generalize str b = s2 at *
  generalize b.length = L at *
  have hcc : ¬ 9223372036854775807 < s2.size + 5 := by omega
  go_enter Try.func14, Try.ntmps14
  go_wp2_with fail
  go_loopg [6] N (fun kx vi wr => ∃ (i : Nat), i ≤ N ∧ N - i ≤ kx ∧ vi = .int .i64 i ∧ Hid (∃ xs : List By, Ow g (.slice (some ⟨g, 0, none⟩) N c) xs wr ∧ xs.length = N ∧ Fr (fun k => k = g) w wr))
  case atStart => exact ⟨0, by omega, by omega, rfl, HI0.out⟩
  case round =>
    obtain ⟨i, hi, hkx, rfl, HI⟩ := hrel
    clear HI0
    obtain ⟨xs, hO, hxl, hF⟩ := HI.out
    by_cases hlt : i < N
    · have hz : (i : Int) < (N : Int) := by omega
      obtain ⟨⟨y, x1⟩, x2⟩ : (∃ y, wr.cell? ⟨g, i, none⟩ = some y) ∧ wr.frozen? ⟨g, i, none⟩ = false := ⟨⟨_, (hO.at i (by omega)).1⟩, (hO.at i (by omega)).2⟩
      have HN : Hid (∃ xs : List By, Ow g (.slice (some ⟨g, 0, none⟩) N c) xs (wr.setCell ⟨g, i, none⟩ (.int .u8 238)) ∧ xs.length = N ∧ Fr (fun k => k = g) w (wr.setCell ⟨g, i, none⟩ (.int .u8 238))) := ⟨_, hO.put i (by omega) 238#8 238 (by decide), by rw [List.length_set]; exact hxl, hF.setCell _ _ (.inl rfl)⟩
      clear HI hO hxl hF HF
      go_wp2_with fail
      go_roundg (N - (i + 1))
      all_goals (first | omega | exact ⟨i + 1, by omega, by omega, by first | rfl | (congr 1), HN.out⟩)
    · have hz : ¬ (i : Int) < (N : Int) := by omega
      have HF' : Hid (P (.returned (.bool true)) wr) := HF.out _ hF
      clear HI hO hxl hF HF
      go_wp2_with fail
      exact HF'.out
end Go.Proofs.Ytdeefemeiggolaa

namespace Go.Proofs.Ytdeefemeiggolaa
open Go.RowKit
set_option linter.unusedVariables false
/-! ### The document's reader -/
/-- The document's reader in memory: b at block g from o on, p read, out the plain bytes; the blocks of K are not its plain bytes'. -/
structure RfI (D rb g o c : Nat) (b : List By) (most p : Nat) (out : List By) (K : Nat → Prop) (w : World) : Prop where
  row : ∃ vo, w.heap[rb]? = some (.cells #[.slice (some ⟨g, o, none⟩) b.length c, .int .i64 p, .int .i64 most, vo] 65) ∧ Mine K vo out w
  kr : K rb
  dr : D ≤ rb
  low : ∀ k, k < D → K k
  gd : g < D
  rd : Rd g o b w
  lt : ∀ k, K k → k < w.heap.size
  hc : b.length ≤ c
  hc2 : c < 9223372036854775808
  pl : p ≤ b.length
  ol : out.length ≤ most
  ml : most ≤ 4194304
  bl : b.length ≤ 140737488351232
variable {D rb g o c : Nat} {b : List By} {most p : Nat} {out : List By} {K : Nat → Prop} {w : World}
theorem RfI.keep {K' X : Nat → Prop} {w' : World} (h : RfI D rb g o c b most p out K w) (f : Fr X w w') (hX : ∀ k, X k → K k ∧ D ≤ k ∧ k ≠ rb ∨ w.heap.size ≤ k) (hk : ∀ k, K k → K' k) (hk2 : ∀ k, K' k → K k ∨ w.heap.size ≤ k ∧ k < w'.heap.size) : RfI D rb g o c b most p out K' w' := by
  obtain ⟨vo, h1, h2⟩ := h.row
  have hrl := h.lt rb h.kr
  have hr : ¬ X rb := fun hx => by
    rcases hX rb hx with e | e
    · exact e.2.2 rfl
    · omega
  refine ⟨⟨vo, row_kept h1 f hr, (h2.more (fun k hk' => ?_)).kept f (fun k hx => ?_)⟩, hk _ h.kr, h.dr, fun k hd => hk _ (h.low k hd), h.gd, h.rd.kept f (fun hx => ?_), fun k hk' => ?_, h.hc, h.hc2, h.pl, h.ol, h.ml, h.bl⟩
  · rcases hk2 k hk' with e | e
    · exact .inl e
    · exact .inr e.1
  · rcases hX k hx with e | e
    · exact .inl (hk _ e.1)
    · exact .inr e
  · rcases hX g hx with e | e
    · have := h.gd; omega
    · have := h.gd; have := h.dr; omega
  · rcases hk2 k hk' with e | e
    · exact Nat.lt_of_lt_of_le (h.lt k e) f.size
    · exact e.2
theorem RfI.nw {w' : World} (h : RfI D rb g o c b most p out K w) (f : Nw w w') : RfI D rb g o c b most p out K w' := h.keep f (fun k hk => hk.elim) (fun k hk => hk) (fun k hk => .inl hk)
theorem RfI.cells (h : RfI D rb g o c b most p out K w) : w.cell? ⟨rb, 0, none⟩ = some (.slice (some ⟨g, o, none⟩) b.length c) ∧ w.cell? ⟨rb, 1, none⟩ = some (.int .i64 p) ∧ w.cell? ⟨rb, 2, none⟩ = some (.int .i64 most) ∧ w.frozen? ⟨rb, 1, none⟩ = false ∧ w.frozen? ⟨rb, 3, none⟩ = false ∧ ∃ a k, w.cell? ⟨rb, 3, none⟩ = some (.slice a out.length k) ∧ out.length ≤ k ∧ k < 9223372036854775808 ∧ Mine K (.slice a out.length k) out w := by
  obtain ⟨vo, h1, h2⟩ := h.row
  obtain ⟨a, k, e, h3, h4⟩ := h2.sl.form
  subst e
  exact ⟨(row_cell h1 0 _ rfl).1, (row_cell h1 1 _ rfl).1, (row_cell h1 2 _ rfl).1, (row_cell h1 1 _ rfl).2, (row_cell h1 3 _ rfl).2, a, k, (row_cell h1 3 _ rfl).1, h3, h4, h2⟩
theorem RfI.go (h : RfI D rb g o c b most p out K w) (q : Nat) (hq : q ≤ b.length) : RfI D rb g o c b most q out K (w.setCell ⟨rb, 1, none⟩ (.int .i64 q)) ∧ Fr (fun k => k = rb) w (w.setCell ⟨rb, 1, none⟩ (.int .i64 q)) := by
  obtain ⟨vo, h1, h2⟩ := h.row
  have f : Fr (fun k => k = rb) w (w.setCell ⟨rb, 1, none⟩ (.int .i64 q)) := (Fr.refl _ _).setCell _ _ (.inl rfl)
  refine ⟨⟨⟨vo, row_set h1 1 _, h2.kept f (fun k hk => .inl (by subst hk; exact h.kr))⟩, h.kr, h.dr, h.low, h.gd, h.rd.kept f (fun e => by have := h.gd; have := h.dr; omega), fun k hk => Nat.lt_of_lt_of_le (h.lt k hk) f.size, h.hc, h.hc2, hq, h.ol, h.ml, h.bl⟩, f⟩
/-- A slice of the bytes that are read. -/
theorem RfI.sl (h : RfI D rb g o c b most p out K w) (q n : Nat) (hq : q + n ≤ b.length) : Sl (fun k => D ≤ k) (.slice (some ⟨g, o + q, none⟩) n (c - q)) (tk b q n) w := by
  have h1 := h.hc
  have h2 := h.hc2
  refine .inr ⟨g, by have := h.gd; omega, o + q, c - q, by rw [tk_length b q n hq], by rw [tk_length b q n hq]; omega, by omega, (h.rd.drop q).take n⟩
theorem FB.keepRf {fb : Nat} (f : Fm) (h : RfI D rb g o c b most p out K w) (hf : FB fb f w) (hfr : fb ≠ rb) (hKf : K fb) (hDf : D ≤ fb) (j : Nat) (x v : Value) (f' : Fm) (hx : (frow f)[j]? = some x) (he : (frow f).setIfInBounds j v = frow f') : w.cell? ⟨fb, j, none⟩ = some x ∧ w.frozen? ⟨fb, j, none⟩ = false ∧ RfI D rb g o c b most p out K (w.setCell ⟨fb, j, none⟩ v) ∧ FB fb f' (w.setCell ⟨fb, j, none⟩ v) ∧ Fr (fun k => k = rb ∨ k = fb) w (w.setCell ⟨fb, j, none⟩ v) := by
  have f2 : Fr (fun k => k = fb) w (w.setCell ⟨fb, j, none⟩ v) := (Fr.refl _ _).setCell _ _ (.inl rfl)
  refine ⟨(row_cell hf _ _ hx).1, (row_cell hf _ _ hx).2, h.keep f2 (fun k hk => .inl ⟨by subst hk; exact hKf, by subst hk; exact hDf, by subst hk; exact hfr⟩) (fun k hk => hk) (fun k hk => .inl hk), ?_, f2.mono (fun k hk => .inl (.inr hk))⟩
  have := row_set hf j v
  rw [he] at this
  exact this
/-- has. -/
theorem ehas_any (h : RfI D rb g o c b most p out K w) (n : Nat) (hn : n < 18446744073709551616) : Calls Try.prog 34 #[.pointer (some ⟨rb, 0, none⟩), .int .u64 n] w fun e w' => e = .returned (.bool (decide (p + n ≤ b.length))) ∧ Nw w w' := by
  obtain ⟨P, hP⟩ : ∃ P : Ending → World → Prop, P = fun e w' => e = .returned (.bool (decide (p + n ≤ b.length))) ∧ Nw w w' := ⟨_, rfl⟩
  rw [← hP]
  obtain ⟨x0, x1, x2, x3, _⟩ := h.cells
  have hbl := h.bl
  have hpl := h.pl
  obtain ⟨d, hd⟩ : ∃ d, b.length - p = d := ⟨_, rfl⟩
  have q1 : (b.length : Int) - (p : Int) = (d : Int) := by omega
  have q2 : IntKind.u64.wrap (d : Int) = (d : Int) := by rw [IntKind.wrap_u64]; omega
  have q3 : IntKind.i64.wrap (d : Int) = (d : Int) := by rw [IntKind.wrap_i64]; omega
  have HF : Hid (∀ k, P (.returned (.bool (decide (n ≤ d)))) (w.drewN k)) := fun k => by
    rw [hP]
    exact ⟨by rw [decide_eq_decide.2 (show n ≤ d ↔ p + n ≤ b.length by omega)], (Fr.refl _ _).drewN k⟩
  clear h hd hP
  generalize b.length = L at *
  go_enter Try.func34, Try.ntmps34
  go_wp2_with fail
  go_quiet (fail)
  go_wp2
  exact HF.out _
theorem eshort_any (h : RfI D rb g o c b most p out K w) : Calls Try.prog 50 #[.pointer (some ⟨rb, 0, none⟩)] w fun e w' => e = .returned (.tuple #[.int .i64 b.length, .int .i64 4]) ∧ w' = w := by
  obtain ⟨P, hP⟩ : ∃ P : Ending → World → Prop, P = fun e w' => e = .returned (.tuple #[.int .i64 b.length, .int .i64 4]) ∧ w' = w := ⟨_, rfl⟩
  rw [← hP]
  have HF : Hid (P (.returned (.tuple #[.int .i64 b.length, .int .i64 4])) w) := by show P _ _; rw [hP]; exact ⟨rfl, rfl⟩
  obtain ⟨x0, x1, x2, x3, _⟩ := h.cells
  clear h hP
  generalize b.length = L at *
  go_enter Try.func50, Try.ntmps50
  go_wp2
  exact HF.out
set_option maxHeartbeats 8000000 in
set_option maxRecDepth 100000 in
theorem dnumber_any (X : Nat → Prop) (v : Value) (l : List By) (w : World) (h : Sl X v l w) (hl : l.length ≤ 8) :
    Calls Try.prog 51 #[v] w fun e w' => e = .returned (.int .u64 (le l)) ∧ w' = w := by
  obtain ⟨P, hP⟩ : ∃ P : Ending → World → Prop, P = fun e w' => e = .returned (.int .u64 (le l)) ∧ w' = w := ⟨_, rfl⟩
  rw [← hP]
  have HF : Hid (P (.returned (.int .u64 (le l))) w) := by rw [hP]; exact ⟨rfl, rfl⟩
  clear hP
  obtain ⟨a, c, rfl, hc, hc2, hr⟩ : ∃ a c, v = .slice a l.length c ∧ l.length ≤ c ∧ c < 9223372036854775808 ∧ (l ≠ [] → ∃ g o, a = some ⟨g, o, none⟩ ∧ Rd g o l w) := by
    rcases h with ⟨a, rfl, rfl⟩ | ⟨g, _, o, c, rfl, h1, h2, h3⟩
    · exact ⟨a, 0, rfl, by simp, by simp, fun h => absurd rfl h⟩
    · exact ⟨_, c, rfl, h1, h2, fun _ => ⟨g, o, rfl, h3⟩⟩
  have HR : Hid (l ≠ [] → ∃ g o, a = some ⟨g, o, none⟩ ∧ Rd g o l w) := hr
  have HLe : Hid (le (l.drop 0) = le l) := rfl
  have HL0 : Hid (le (l.drop l.length) = 0) := by rw [List.drop_length]; rfl
  clear hr h
  obtain ⟨L, hln⟩ : ∃ L, l.length = L := ⟨_, rfl⟩
  have hln' : Hid (l.length = L) := hln
  rw [hln] at hl hc HL0 ⊢
  clear hln
  have hz : (L : Int) - 1 + 1 = (L : Int) := by omega
  have v0 : IntKind.i64.wrap ((L : Int) - 1) = (L : Int) - 1 := by rw [IntKind.wrap_i64]; omega
  go_enter Try.func51, Try.ntmps51
  go_wp2
  go_loopg [3, 4] L (fun kx n i wr => ∃ (I : Nat), I ≤ L ∧ I ≤ kx ∧ i = .int .i64 ((I : Int) - 1) ∧ n = .int .u64 (le (l.drop I)) ∧ wr = w)
  case atStart => exact ⟨L, by omega, by omega, rfl, by rw [HL0.out]; rfl, rfl⟩
  case round =>
    obtain ⟨I, hI, hkx, rfl, rfl, rfl⟩ := hrel
    clear HL0
    by_cases hlt : 0 < I
    · obtain ⟨J, rfl⟩ : ∃ J, I = J + 1 := ⟨I - 1, by omega⟩
      have hJ : J < l.length := by rw [hln'.out]; omega
      obtain ⟨g, o, rfl, hrd⟩ := HR.out (by rintro rfl; simp at hJ)
      have x0 := hrd J hJ
      have hz1 : ((J + 1 : Nat) : Int) - 1 = (J : Int) := by omega
      rw [hz1]
      have hz2 : (J : Int) < (L : Int) := by omega
      have hz3 : (0 : Int) ≤ (J : Int) := by omega
      have hd : le (l.drop J) = l[J].toNat + 256 * le (l.drop (J + 1)) := by rw [List.drop_eq_getElem_cons hJ]; rfl
      have hlt2 : le (l.drop J) < 18446744073709551616 := by
        have h1 := le_lt (l.drop J)
        have h2 : 256 ^ (l.drop J).length ≤ 256 ^ 8 := Nat.pow_le_pow_right (by decide) (by rw [List.length_drop, hln'.out]; omega)
        exact Nat.lt_of_lt_of_le h1 h2
      have hb := (l[J]).isLt
      generalize l[J] = y at *
      obtain ⟨n1, hn1⟩ : ∃ n1, le (l.drop J) = n1 := ⟨_, rfl⟩
      obtain ⟨n0, hn0⟩ : ∃ n0, le (l.drop (J + 1)) = n0 := ⟨_, rfl⟩
      have HN1 : Hid (le (l.drop J) = n1) := hn1
      rw [hn1, hn0] at hd
      rw [hn1] at hlt2
      rw [hn0]
      obtain ⟨m, hm⟩ : ∃ m, n0 * 256 = m := ⟨_, rfl⟩
      have w1 : (n0 : Int) * 256 = (m : Int) := by omega
      have w2 : IntKind.u64.wrap (m : Int) = (m : Int) := by rw [IntKind.wrap_u64]; omega
      have w3 : (m : Int) + (y.toNat : Int) = (n1 : Int) := by omega
      have w4 : IntKind.u64.wrap (n1 : Int) = (n1 : Int) := by rw [IntKind.wrap_u64]; omega
      have w5 : IntKind.u64.wrap (y.toNat : Int) = (y.toNat : Int) := by rw [IntKind.wrap_u64]; omega
      have w6 : IntKind.i64.wrap ((J : Int) - 1) = (J : Int) - 1 := by rw [IntKind.wrap_i64]; omega
      clear HR HLe HF hln' hJ hrd hn0 hn1 hd hm hz1 v0 hz
      go_wp2
      go_roundg J
      all_goals (first | omega | exact ⟨J, by omega, by omega, rfl, by rw [HN1.out], rfl⟩)
    · obtain rfl : I = 0 := by omega
      rw [HLe.out]
      clear HR HLe hln'
      go_wp2
      exact HF.out
end Go.Proofs.Ytdeefemeiggolaa

namespace Go.Proofs.Ytdeefemeiggolaa
open Go.RowKit
set_option linter.unusedVariables false
/-! ### magic, Is -/
/-- What a frame's first bytes say. -/
def knd (l : List By) : Nat := if l.length < 4 then 0 else if le (l.take 4) = 407708164 then 1 else if le (l.take 4) / 16 = 25481893 then 2 else 0
theorem four {l : List By} (h : ¬ l.length < 4) : ∃ x0 x1 x2 x3, l[0]? = some x0 ∧ l[1]? = some x1 ∧ l[2]? = some x2 ∧ l[3]? = some x3 ∧ le (l.take 4) = x0.toNat + 256 * (x1.toNat + 256 * (x2.toNat + 256 * x3.toNat)) := by
  match l, h with
  | x0 :: x1 :: x2 :: x3 :: r, _ => exact ⟨x0, x1, x2, x3, rfl, rfl, rfl, rfl, by simp [le]⟩
  | [], h => simp at h
  | [_], h => simp at h
  | [_, _], h => simp at h
  | [_, _, _], h => simp at h
set_option maxHeartbeats 8000000 in
set_option maxRecDepth 100000 in
theorem dmagic_any (X : Nat → Prop) (v : Value) (l : List By) (w : World) (h : Sl X v l w) :
    Calls Try.prog 35 #[v] w fun e w' => e = .returned (.int .i64 (knd l)) ∧ w' = w := by
  obtain ⟨P, hP⟩ : ∃ P : Ending → World → Prop, P = fun e w' => e = .returned (.int .i64 (knd l)) ∧ w' = w := ⟨_, rfl⟩
  rw [← hP]
  have HF : Hid (P (.returned (.int .i64 (knd l))) w) := by rw [hP]; exact ⟨rfl, rfl⟩
  clear hP
  by_cases hl : l.length < 4
  · obtain ⟨a, c, rfl, _, _⟩ := h.form
    have e : knd l = 0 := by unfold knd; rw [if_pos hl]
    rw [e] at HF
    have hz : (l.length : Int) < 4 := by omega
    clear h e
    generalize l.length = L at *
    go_enter Try.func35, Try.ntmps35
    go_wp2
    exact HF.out
  · obtain ⟨y0, y1, y2, y3, e0, e1, e2, e3, hle⟩ := four hl
    obtain ⟨a, c, rfl, hc, hc2, hr⟩ : ∃ a c, v = .slice a l.length c ∧ l.length ≤ c ∧ c < 9223372036854775808 ∧ (l ≠ [] → ∃ g o, a = some ⟨g, o, none⟩ ∧ Rd g o l w) := by
      rcases h with ⟨a, rfl, rfl⟩ | ⟨g, _, o, c, rfl, h1, h2, h3⟩
      · exact ⟨a, 0, rfl, by simp, by simp, fun h => absurd rfl h⟩
      · exact ⟨_, c, rfl, h1, h2, fun _ => ⟨g, o, rfl, h3⟩⟩
    obtain ⟨g, o, rfl, hrd⟩ := hr (by rintro rfl; simp at hl)
    have c0 := hrd.at 0 y0 e0
    have c1 := hrd.at 1 y1 e1
    have c2 := hrd.at 2 y2 e2
    have c3 := hrd.at 3 y3 e3
    rw [Nat.add_zero] at c0
    have b0 := y0.isLt
    have b1 := y1.isLt
    have b2 := y2.isLt
    have b3 := y3.isLt
    have hk : knd l = if y3.toNat = 24 ∧ y2.toNat = 77 then (if y0.toNat = 4 ∧ y1.toNat = 34 then 1 else if 80 ≤ y0.toNat ∧ y0.toNat ≤ 95 ∧ y1.toNat = 42 then 2 else 0) else 0 := by
      unfold knd
      rw [if_neg hl, hle]
      generalize y0.toNat = n0 at *
      generalize y1.toNat = n1 at *
      generalize y2.toNat = n2 at *
      generalize y3.toNat = n3 at *
      by_cases h1 : n3 = 24 ∧ n2 = 77
      · rw [if_pos h1]
        obtain ⟨rfl, rfl⟩ := h1
        by_cases h2 : n0 = 4 ∧ n1 = 34
        · rw [if_pos h2, if_pos (by omega)]
        · rw [if_neg h2, if_neg (by omega)]
          by_cases h3 : 80 ≤ n0 ∧ n0 ≤ 95 ∧ n1 = 42
          · rw [if_pos h3, if_pos (by omega)]
          · rw [if_neg h3, if_neg (by omega)]
      · rw [if_neg h1, if_neg (by omega), if_neg (by omega)]
    have hz : ¬ (l.length : Int) < 4 := by omega
    have hz0 : (0 : Int) < (l.length : Int) := by omega
    have hz1 : (1 : Int) < (l.length : Int) := by omega
    have hz2 : (2 : Int) < (l.length : Int) := by omega
    have hz3 : (3 : Int) < (l.length : Int) := by omega
    have hlb : l.length < 9223372036854775808 := by omega
    rw [hk] at HF
    simp only [bv] at c0 c1 c2 c3
    clear h hrd hr hk hle e0 e1 e2 e3
    generalize l.length = L at *
    generalize y0.toNat = n0 at *
    generalize y1.toNat = n1 at *
    generalize y2.toNat = n2 at *
    generalize y3.toNat = n3 at *
    by_cases t2 : n2 = 77
    · subst t2
      by_cases t3 : n3 = 24
      · subst t3
        rw [if_pos ⟨rfl, rfl⟩] at HF
        by_cases t0 : n0 = 4
        · subst t0
          by_cases t1 : n1 = 34
          · subst t1
            rw [if_pos ⟨rfl, rfl⟩] at HF
            go_enter Try.func35, Try.ntmps35
            go_wp2
            exact HF.out
          · rw [if_neg (by omega), if_neg (by omega)] at HF
            have u1 : ¬ (n1 : Int) = 34 := by omega
            go_enter Try.func35, Try.ntmps35
            go_wp2
            exact HF.out
        · rw [if_neg (by omega)] at HF
          have u0 : ¬ (n0 : Int) = 4 := by omega
          by_cases t4 : 80 ≤ n0
          · have u4 : (80 : Int) ≤ (n0 : Int) := by omega
            by_cases t5 : n0 ≤ 95
            · have u5 : (n0 : Int) ≤ 95 := by omega
              by_cases t1 : n1 = 42
              · subst t1
                rw [if_pos ⟨t4, t5, rfl⟩] at HF
                go_enter Try.func35, Try.ntmps35
                go_wp2
                exact HF.out
              · have u1 : ¬ (n1 : Int) = 42 := by omega
                rw [if_neg (by omega)] at HF
                go_enter Try.func35, Try.ntmps35
                go_wp2
                exact HF.out
            · have u5 : ¬ (n0 : Int) ≤ 95 := by omega
              rw [if_neg (by omega)] at HF
              go_enter Try.func35, Try.ntmps35
              go_wp2
              exact HF.out
          · have u4 : ¬ (80 : Int) ≤ (n0 : Int) := by omega
            rw [if_neg (by omega)] at HF
            go_enter Try.func35, Try.ntmps35
            go_wp2
            exact HF.out
      · rw [if_neg (by omega)] at HF
        have u3 : ¬ (n3 : Int) = 24 := by omega
        go_enter Try.func35, Try.ntmps35
        go_wp2
        exact HF.out
    · rw [if_neg (by omega)] at HF
      have u2 : ¬ (n2 : Int) = 77 := by omega
      go_enter Try.func35, Try.ntmps35
      go_wp2
      exact HF.out
theorem dIs_any (X : Nat → Prop) (v : Value) (l : List By) (w : World) (h : Sl X v l w) :
    Calls Try.prog 20 #[v] w fun e w' => e = .returned (.bool (decide (0 < knd l))) ∧ w' = w := by
  obtain ⟨P, hP⟩ : ∃ P : Ending → World → Prop, P = fun e w' => e = .returned (.bool (decide (0 < knd l))) ∧ w' = w := ⟨_, rfl⟩
  rw [← hP]
  have HF : Hid (P (.returned (.bool (decide (0 < knd l)))) w) := by rw [hP]; exact ⟨rfl, rfl⟩
  clear hP
  have HM : Hid (Calls Try.prog 35 #[v] w fun e w' => e = .returned (.int .i64 (knd l)) ∧ w' = w) := dmagic_any X v l w h
  obtain ⟨a, c, rfl, _, _⟩ := h.form
  clear h
  generalize l.length = L at *
  generalize knd l = k at *
  go_enter Try.func20, Try.ntmps20
  go_wp2_with (first | (go_at_call 35; with_reducible refine HM.out.mono ?_; rintro e w1 ⟨rfl, rfl⟩))
  exact HF.out
set_option maxRecDepth 100000 in
theorem fIs_any (X : Nat → Prop) (v : Value) (l : List By) (w : World) (h : Sl X v l w) :
    Calls Try.prog 17 #[v] w fun e w' => e = .returned (.bool (decide (0 < knd l))) ∧ w' = w := by
  obtain ⟨P, hP⟩ : ∃ P : Ending → World → Prop, P = fun e w' => e = .returned (.bool (decide (0 < knd l))) ∧ w' = w := ⟨_, rfl⟩
  rw [← hP]
  have HF : Hid (P (.returned (.bool (decide (0 < knd l)))) w) := by rw [hP]; exact ⟨rfl, rfl⟩
  clear hP
  by_cases hl : l.length < 4
  · obtain ⟨a, c, rfl, _, _⟩ := h.form
    have e : knd l = 0 := by unfold knd; rw [if_pos hl]
    rw [e] at HF
    have hz : (l.length : Int) < 4 := by omega
    clear h e
    generalize l.length = L at *
    go_enter Try.func17, Try.ntmps17
    go_wp2
    exact HF.out
  · obtain ⟨g, o, c, rfl, hc, hc2, hrd⟩ : ∃ g o c, v = .slice (some ⟨g, o, none⟩) l.length c ∧ l.length ≤ c ∧ c < 9223372036854775808 ∧ Rd g o l w := by
      rcases h with ⟨a, rfl, rfl⟩ | ⟨g, _, o, c, rfl, h1, h2, h3⟩
      · simp at hl
      · exact ⟨g, o, c, rfl, h1, h2, h3⟩
    have hlt : (l.take 4).length = 4 := by rw [List.length_take]; omega
    have hk : knd l = if le (l.take 4) = 407708164 then 1 else if le (l.take 4) / 16 = 25481893 then 2 else 0 := by unfold knd; rw [if_neg hl]
    have hn := le_lt (l.take 4)
    rw [hlt] at hn
    have hn' : le (l.take 4) < 4294967296 := hn
    have HN : Hid (Calls Try.prog 32 #[.slice (some ⟨g, o, none⟩) 4 c] w fun e w' => e = .returned (.int .u64 (le (l.take 4))) ∧ w' = w) := fnumber_any g _ (l.take 4) w ⟨o, c, by rw [hlt], by rw [hlt]; omega, hc2, hrd.take 4⟩ (by omega)
    have HS : Hid (Calls Try.prog 33 #[.int .u64 (le (l.take 4))] w fun e w' => e = .returned (.bool (decide (le (l.take 4) / 16 = 25481893))) ∧ w' = w) := fisSkipped_any _ (by omega) w
    have hz : ¬ (l.length : Int) < 4 := by omega
    have hz1 : (4 : Int) ≤ (c : Int) := by omega
    rw [hk] at HF
    clear h hrd hk hlt hn
    generalize l.length = L at *
    generalize le (l.take 4) = n at *
    by_cases h1 : n = 407708164
    · subst h1
      rw [if_pos rfl] at HF
      go_enter Try.func17, Try.ntmps17
      go_wp2_with (first | (go_at_call 32; with_reducible refine HN.out.mono ?_; rintro e w1 ⟨rfl, rfl⟩) | (go_at_call 33; with_reducible refine HS.out.mono ?_; rintro e w1 ⟨rfl, rfl⟩))
      exact HF.out
    · rw [if_neg h1] at HF
      have h1' : ¬ (n : Int) = 407708164 := by omega
      by_cases h2 : n / 16 = 25481893
      · rw [if_pos h2] at HF
        rw [decide_eq_true h2] at HS
        clear h2
        go_enter Try.func17, Try.ntmps17
        go_wp2_with (first | (go_at_call 32; with_reducible refine HN.out.mono ?_; rintro e w1 ⟨rfl, rfl⟩) | (go_at_call 33; with_reducible refine HS.out.mono ?_; rintro e w1 ⟨rfl, rfl⟩))
        exact HF.out
      · rw [if_neg h2] at HF
        rw [decide_eq_false h2] at HS
        clear h2
        go_enter Try.func17, Try.ntmps17
        go_wp2_with (first | (go_at_call 32; with_reducible refine HN.out.mono ?_; rintro e w1 ⟨rfl, rfl⟩) | (go_at_call 33; with_reducible refine HS.out.mono ?_; rintro e w1 ⟨rfl, rfl⟩))
        have hq : ((n : Int) == 407708164) = false := by simp; omega
        rw [hq]
        exact HF.out
end Go.Proofs.Ytdeefemeiggolaa

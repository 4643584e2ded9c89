import Derived.Test.YtpnacppmdlnjlaaOfB
namespace Go.Proofs.Ytpnacppmdlnjlaa
open Go.RowKit
set_option linter.unusedVariables false
/-- Parse's part, where the bytes can't be parsed. -/
theorem head_no (w : World) (vb : Value) (B : List By) (hb : Old w vb B) (hbl : B.length ≤ 100000000) (x y : Nat) (hp : parse B = ([], x, y)) :
    Hid (∀ V, Nw w V → ∃ a1 c1 W1, Hid (∀ ty, (Builtin.append_ #[22, 22] ty #[.slice (some ⟨V.heap.size, 0, none⟩) 0 0, vb]).run Try.prog (V.alloc (.cells #[] 5)) = .ok (.slice a1 B.length c1) W1) ∧ Hid (Calls Try.prog 15 #[.slice a1 B.length c1] W1 fun e w2 => ∃ a2 c2, e = .returned (.tuple #[.slice a2 0 c2, .int .i64 x, .int .i64 y]) ∧ Nw w w2)) := by
  intro V hV
  obtain ⟨a1, c1, W1, h1, hM1, hN1⟩ := new_copy V vb B (Sl.later hb hV) (by omega)
  refine ⟨a1, c1, W1, h1, ?_⟩
  show Calls _ _ _ _ _
  refine (parse_any W1 _ B hM1.old hbl).mono ?_
  rw [hp]
  rintro e w2 ⟨a2, c2, gs, qs, rfl, _, hN2⟩
  exact ⟨a2, c2, rfl, (hV.trans hN1).trans hN2⟩
set_option maxHeartbeats 8000000 in
/-- Parse's part, where they can. -/
theorem head_ok (w : World) (vb va : Value) (B ahead : List By) (most : Int) (hb : Old w vb B) (ha : Old w va ahead) (hbl : B.length ≤ 100000000) (hal : ahead.length ≤ 100000000) (ms : List Sq) (p : List By) (hB : B = mk ms p) (hp : parse B = (ms ++ [⟨p, 0, 0⟩], 0, 0)) (hc : ∀ s ∈ ms, canS s) (R : List By) (ye : Nat) (hR : plR (sqs ms p) ahead most = (R, ye)) (M : List By) (me : Nat) (hM : mkR (sqs ms p) = (M, me)) :
    Hid (∀ V, Nw w V → ∃ a1 c1 W1, Hid (∀ ty, (Builtin.append_ #[22, 22] ty #[.slice (some ⟨V.heap.size, 0, none⟩) 0 0, vb]).run Try.prog (V.alloc (.cells #[] 5)) = .ok (.slice a1 B.length c1) W1) ∧ Hid (Calls Try.prog 15 #[.slice a1 B.length c1] W1 fun e w2 => ∃ a2 l2 c2, ∃ z2 : Int, e = .returned (.tuple #[.slice a2 l2 c2, .int .i64 z2, .int .i64 0]) ∧ Hid (Calls Try.prog 19 #[.slice a2 l2 c2] w2 fun e w3 => ∃ a3 c3, e = .returned (.tuple #[.slice a3 M.length c3, .int .i64 me]) ∧ Hid (M = B → Calls Try.prog 12 #[.slice a3 M.length c3, vb] w3 fun e w' => e = .returned (.bool true) ∧ Nw w3 w') ∧
      Hid (∀ V3, Nw w3 V3 → ∃ a4 c4 W4, Hid (∀ ty, (Builtin.append_ #[22, 22] ty #[.slice (some ⟨V3.heap.size, 0, none⟩) 0 0, va]).run Try.prog (V3.alloc (.cells #[] 5)) = .ok (.slice a4 ahead.length c4) W4) ∧ Hid (Calls Try.prog 21 #[.slice a2 l2 c2, .slice a4 ahead.length c4, .int .i64 most] W4 fun e w5 => ∃ a5 c5, e = .returned (.tuple #[.slice a5 R.length c5, .int .i64 ye]) ∧ ∃ a6 c6 W6, Hid (∀ ty, (Builtin.append_ #[22, 22] ty #[.slice (some ⟨w5.heap.size, 0, none⟩) 0 0, vb]).run Try.prog (w5.alloc (.cells #[] 5)) = .ok (.slice a6 B.length c6) W6) ∧ ∃ a7 c7 W7, Hid (∀ ty, (Builtin.append_ #[22, 22] ty #[.slice (some ⟨W6.heap.size, 0, none⟩) 0 0, va]).run Try.prog (W6.alloc (.cells #[] 5)) = .ok (.slice a7 ahead.length c7) W7) ∧ Hid (Calls Try.prog 10 #[.slice a6 B.length c6, .slice a7 ahead.length c7, .int .i64 most] W7 fun e w8 => ∃ a8 c8, ∃ z8 : Int, e = .returned (.tuple #[.slice a8 R.length c8, .int .i64 z8, .int .i64 ye]) ∧ Hid (Calls Try.prog 12 #[.slice a5 R.length c5, .slice a8 R.length c8] w8 fun e w9 => e = .returned (.bool true) ∧ Nw w w9))))))) := by
  have hdp := dec_play ms p ahead most hc
  rw [hR, ← hB] at hdp
  have hRl := plR_le' (sqs ms p) ahead most
  rw [hR] at hRl
  intro V hV
  obtain ⟨a1, c1, W1, h1, hM1, hN1⟩ := new_copy V vb B (Sl.later hb hV) (by omega)
  refine ⟨a1, c1, W1, h1, ?_⟩
  show Calls _ _ _ _ _
  refine (parse_any W1 _ B hM1.old hbl).mono ?_
  rw [hp]
  rintro e w2 ⟨a2, c2, gs, qs, rfl, hS2, hN2⟩
  have hw2 : Nw w w2 := (hV.trans hN1).trans hN2
  obtain ⟨b1, b2⟩ := sqs_p ms p 100000000 (by rw [← hB]; exact hbl)
  have hR2 := hS2.toR (Nat.le_trans b1 (by decide)) (fun s hs => by have := b2 s hs; omega)
  rw [sqs_map] at hR2
  refine ⟨a2, _, c2, _, rfl, ?_⟩
  show Calls _ _ _ _ _
  refine (lzMake_any w2 _ (sqs ms p) hR2).mono ?_
  rw [hM]
  rintro e w3 ⟨a3, c3, rfl, hM3, hN3⟩
  have hw3 := hw2.trans hN3
  refine ⟨a3, c3, rfl, ?_, ?_⟩
  · intro hMB
    have hsm := same_any w3 (.slice a3 M.length c3) vb M B (hM3.sl.mono (fun _ h => h.elim)) ((hb.nw hw3).mono (fun _ h => h.elim)) (by rw [hMB]; omega) (by omega)
    rw [decide_eq_true hMB] at hsm
    exact hsm
  · intro V3 hV3
    have hwV3 := hw3.trans hV3
    obtain ⟨a4, c4, W4, h4, hM4, hN4⟩ := new_copy V3 va ahead (Sl.later ha hwV3) (by omega)
    refine ⟨a4, c4, W4, h4, ?_⟩
    have h24 : Nw w2 W4 := (hN3.trans hV3).trans hN4
    have hs24 := h24.size
    show Calls _ _ _ _ _
    refine (lzPlay_any W4 _ _ (sqs ms p) ahead most ((hR2.nw h24).mono (fun k hk => by omega)) hM4.old (by omega)).mono ?_
    rw [hR]
    rintro e w5 ⟨a5, c5, rfl, hM5, hN5⟩
    have hw5 : Nw w w5 := (hwV3.trans hN4).trans hN5
    obtain ⟨a6, c6, W6, h6, hM6, hN6⟩ := new_copy w5 vb B (Sl.later hb hw5) (by omega)
    have hw6 := hw5.trans hN6
    obtain ⟨a7, c7, W7, h7, hM7, hN7⟩ := new_copy W6 va ahead (Sl.later ha hw6) (by omega)
    refine ⟨a5, c5, rfl, a6, c6, W6, h6, a7, c7, W7, h7, ?_⟩
    show Calls _ _ _ _ _
    refine (decode_any W7 _ _ B ahead most (Sl.later hM6.old hN7) hM7.old (by omega) (by omega)).mono ?_
    rintro e w8 ⟨a8, c8, rfl, hM8, hN8⟩
    rw [← hdp.1] at hM8
    refine ⟨a8, c8, _, by rw [← hdp.1, ← hdp.2], ?_⟩
    have hsm := same_any w8 (.slice a5 R.length c5) (.slice a8 R.length c8) R R ((((hM5.nw hN6).nw hN7).nw hN8).sl.mono (fun _ h => h.elim)) (hM8.sl.mono (fun _ h => h.elim)) hRl hRl
    rw [decide_eq_true rfl] at hsm
    show Calls _ _ _ _ _
    refine hsm.mono ?_
    rintro e w9 ⟨rfl, hN9⟩
    exact ⟨rfl, ((hw6.trans hN7).trans hN8).trans hN9⟩
end Go.Proofs.Ytpnacppmdlnjlaa

import Derived.Test.YtdeefemeiggolaaFdRq
namespace Go.Proofs.Ytdeefemeiggolaa
open Go.RowKit
set_option linter.unusedVariables false
/-! ### FrameDecodes' walk -/
theorem Mine.slq {K X : Nat → Prop} {v : Value} {l : List By} {w : World} (h : Mine K v l w) (hx : ∀ g, ¬ K g → g < w.heap.size → ¬ X g) : Sl X v l w := by
  rcases h with ⟨h1, h2⟩ | ⟨g, h1, h2⟩
  · exact .inl ⟨none, by rw [h1], h2⟩
  · exact .inr ⟨g, hx g h1 h2.lt, h2.slb⟩
theorem ffr_len (b : List By) (most : Int) (hbl : b.length ≤ 8000000000) : (ffr b most).1.length ≤ 1000000000 := by
  unfold ffr
  split
  · simp
  · cases hr : readF b most.toNat 0 [] [] with
    | bad a y => simp
    | ok r =>
      obtain ⟨o, fs⟩ := r
      have := fs_len hr (by simp) (by simp)
      simp only
      omega
theorem fd_chain (w : World) (a : Option Addr) (L c : Nat) (b : List By) (hL : b.length = L) (hb : Old w (.slice a L c) b) (hbl : L ≤ 8000000000) (most : Int) (P : Ending → World → Prop) (hP : ∀ V, Nw w V → P (.returned (.bool true)) V) (R : List By) (at' why : Nat) (fs : List Fm) (hR : fdec b most = (R, at', why)) (hF : (ffr b most).1 = fs) :
    Calls Try.prog 9 #[.slice a L c] w fun e w1 => ∃ g0 c0, e = .returned (.slice (some ⟨g0, 0, none⟩) (L + 5) c0) ∧ L + 5 ≤ c0 ∧ c0 < 9223372036854775808 ∧ Hid (Calls Try.prog 15 #[.slice (some ⟨g0, 0, none⟩) L c0, .int .i64 most] w1 fun e w2 => ∃ a2 c2, e = .returned (.tuple #[.slice a2 R.length c2, .int .i64 at', .int .i64 why]) ∧ Hid (Calls Try.prog 16 #[.slice (some ⟨g0, 0, none⟩) L c0, .int .i64 most] w2 fun e w3 => ∃ a3 n3 k3 x3 y3, e = .returned (.tuple #[.slice a3 n3 k3, .int .i64 x3, .int .i64 y3]) ∧ Hid (Calls Try.prog 17 #[.slice (some ⟨g0, 0, none⟩) L c0] w3 fun e w4 => e = .returned (.bool (decide (0 < knd b))) ∧ Hid (Calls Try.prog 18 #[.slice a L c, .int .i64 most] w4 fun e w5 => ∃ a5 k5 a6 k6, e = .returned (.tuple #[.slice a5 R.length k5, .slice a6 fs.length k6, .int .i64 at', .int .i64 why]) ∧ n3 = fs.length ∧ x3 = (at' : Int) ∧ y3 = (why : Int) ∧ Hid (Calls Try.prog 14 #[.slice (some ⟨g0, 0, none⟩) (L + 5) c0, .slice a L c] w5 fun e w7 => e = .returned (.bool true) ∧ (convert 22 9 (.slice a2 R.length c2)).run Try.prog w7 = .ok (.string (str R)) w7 ∧ (convert 22 9 (.slice a5 R.length k5)).run Try.prog w7 = .ok (.string (str R)) w7 ∧ Hid (Calls Try.prog 19 #[.slice a3 fs.length k3, .slice a6 fs.length k6] w7 fun e w8 => e = .returned (.bool true) ∧ Hid (Calls Try.prog 20 #[.slice a L c] w8 fun e w9 => e = .returned (.bool (decide (0 < knd b))) ∧ Hid (P (.returned (.bool true)) w9)))))))) := by
  have hh := hand_any w (.slice a L c) b hb (by omega)
  rw [hL] at hh
  refine hh.mono ?_
  rintro e w1 ⟨g0, c0, rfl, hO0, hg0, hw1⟩
  have hlm : (b ++ mk5).length = L + 5 := by simp [mk5, hL]
  obtain ⟨c0', e0, hc1, hc2, hcut⟩ := hO0.cut L (by omega)
  injection e0 with _ _ e0
  subst e0
  rw [hlm] at hc1
  have htake : (b ++ mk5).take L = b := by rw [← hL]; exact List.take_left
  rw [htake] at hcut
  have hin : ∀ V, Nw w1 V → Old V (.slice (some ⟨g0, 0, none⟩) L c0) b := fun V hV => Sl.later hcut.old hV
  refine ⟨g0, c0, rfl, hc1, hc2, ?_⟩
  show Calls _ _ _ _ _
  have hd := fdecode_any w1 _ b most (hin _ (Fr.refl _ _)) (by omega)
  rw [hR] at hd
  refine hd.mono ?_
  rintro e w2 ⟨a2, c2, rfl, hM2, hN2⟩
  refine ⟨a2, c2, rfl, ?_⟩
  show Calls _ _ _ _ _
  refine (fframes_any w2 _ b most (hin _ hN2) (by omega)).mono ?_
  rintro e w3 ⟨a3, n3, k3, rfl, hn3, hF3, hN3⟩
  refine ⟨a3, n3, k3, _, _, rfl, ?_⟩
  show Calls _ _ _ _ _
  refine (fIs_any _ _ b w3 (hin _ (hN2.trans hN3))).mono ?_
  rintro e w4 ⟨rfl, rfl⟩
  refine ⟨rfl, ?_⟩
  show Calls _ _ _ _ _
  have h14 : Nw w1 w4 := hN2.trans hN3
  refine (dRead_any w4 a L c b hL (Sl.later hb (hw1.trans h14)) most (by omega)).mono ?_
  rintro e w5 ⟨a5, k5, a6, k6, rfl, heq, hM5, hF5, hN5⟩
  rw [hF] at hF5
  rw [hR] at hM5
  simp only at hM5 hM2
  rw [hF] at hn3 hF3
  rw [hR] at heq
  subst hn3
  rw [hR, hF]
  refine ⟨a5, k5, a6, k6, rfl, rfl, by rw [heq], by rw [heq], ?_⟩
  show Calls _ _ _ _ _
  have h15 : Nw w1 w5 := h14.trans hN5
  have h25 : Nw w2 w5 := hN3.trans hN5
  have hs1 := hw1.size
  have hs2 := hN2.size
  have hs3 := hN3.size
  have hs5 := hN5.size
  have hg1 := hO0.lt
  refine (left_any w5 g0 (L + 5) c0 _ b ((Sl.nw hb (hw1.trans h15)).mono (fun k hk => by show w.heap.size ≤ k; omega)) (by rw [hL]) (hO0.nw h15) (by omega)).mono ?_
  rintro e w7 ⟨rfl, hF7⟩
  have hw7 : Nw w w7 := Fr.then (hw1.trans h15) hF7 (fun i hi => .inr (by omega))
  refine ⟨rfl, conv_any (((hM2.nw h25).slq (X := fun k => k = g0) (fun g h1 h2 h3 => h1 (by show g < w1.heap.size; omega))).kept hF7 (fun g hg => hg)), conv_any ((hM5.slq (X := fun k => k = g0) (fun g h1 h2 h3 => h1 (by show g < w4.heap.size; omega))).kept hF7 (fun g hg => hg)), ?_⟩
  show Calls _ _ _ _ _
  have hfl := ffr_len b most (by omega)
  rw [hF] at hfl
  have hA : (a3 = none ∧ fs.length = 0) ∨ ∃ ga, a3 = some ⟨ga, 0, none⟩ ∧ w2.heap.size ≤ ga ∧ OwF ga (.slice a3 fs.length k3) fs w7 ∧ ga < w4.heap.size := by
    rcases hF3 with ⟨h1, h2⟩ | ⟨ga, h1, h2⟩
    · injection h1 with h3 h4 h5
      exact .inl ⟨h3, h4⟩
    · obtain ⟨k, e1, _, _⟩ := h2.form
      injection e1 with e1
      have hlt := h2.lt
      exact .inr ⟨ga, e1, h1, (h2.nw hN5).kept hF7 (fun hx => by omega), hlt⟩
  have hB : (a6 = none ∧ fs.length = 0) ∨ ∃ gb, a6 = some ⟨gb, 0, none⟩ ∧ OwF gb (.slice a6 fs.length k6) fs w7 ∧ w4.heap.size ≤ gb := by
    rcases hF5 with ⟨h1, h2⟩ | ⟨gb, h1, h2⟩
    · injection h1 with h3 h4 h5
      exact .inl ⟨h3, h4⟩
    · obtain ⟨k, e1, _, _⟩ := h2.form
      injection e1 with e1
      exact .inr ⟨gb, e1, h2.kept hF7 (fun hx => by omega), h1⟩
  refine (sameFrames_any w7 w2.heap.size fs a3 a6 fs.length k3 k6 rfl hfl ?_ ?_ ?_).mono ?_
  · rcases hA with h | ⟨ga, h1, h2, h3, h4⟩
    · exact .inl h
    · refine .inr ⟨ga, h1, h2, h3, fun gb hgb => ?_⟩
      rcases hB with ⟨h5, _⟩ | ⟨gb', h5, _, h7⟩
      · rw [h5] at hgb; cases hgb
      · rw [h5] at hgb
        have := Option.some.inj hgb
        injection this with this
        omega
  · intro h
    rcases hF3 with ⟨h1, h2⟩ | ⟨ga, h1, h2⟩
    · injection h1
    · obtain ⟨k, e1, _, _⟩ := h2.form
      injection e1 with e1
      rw [h] at e1; cases e1
  · rcases hB with h | ⟨gb, h1, h2, _⟩
    · exact .inl h
    · exact .inr ⟨gb, h1, h2⟩
  rintro e w8 ⟨rfl, hF8⟩
  refine ⟨rfl, ?_⟩
  show Calls _ _ _ _ _
  have hw8 : Nw w w8 := Fr.then hw7 hF8 (fun i hi => .inr (by omega))
  refine (dIs_any _ _ b w8 (Sl.later hb hw8)).mono ?_
  rintro e w9 ⟨rfl, rfl⟩
  exact ⟨rfl, hP _ hw8⟩
set_option maxHeartbeats 40000000 in
set_option maxRecDepth 100000 in
theorem fd_walk (w : World) (a : Option Addr) (L c : Nat) (b : List By) (hL : b.length = L) (hb : Old w (.slice a L c) b) (hbl : L ≤ 8000000000) (most : Int) :
    Calls Try.prog 4 #[.slice a L c, .int .i64 most] w fun e w' => e = .returned (.bool true) ∧ Nw w w' := by
  obtain ⟨P, hP⟩ : ∃ P : Ending → World → Prop, P = fun e w' => e = .returned (.bool true) ∧ Nw w w' := ⟨_, rfl⟩
  rw [← hP]
  obtain ⟨R, at', why, hR⟩ : ∃ R at' why, fdec b most = (R, at', why) := ⟨_, _, _, rfl⟩
  have HH : Hid (Calls Try.prog 9 #[.slice a L c] w _) := fd_chain w a L c b hL hb hbl most P (fun V hV => by rw [hP]; exact ⟨rfl, hV⟩) R at' why _ hR rfl
  obtain ⟨N, hN⟩ : ∃ N, R.length = N := ⟨_, rfl⟩
  obtain ⟨M, hM⟩ : ∃ M, (ffr b most).1.length = M := ⟨_, rfl⟩
  obtain ⟨sr, hsr⟩ : ∃ sr, str R = sr := ⟨_, rfl⟩
  obtain ⟨IB, hIB⟩ : ∃ IB, decide (0 < knd b) = IB := ⟨_, rfl⟩
  rw [hN, hM, hsr, hIB] at HH
  clear hP hb hL hR hN hM hsr hIB
  go_enter Try.func4, Try.ntmps4
  go_upto_region 2 with (first | (go_at_call 9; (with_reducible refine HH.out.mono ?_); rintro e w1 ⟨g0, c0, rfl, hc1, hc2, HD⟩))
  have hz1 : (L : Int) ≤ (c0 : Int) := by omega
  go_upto_region 6 with (first | (go_at_call 15; (with_reducible refine HD.out.mono ?_); rintro e w2 ⟨a2, c2, rfl, HF⟩) | (go_at_call 16; (with_reducible refine HF.out.mono ?_); rintro e w3 ⟨a3, n3, k3, x3, y3, rfl, HI⟩) | (go_at_call 17; (with_reducible refine HI.out.mono ?_); rintro e w4 ⟨rfl, HR⟩) | (go_at_call 18; (with_reducible refine HR.out.mono ?_); rintro e w5 ⟨a5, k5, a6, k6, rfl, rfl, rfl, rfl, HL⟩))
  go_wp2_with (first | (go_at_call 14; (with_reducible refine HL.out.mono ?_); rintro e w7 ⟨rfl, f1, f2, HS⟩) | (go_at_call 19; (with_reducible refine HS.out.mono ?_); rintro e w8 ⟨rfl, HJ⟩) | (go_at_call 20; (with_reducible refine HJ.out.mono ?_); rintro e w9 ⟨rfl, HE⟩))
  exact HE.out
end Go.Proofs.Ytdeefemeiggolaa

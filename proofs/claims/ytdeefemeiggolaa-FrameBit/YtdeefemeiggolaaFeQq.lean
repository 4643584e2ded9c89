import Derived.Test.YtdeefemeiggolaaFeOq
namespace Go.Proofs.Ytdeefemeiggolaa
open Go.RowKit
set_option linter.unusedVariables false
/-! ### FrameEncodes' walk -/
theorem Mine.slk {K X : Nat → Prop} {v : Value} {l : List By} {w : World} (h : Mine K v l w) (hx : ∀ g, ¬ K g → g < w.heap.size → ¬ X g) : Sl X v l w := by
  rcases h with ⟨h1, h2⟩ | ⟨g, h1, h2⟩
  · exact .inl ⟨none, by rw [h1], h2⟩
  · exact .inr ⟨g, hx g h1 h2.lt, h2.slb⟩
def ShC (g : Nat) (k : Int) (b1 b2 b3 b4 : Bool) (V : World) : Prop := V.cell? ⟨g, 0, none⟩ = some (.int .i64 k) ∧ V.cell? ⟨g, 1, none⟩ = some (.bool b1) ∧ V.cell? ⟨g, 2, none⟩ = some (.bool b2) ∧ V.cell? ⟨g, 3, none⟩ = some (.bool b3) ∧ V.cell? ⟨g, 4, none⟩ = some (.bool b4)
set_option maxHeartbeats 4000000 in
theorem fe_chain (w W1 : World) (a : Option Addr) (L c : Nat) (plain : List By) (hL : plain.length = L) (hp : Old w (.slice a L c) plain) (hpl : L ≤ 140737488351232) (k u : Int) (b1 b2 b3 b4 : Bool) (R S : List By) (y z : Int)
    (hE : ∀ V a c, Old V (.slice a L c) plain → Calls Try.prog 10 #[.slice a L c, .agg #[.int .i64 k, .bool b1, .bool b2, .bool b3, .bool b4]] V (Ans R y V))
    (hD : ∀ V a c, Old V (.slice a L c) plain → Calls Try.prog 11 #[.slice a L c, .agg #[.int .i64 k, .bool b1, .bool b2, .bool b3, .bool b4]] V (Ans R y V))
    (hS : ∀ V a c, Old V (.slice a L c) plain → Calls Try.prog 12 #[.int .i64 u, .slice a L c] V (Ans S z V))
    (hT : ∀ V a c, Old V (.slice a L c) plain → Calls Try.prog 13 #[.int .i64 u, .slice a L c] V (Ans S z V))
    (hN1 : Nw w W1) (KEY : ∀ V, Nw W1 V → ShC w.heap.size k b1 b2 b3 b4 V) :
    Calls Try.prog 9 #[.slice a L c] W1 fun e w1 => ∃ g0 c0, e = .returned (.slice (some ⟨g0, 0, none⟩) (L + 5) c0) ∧ L + 5 ≤ c0 ∧ c0 < 9223372036854775808 ∧ ShC w.heap.size k b1 b2 b3 b4 w1 ∧ ShC w.heap.size k b1 b2 b3 b4 w1.drew ∧ Hid (Calls Try.prog 10 #[.slice (some ⟨g0, 0, none⟩) L c0, .agg #[.int .i64 k, .bool b1, .bool b2, .bool b3, .bool b4]] w1.drew fun e w2 => ∃ a2 c2, e = .returned (.tuple #[.slice a2 R.length c2, .int .i64 y]) ∧ ShC w.heap.size k b1 b2 b3 b4 w2 ∧ ShC w.heap.size k b1 b2 b3 b4 w2.drew ∧ Hid (Calls Try.prog 10 #[.slice (some ⟨g0, 0, none⟩) L c0, .agg #[.int .i64 k, .bool b1, .bool b2, .bool b3, .bool b4]] w2.drew fun e w3 => ∃ a3 c3, e = .returned (.tuple #[.slice a3 R.length c3, .int .i64 y]) ∧ ShC w.heap.size k b1 b2 b3 b4 w3 ∧ Hid (Calls Try.prog 11 #[.slice a L c, .agg #[.int .i64 k, .bool b1, .bool b2, .bool b3, .bool b4]] w3 fun e w4 => ∃ a4 c4, e = .returned (.tuple #[.slice a4 R.length c4, .int .i64 y]) ∧ Hid (Calls Try.prog 12 #[.int .i64 u, .slice (some ⟨g0, 0, none⟩) L c0] w4 fun e w5 => ∃ a5 c5, e = .returned (.tuple #[.slice a5 S.length c5, .int .i64 z]) ∧ Hid (Calls Try.prog 13 #[.int .i64 u, .slice a L c] w5 fun e w6 => ∃ a6 c6, e = .returned (.tuple #[.slice a6 S.length c6, .int .i64 z]) ∧ (convert 22 9 (.slice a2 R.length c2)).run Try.prog w6 = .ok (.string (str R)) w6 ∧ (convert 22 9 (.slice a4 R.length c4)).run Try.prog w6 = .ok (.string (str R)) w6 ∧ (convert 22 9 (.slice a5 S.length c5)).run Try.prog w6 = .ok (.string (str S)) w6 ∧ (convert 22 9 (.slice a6 S.length c6)).run Try.prog w6 = .ok (.string (str S)) w6 ∧ Hid (Calls Try.prog 14 #[.slice (some ⟨g0, 0, none⟩) (L + 5) c0, .slice a L c] w6 fun e w7 => e = .returned (.bool true) ∧ ∃ K : Nat → Prop, Hid ((∀ k, K k → k < w7.heap.size) ∧ (∀ k, k < w.heap.size → K k) ∧ Mine K (.slice a2 R.length c2) R w7 ∧ Sl (fun k => ¬ K k) (.slice a3 R.length c3) R w7 ∧ Sl (fun k => ¬ K k) (.slice a4 R.length c4) R w7 ∧ Sl (fun k => ¬ K k) (.slice a5 S.length c5) S w7 ∧ Sl (fun k => ¬ K k) (.slice a6 S.length c6) S w7 ∧ Nw w w7))))))) := by
  have hh := hand_any W1 (.slice a L c) plain (Sl.later hp hN1) (by omega)
  rw [hL] at hh
  refine hh.mono ?_
  rintro e w1 ⟨g0, c0, rfl, hO0, hg0, hNh⟩
  have hw1 : Nw w w1 := hN1.trans hNh
  have hlm : (plain ++ mk5).length = L + 5 := by simp [mk5, hL]
  obtain ⟨c0', e0, hc1, hc2, hcut⟩ := hO0.cut L (by omega)
  injection e0 with _ _ e0
  subst e0
  rw [hlm] at hc1
  have htake : (plain ++ mk5).take L = plain := by rw [← hL]; exact List.take_left
  rw [htake] at hcut
  have hin : ∀ V, Nw w1 V → Old V (.slice (some ⟨g0, 0, none⟩) L c0) plain := fun V hV => Sl.later hcut.old hV
  refine ⟨g0, c0, rfl, hc1, hc2, KEY _ hNh, KEY _ hNh.drew, ?_⟩
  show Calls _ _ _ _ _
  refine (hE w1.drew _ _ (hin _ (Fr.refl _ _).drew)).mono ?_
  rintro e w2 ⟨a2, c2, rfl, hM2, hN2⟩
  have hN2' : Nw w1 w2 := ((Fr.refl _ w1).drew).trans hN2
  refine ⟨a2, c2, rfl, KEY _ (hNh.trans hN2'), KEY _ (hNh.trans hN2').drew, ?_⟩
  show Calls _ _ _ _ _
  refine (hE w2.drew _ _ (hin _ hN2'.drew)).mono ?_
  rintro e w3 ⟨a3, c3, rfl, hM3, hN3⟩
  have hN3' : Nw w2 w3 := ((Fr.refl _ w2).drew).trans hN3
  refine ⟨a3, c3, rfl, KEY _ ((hNh.trans hN2').trans hN3'), ?_⟩
  show Calls _ _ _ _ _
  refine (hD w3 _ _ (Sl.later hp ((hw1.trans hN2').trans hN3'))).mono ?_
  rintro e w4 ⟨a4, c4, rfl, hM4, hN4⟩
  refine ⟨a4, c4, rfl, ?_⟩
  show Calls _ _ _ _ _
  refine (hS w4 _ _ (hin _ ((hN2'.trans hN3').trans hN4))).mono ?_
  rintro e w5 ⟨a5, c5, rfl, hM5, hN5⟩
  refine ⟨a5, c5, rfl, ?_⟩
  show Calls _ _ _ _ _
  refine (hT w5 _ _ (Sl.later hp ((((hw1.trans hN2').trans hN3').trans hN4).trans hN5))).mono ?_
  rintro e w6 ⟨a6, c6, rfl, hM6, hN6⟩
  have h26 : Nw w2 w6 := ((hN3'.trans hN4).trans hN5).trans hN6
  have h36 : Nw w3 w6 := (hN4.trans hN5).trans hN6
  have h46 : Nw w4 w6 := hN5.trans hN6
  have h16 : Nw w1 w6 := hN2'.trans h26
  refine ⟨a6, c6, rfl, conv_any (hM2.nw h26).old, conv_any (hM4.nw h46).old, conv_any (hM5.nw hN6).old, conv_any hM6.old, ?_⟩
  show Calls _ _ _ _ _
  have hs1 := hw1.size
  have hs01 := hN1.size
  have hs2 := hN2'.size
  have hs3 := hN3'.size
  have hs4 := hN4.size
  have hs5 := hN5.size
  have hs6 := hN6.size
  have hg1 := hO0.lt
  have hd1 : w1.drew.heap.size = w1.heap.size := rfl
  have hd2 : w2.drew.heap.size = w2.heap.size := rfl
  rw [hd1] at hM2
  rw [hd2] at hM3
  refine (left_any w6 g0 (L + 5) c0 _ plain ((Sl.nw hp (hw1.trans h16)).mono (fun k hk => by show w.heap.size ≤ k; omega)) (by rw [hL]) (hO0.nw h16) (by omega)).mono ?_
  rintro e w7 ⟨rfl, hF7⟩
  have hs7 := hF7.size
  refine ⟨rfl, fun k => k < w1.heap.size ∨ (w2.heap.size ≤ k ∧ k < w7.heap.size), fun k hk => by omega, fun k hk => .inl (by omega), ?_, ?_, ?_, ?_, ?_, Fr.then (hw1.trans h16) hF7 (fun i hi => .inr (by omega))⟩
  · rcases hM2 with h | ⟨g, h1, h2⟩
    · exact .inl h
    · have h3 := h2.lt
      have h4 : ¬ g < w1.heap.size := h1
      exact .inr ⟨g, fun h => by omega, (h2.nw h26).kept hF7 (fun h => by omega)⟩
  · exact (((hM3.nw h36).slk (X := fun k => k = g0 ∨ ¬ (k < w1.heap.size ∨ (w2.heap.size ≤ k ∧ k < w7.heap.size))) (fun g h1 h2 h3 => by omega)).kept hF7 (fun g hg => .inl hg)).mono (fun g hg => .inr hg)
  · exact (((hM4.nw h46).slk (X := fun k => k = g0 ∨ ¬ (k < w1.heap.size ∨ (w2.heap.size ≤ k ∧ k < w7.heap.size))) (fun g h1 h2 h3 => by omega)).kept hF7 (fun g hg => .inl hg)).mono (fun g hg => .inr hg)
  · exact (((hM5.nw hN6).slk (X := fun k => k = g0 ∨ ¬ (k < w1.heap.size ∨ (w2.heap.size ≤ k ∧ k < w7.heap.size))) (fun g h1 h2 h3 => by omega)).kept hF7 (fun g hg => .inl hg)).mono (fun g hg => .inr hg)
  · exact ((hM6.slk (X := fun k => k = g0 ∨ ¬ (k < w1.heap.size ∨ (w2.heap.size ≤ k ∧ k < w7.heap.size))) (fun g h1 h2 h3 => by omega)).kept hF7 (fun g hg => .inl hg)).mono (fun g hg => .inr hg)
set_option maxHeartbeats 40000000 in
set_option maxRecDepth 100000 in
theorem fe_walk (w : World) (a : Option Addr) (L c : Nat) (plain : List By) (hL : plain.length = L) (hp : Old w (.slice a L c) plain) (hpl : L ≤ 140737488351232) (k u : Int) (b1 b2 b3 b4 : Bool) :
    Calls Try.prog 3 #[.slice a L c, .agg #[.int .i64 k, .bool b1, .bool b2, .bool b3, .bool b4], .int .i64 u] w fun e w' => e = .returned (.bool true) ∧ Nw w w' := by
  obtain ⟨P, hP⟩ : ∃ P : Ending → World → Prop, P = fun e w' => e = .returned (.bool true) ∧ Nw w w' := ⟨_, rfl⟩
  rw [← hP]
  obtain ⟨R, y, hE, hD, hRl⟩ := enc_ans k b1 b2 b3 b4 plain
  obtain ⟨S, z, hS, hT⟩ := skip_ans u plain
  rw [hL] at hE hD hS hT
  obtain ⟨W1, hW1⟩ : ∃ W1, w.alloc (.cells #[.int .i64 k, .bool b1, .bool b2, .bool b3, .bool b4] 24) = W1 := ⟨_, rfl⟩
  have hrow : W1.heap[w.heap.size]? = some (.cells #[.int .i64 k, .bool b1, .bool b2, .bool b3, .bool b4] 24) := by
    rw [← hW1]
    show (w.heap.push _)[w.heap.size]? = _
    rw [Array.getElem?_push_size]
  have hN1 : Nw w W1 := by rw [← hW1]; exact (Fr.refl _ _).alloc _
  have HH : Hid (Calls Try.prog 9 #[.slice a L c] W1 _) := fe_chain w W1 a L c plain hL hp hpl k u b1 b2 b3 b4 R S y z hE hD hS hT hN1 (fun V hV => ⟨hV.cell (row_cell hrow 0 _ rfl).1, hV.cell (row_cell hrow 1 _ rfl).1, hV.cell (row_cell hrow 2 _ rfl).1, hV.cell (row_cell hrow 3 _ rfl).1, hV.cell (row_cell hrow 4 _ rfl).1⟩)
  have HT : Hid (∀ V, Nw w V → P (.returned (.bool true)) V) := fun V hV => by rw [hP]; exact ⟨rfl, hV⟩
  have HW1 : Hid (w.alloc (.cells #[.int .i64 k, .bool b1, .bool b2, .bool b3, .bool b4] 24) = W1) := hW1
  clear hP hrow hN1 hW1 hE hD hS hT hp
  obtain ⟨N, hN⟩ : ∃ N, R.length = N := ⟨_, rfl⟩
  obtain ⟨M, hM⟩ : ∃ M, S.length = M := ⟨_, rfl⟩
  rw [hN] at hRl
  have HNn : Hid (R.length = N) := hN
  rw [hN, hM] at HH
  have hz0 : (L : Int) ≤ 140737488351232 := by omega
  clear hN hM hL
  obtain ⟨sr, hsr⟩ : ∃ sr, str R = sr := ⟨_, rfl⟩
  obtain ⟨ss, hss⟩ : ∃ ss, str S = ss := ⟨_, rfl⟩
  have HSR : Hid (str R = sr) := hsr
  have HSS : Hid (str S = ss) := hss
  rw [hsr, hss] at HH
  clear hsr hss
  go_enter Try.func3, Try.ntmps3
  go_upto_region 1 with fail
  rw [HW1.out]
  go_upto_region 2 with (first | (go_at_call 9; with_reducible refine HH.out.mono ?_; rintro e w1 ⟨g0, c0, rfl, hc1, hc2, k0, k1, HE1⟩))
  unfold ShC at k0 k1
  have hz1 : (L : Int) ≤ (c0 : Int) := by omega
  go_region_held3 (fun w' => w'.cell? ⟨w.heap.size, 0, none⟩ = some (.int .i64 k) ∧ w'.cell? ⟨w.heap.size, 1, none⟩ = some (.bool b1) ∧ w'.cell? ⟨w.heap.size, 2, none⟩ = some (.bool b2) ∧ w'.cell? ⟨w.heap.size, 3, none⟩ = some (.bool b3) ∧ w'.cell? ⟨w.heap.size, 4, none⟩ = some (.bool b4))
    (first | assumption)
    (first | (go_at_call 10; with_reducible refine (HE1.out).mono ?_; rintro e w2 ⟨a2, c2, rfl, k2, k3, HE2⟩; unfold ShC at k2 k3))
  clear k0 k1
  go_upto_region 3 with fail
  go_region_held3 (fun w' => w'.cell? ⟨w.heap.size, 0, none⟩ = some (.int .i64 k) ∧ w'.cell? ⟨w.heap.size, 1, none⟩ = some (.bool b1) ∧ w'.cell? ⟨w.heap.size, 2, none⟩ = some (.bool b2) ∧ w'.cell? ⟨w.heap.size, 3, none⟩ = some (.bool b3) ∧ w'.cell? ⟨w.heap.size, 4, none⟩ = some (.bool b4))
    (first | assumption)
    (first | (go_at_call 10; with_reducible refine (HE2.out).mono ?_; rintro e w3 ⟨a3, c3, rfl, k4, HL3⟩; unfold ShC at k4))
  clear k2 k3
  obtain ⟨y0, y1, y2, y3, y4⟩ := k4
  go_wp2_with (first | (go_at_call 11; with_reducible refine HL3.out.mono ?_; rintro e w4 ⟨a4, c4, rfl, HS4⟩; clear y0 y1 y2 y3 y4) | (go_at_call 12; with_reducible refine HS4.out.mono ?_; rintro e w5 ⟨a5, c5, rfl, HD5⟩) | (go_at_call 13; with_reducible refine HD5.out.mono ?_; rintro e w6 ⟨a6, c6, rfl, f1, f2, f3, f4, HL6⟩) | (go_at_call 14; with_reducible refine HL6.out.mono ?_; rintro e w7 ⟨rfl, K, HK⟩; clear f1 f2 f3 f4))
  clear HH HE1 HE2 HL3 HS4 HD5 HL6
  go_loopg [18] N (fun kx vi wr => ∃ (i : Nat), i ≤ N ∧ N - i ≤ kx ∧ vi = .int .i64 i ∧ Hid (∃ xs : List By, xs.length = N ∧ Mine K (.slice a2 N c2) xs wr ∧ Fr (fun k => ¬ K k) w7 wr))
  case atStart => exact ⟨0, by omega, by omega, rfl, R, HNn.out, HK.out.2.2.1, Fr.refl _ _⟩
  case round =>
    obtain ⟨i, hi, hkx, rfl, HI⟩ := hrel
    obtain ⟨xs, hxl, hMi, hF⟩ := HI.out
    by_cases hlt : i < N
    · have hz : (i : Int) < (N : Int) := by omega
      obtain ⟨g, hgK, rfl, hO⟩ : ∃ g, ¬ K g ∧ a2 = some ⟨g, 0, none⟩ ∧ Ow g (.slice a2 N c2) xs wr := by
        rcases hMi with ⟨_, h⟩ | ⟨g, h3, h4⟩
        · rw [h] at hxl; simp at hxl; omega
        · have h4' := h4
          obtain ⟨ys, e3, _⟩ := h4'
          injection e3 with e3
          exact ⟨g, h3, e3, h4⟩
      obtain ⟨⟨q, x1⟩, x2⟩ : (∃ q, wr.cell? ⟨g, i, none⟩ = some q) ∧ wr.frozen? ⟨g, i, none⟩ = false := ⟨⟨_, (hO.at i (by omega)).1⟩, (hO.at i (by omega)).2⟩
      have HN : Hid (∃ xs : List By, xs.length = N ∧ Mine K (.slice (some ⟨g, 0, none⟩) N c2) xs (wr.setCell ⟨g, i, none⟩ (.int .u8 238)) ∧ Fr (fun k => ¬ K k) w7 (wr.setCell ⟨g, i, none⟩ (.int .u8 238))) := ⟨_, by rw [List.length_set]; exact hxl, .inr ⟨g, hgK, hO.put i (by omega) 238#8 238 (by decide)⟩, hF.setCell _ _ (.inl hgK)⟩
      clear HI hO hxl hF HT hMi HK HSR HSS HNn
      go_wp2_with fail
      go_roundg (N - (i + 1))
      all_goals (first | omega | exact ⟨i + 1, by omega, by omega, by first | rfl | (congr 1), HN.out⟩)
    · have hz : ¬ (i : Int) < (N : Int) := by omega
      obtain ⟨hK, hKw, hMR, s3, s4, s5, s6, hNw7⟩ := HK.out
      have hx9 : Ow wr.heap.size (.slice (some ⟨wr.heap.size, 0, none⟩) 1 1) [221#8] (wr.alloc (.cells #[.int .u8 221] 5)) := ⟨[221#8], rfl, rfl, by simp, by simp, by
        show (wr.heap.push _)[wr.heap.size]? = _
        rw [Array.getElem?_push_size]; rfl⟩
      have hNa : Nw wr (wr.alloc (.cells #[.int .u8 221] 5)) := (Fr.refl _ _).alloc _
      obtain ⟨v9, W9, hap9, _, hF9⟩ := mine_app K (wr.alloc (.cells #[.int .u8 221] 5)) (fun k hk => by have := hK k hk; have := hF.size; have := hNa.size; omega) _ xs (hMi.nw hNa) _ [221#8] (hx9.old.mono (fun _ h => h.elim)) (by simp; omega)
      have HAP9 : Hid (∀ ty, (Builtin.append_ #[22, 22] ty #[.slice a2 N c2, .slice (some ⟨wr.heap.size, 0, none⟩) 1 1]).run Try.prog (wr.alloc (.cells #[.int .u8 221] 5)) = .ok v9 W9) := hap9
      have hF79 : Fr (fun k => ¬ K k) w7 W9 := (hF.trans hNa.any).trans hF9
      have HF' : Hid (P (.returned (.bool true)) W9) := HT.out _ (Fr.then hNw7 hF79 (fun k hk => .inr (by
        by_cases h : k < w.heap.size
        · exact absurd (hKw k h) hk
        · omega)))
      have f3 := conv_any (s3.kept hF79 (fun k hk => hk))
      have f4 := conv_any (s4.kept hF79 (fun k hk => hk))
      have f5 := conv_any (s5.kept hF79 (fun k hk => hk))
      have f6 := conv_any (s6.kept hF79 (fun k hk => hk))
      rw [HSR.out] at f3 f4
      rw [HSS.out] at f5 f6
      clear HI hMi hF HT HK hK hKw hMR s3 s4 s5 s6 hNw7 hx9 hNa hap9 hF9 hF79 hxl
      go_wp2_with (first | (at_builtin; refine Lib.wpList_append_run _ rfl _ _ 22 22 rfl (.slice a2 N c2) (.slice (some ⟨wr.heap.size, 0, none⟩) 1 1) (by simp [Act.eval]) (by simp [Act.eval]) _ _ (HAP9.out _) ?_))
      exact HF'.out
end Go.Proofs.Ytdeefemeiggolaa

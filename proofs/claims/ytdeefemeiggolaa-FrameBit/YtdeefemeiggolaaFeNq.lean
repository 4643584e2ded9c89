import Derived.Test.YtdeefemeiggolaaFeMq
namespace Go.Proofs.Ytdeefemeiggolaa
open Go.RowKit
set_option linter.unusedVariables false
/-! ### laid -/
set_option maxHeartbeats 40000000 in
set_option maxRecDepth 100000 in
theorem laid_ok (w : World) (s : Shp) (h1 : 4 ≤ s.block) (h2 : s.block ≤ 7) (a : Option Addr) (g o L c : Nat) (plain : List By) (hL : plain.length = L) (hp : Old w (.slice a L c) plain) (ha : 0 < L → a = some ⟨g, o, none⟩ ∧ g < w.heap.size ∧ Rd g o plain w) (hLc : L ≤ c) (hc : c < 9223372036854775808) (hLl : L ≤ 4194304) :
    Calls Try.prog 11 #[.slice a L c, .agg #[.int .i64 s.block, .bool s.alone, .bool s.bsum, .bool s.csum, .bool s.csize]] w fun e w' => ∃ a' l' c' bl, e = .returned (.tuple #[.slice a' l' c', .int .i64 0]) ∧ EncB s plain 0 bl ∧ Mine (fun k => k < w.heap.size) (.slice a' l' c') (frameB s plain bl) w' ∧ Nw w w' := by
  obtain ⟨P, hP⟩ : ∃ P : Ending → World → Prop, P = fun e w' => ∃ a' l' c' bl, e = .returned (.tuple #[.slice a' l' c', .int .i64 0]) ∧ EncB s plain 0 bl ∧ Mine (fun k => k < w.heap.size) (.slice a' l' c') (frameB s plain bl) w' ∧ Nw w w' := ⟨_, rfl⟩
  rw [← hP]
  obtain ⟨W1, hW1⟩ : ∃ W1, w.alloc (.cells #[.int .i64 s.block, .bool s.alone, .bool s.bsum, .bool s.csum, .bool s.csize] 24) = W1 := ⟨_, rfl⟩
  have hrow : W1.heap[w.heap.size]? = some (.cells #[.int .i64 s.block, .bool s.alone, .bool s.bsum, .bool s.csum, .bool s.csize] 24) := by
    rw [← hW1]
    show (w.heap.push _)[w.heap.size]? = _
    rw [Array.getElem?_push_size]
  have hN1 : Nw w W1 := by rw [← hW1]; exact (Fr.refl _ _).alloc _
  have KEY : Hid (∀ V, Nw W1 V → V.cell? ⟨w.heap.size, 0, none⟩ = some (.int .i64 s.block) ∧ V.cell? ⟨w.heap.size, 1, none⟩ = some (.bool s.alone) ∧ V.cell? ⟨w.heap.size, 2, none⟩ = some (.bool s.bsum) ∧ V.cell? ⟨w.heap.size, 3, none⟩ = some (.bool s.csum) ∧ V.cell? ⟨w.heap.size, 4, none⟩ = some (.bool s.csize)) := fun V hV => ⟨hV.cell (row_cell hrow 0 _ rfl).1, hV.cell (row_cell hrow 1 _ rfl).1, hV.cell (row_cell hrow 2 _ rfl).1, hV.cell (row_cell hrow 3 _ rfl).1, hV.cell (row_cell hrow 4 _ rfl).1⟩
  have HH : Hid (Calls Try.prog 23 #[.agg #[.int .i64 s.block, .bool s.alone, .bool s.bsum, .bool s.csum, .bool s.csize]] W1 fun e w2 => e = .returned (.bool true) ∧ (w2.cell? ⟨w.heap.size, 0, none⟩ = some (.int .i64 s.block) ∧ w2.cell? ⟨w.heap.size, 1, none⟩ = some (.bool s.alone) ∧ w2.cell? ⟨w.heap.size, 2, none⟩ = some (.bool s.bsum) ∧ w2.cell? ⟨w.heap.size, 3, none⟩ = some (.bool s.csum) ∧ w2.cell? ⟨w.heap.size, 4, none⟩ = some (.bool s.csize)) ∧ Hid (Calls Try.prog 24 #[.slice a L c, .agg #[.int .i64 s.block, .bool s.alone, .bool s.bsum, .bool s.csum, .bool s.csize]] w2 fun e w4 => ∃ a4 ps c4 M, e = .returned (.slice a4 M c4) ∧ M ≤ 4194304 ∧ Hid (M = ps.length ∧ M ≤ 4194304 ∧ Cuts L (2 ^ (8 + 2 * s.block)) 0 ps L ∧ MineV (fun k => k < w2.heap.size) (.slice a4 M c4) (ps.map (pv g o c)) w4 ∧ Nw W1 w4))) := by
    show Calls _ _ _ _ _
    refine (dCan_any W1 s.block s.alone s.bsum s.csum s.csize).mono ?_
    rintro e w2 ⟨rfl, hN2⟩
    refine ⟨by rw [decide_eq_true ⟨by omega, by omega⟩], KEY.out w2 hN2, ?_⟩
    show Calls _ _ _ _ _
    refine (dPieces_any w2 s h1 h2 a g o L c (fun h => (ha h).1) hLc hc hLl).mono ?_
    rintro e w4 ⟨a4, ps, c4, rfl, hcu, hMV, hN4⟩
    have hMl : ps.length ≤ 4194304 := by have := hcu.le (Nat.one_le_two_pow); omega
    exact ⟨a4, ps, c4, ps.length, rfl, hMl, rfl, hMl, hcu, hMV, hN2.trans hN4⟩
  have HFIN : Hid (∀ V a' l' c' bl, EncB s plain 0 bl ∧ Mine (fun k => k < w.heap.size) (.slice a' l' c') (frameB s plain bl) V ∧ Nw w V → P (.returned (.tuple #[.slice a' l' c', .int .i64 0])) V) := fun V a' l' c' bl h => by rw [hP]; exact ⟨a', l', c', bl, rfl, h⟩
  have HW1 : Hid (w.alloc (.cells #[.int .i64 s.block, .bool s.alone, .bool s.bsum, .bool s.csum, .bool s.csize] 24) = W1) := hW1
  have HALL : Hid (plain.length = L ∧ Old w (.slice a L c) plain ∧ (0 < L → a = some ⟨g, o, none⟩ ∧ g < w.heap.size ∧ Rd g o plain w) ∧ Nw w W1) := ⟨hL, hp, ha, hN1⟩
  obtain ⟨e0, e1, e2, e3, e4⟩ := KEY.out W1 (Fr.refl _ _)
  have hz0 : ¬ (4194304 : Int) < (L : Int) := by omega
  clear hP hrow hN1 hW1 hL hp ha
  go_enter Try.func11, Try.ntmps11
  go_upto_region 1 with fail
  rw [HW1.out]
  go_wp2_with (first | (go_at_call 23; with_reducible refine HH.out.mono ?_; rintro e w2 ⟨rfl, ⟨y0, y1, y2, y3, y4⟩, HPC⟩) | (go_at_call 24; with_reducible refine HPC.out.mono ?_; rintro e w4 ⟨ap, ps, cp, M, rfl, hMb, HK⟩))
  clear HH HPC e0 e1 e2 e3 e4 y0 y1 y2 y3 y4
  go_loopg [7, 8, 9] M (fun kx vb vf vi wr => ∃ (i p : Nat) (la : Option Addr) (lo lc : Nat), i ≤ M ∧ M - i ≤ kx ∧ vi = .int .i64 i ∧ vf = .int .i64 p ∧ vb = .slice la lo lc ∧ Hid ((∀ x, ps[i]? = some x → p = x.1) ∧ LdI s plain ps w4 i (.slice la lo lc) wr))
  case atStart => exact ⟨0, 0, none, 0, 0, by omega, by omega, rfl, rfl, rfl, fun x hx => (HK.out.2.2.1.at0 x hx).symm, LdI.start s plain ps w4⟩
  case round =>
    obtain ⟨i, p, la, lo, lc, hi, hkx, rfl, rfl, rfl, HI⟩ := hrel
    obtain ⟨hL, hp, ha, hN1⟩ := HALL.out
    obtain ⟨hM, hMl, hcu, hMV, hN4⟩ := HK.out
    obtain ⟨hpx, hLd⟩ := HI.out
    have hNr : Nw w4 wr := by obtain ⟨K, bks, vals, _, _, _, _, _, _, _, h⟩ := hLd; exact h
    have hw4 : Nw w w4 := hN1.trans hN4
    obtain ⟨c0, c1, c2, c3, c4⟩ := KEY.out wr (hN4.trans hNr)
    by_cases hlt : i < M
    · obtain ⟨x, hx⟩ : ∃ x, ps[i]? = some x := ⟨_, List.getElem?_eq_getElem (by omega)⟩
      obtain ⟨f, m⟩ := x
      obtain ⟨hxl, hxm⟩ := hcu.get i _ hx
      obtain rfl : p = f := hpx _ hx
      obtain ⟨rfl, hgw, hrd⟩ := ha (by omega)
      obtain ⟨gl, hap, hOl⟩ : ∃ gl, ap = some ⟨gl, 0, none⟩ ∧ OwV gl (.slice ap M cp) (ps.map (pv g o c)) w4 := by
        rcases hMV with ⟨_, h⟩ | ⟨gl, h3, h4⟩
        · rw [List.map_eq_nil_iff] at h; rw [h] at hx; simp at hx
        · obtain ⟨_, e3, _, _⟩ := h4.form
          injection e3 with e3
          exact ⟨gl, e3, h4⟩
      subst hap
      have zp4 := (hOl.cell i (pv g o c (p, m)) (by rw [List.getElem?_map, hx]; rfl)).1
      have hnext : ∀ y, ps[i + 1]? = some y → p + m = y.1 := fun y hy => (hcu.next i _ y hx hy).symm
      simp only [pv] at zp4 hxl hxm
      have zp := hNr.cell zp4
      have hmL : p + m ≤ L := by rw [hxm]; omega
      have htk : (tk plain p m).length = m := tk_length plain p m (by omega)
      have hvx : Old w4 (.slice (some ⟨g, o + p, none⟩) m (c - p)) (tk plain p m) := by
        refine .inr ⟨g, by have := hw4.size; omega, o + p, c - p, by rw [htk], by rw [htk]; omega, by omega, ?_⟩
        exact Rd.nw ((hrd.drop p).take m) hw4
      have hpr : Old wr (.slice (some ⟨g, o, none⟩) p c) (plain.take p) := by
        have hlf : (plain.take p).length = p := by rw [List.length_take]; omega
        refine .inr ⟨g, by have := (hw4.trans hNr).size; omega, o, c, by rw [hlf], by rw [hlf]; omega, by omega, ?_⟩
        exact Rd.nw (hrd.take p) (hw4.trans hNr)
      have hal : s.alone = true ∨ s.alone = false := by cases s.alone <;> simp
      have hz1 : (i : Int) < (M : Int) := by omega
      have hz2 : (p : Int) ≤ (c : Int) := by omega
      have hz3 : (p : Int) + (m : Int) < 9223372036854775808 := by omega
      rcases hal with hal | hal
      · obtain ⟨g1, c1', W5, HAP1, HEN⟩ := laid_step s plain ps w4 wr wr i lo la lc hLd (Fr.refl _ _) (by omega) (p, m) hx _ hvx (by rw [htk]; omega) (.slice none 0 0) (by rw [if_pos hal]; exact .inl ⟨_, rfl, rfl⟩) (by omega)
        simp only at HAP1 HEN
        rw [htk] at HAP1 HEN
        obtain ⟨of, hof⟩ : ∃ of, o + p = of := ⟨_, rfl⟩
        obtain ⟨cf, hcf⟩ : ∃ cf, c - p = cf := ⟨_, rfl⟩
        have zpa : (wr.alloc (.cells #[] 5)).cell? ⟨gl, i, none⟩ = some (.slice (some ⟨g, o + p, none⟩) m (c - p)) := Nw.cell ((Fr.refl _ _).alloc _) zp
        rw [hof, hcf] at zp HAP1 zp4 zpa
        rw [hal] at c1
        have HZ4 : Hid (w4.cell? ⟨gl, i, none⟩ = some (.slice (some ⟨g, of, none⟩) m cf)) := zp4
        have HNX : Hid (∀ y, ps[i + 1]? = some y → p + m = y.1) := hnext
        have HKX : Hid (M - i ≤ gk ∧ i < M) := ⟨hkx, hlt⟩
        clear HALL HK HI hp ha hN1 hM hMl hcu hMV hN4 hpx hLd hNr hw4 KEY hgw hrd hOl zp4 hnext hxm hmL htk hvx hpr HFIN hx hal hL hkx hlt hof hcf hxl hLl hLc
        go_wp2_with (first | (at_builtin; refine Lib.wpList_append_run _ rfl _ _ 22 22 rfl (.slice (some ⟨wr.heap.size, 0, none⟩) 0 0) (.slice (some ⟨g, of, none⟩) m cf) (by simp [Act.eval]) (by simp [Act.eval]) _ _ (HAP1.out _) ?_) | (go_at_call 25; with_reducible refine HEN.out.mono ?_; rintro e w3 ⟨a3, l3, c3', rfl, la', lc', W, HAP2, hcl, HL2⟩; have zq := hcl _ _ HZ4.out; clear hcl) | (at_builtin; refine Lib.wpList_append_run _ rfl _ _ 52 52 rfl (.slice la lo lc) (.slice (some ⟨w3.heap.size, 0, none⟩) 1 1) (by simp [Act.eval]) (by simp [Act.eval]) _ _ (HAP2.out _) ?_))
        have hkk := HKX.out
        go_roundg (M - (i + 1))
        all_goals (first | omega | exact ⟨i + 1, p + m, la', lo + 1, lc', by omega, by omega, by first | rfl | (congr 1), by first | rfl | (congr 1), rfl, HNX.out, HL2.out⟩)
      · obtain ⟨v5, W5, hap5, hM5, hF5⟩ := mine_app (fun k => k < wr.heap.size) wr (fun k h => h) (.slice none 0 0) [] (Mine.nil _ _) (.slice (some ⟨g, o, none⟩) p c) (plain.take p) (hpr.mono (fun _ h => h.elim)) (by simp; omega)
        obtain ⟨a5, c5, rfl, _, _⟩ := hM5.sl.form
        have hN5 : Nw wr W5 := hF5.mono (fun k hk => .inr (by omega))
        have hL5 : ([] ++ plain.take p).length = p := by rw [List.nil_append, List.length_take]; omega
        rw [hL5] at hap5 hM5
        rw [List.nil_append] at hM5
        have HAP5 : Hid (∀ ty, (Builtin.append_ #[22, 22] ty #[.slice none 0 0, .slice (some ⟨g, o, none⟩) p c]).run Try.prog wr = .ok (.slice a5 p c5) W5) := hap5
        obtain ⟨g1, c1', W6, HAP1, HEN⟩ := laid_step s plain ps w4 wr W5 i lo la lc hLd hN5 (by omega) (p, m) hx _ hvx (by rw [htk]; omega) (.slice a5 p c5) (by rw [if_neg (by rw [hal]; decide)]; exact hM5.old) (by omega)
        simp only at HAP1 HEN
        rw [htk] at HAP1 HEN
        have zp5 := hN5.cell zp
        obtain ⟨of, hof⟩ : ∃ of, o + p = of := ⟨_, rfl⟩
        obtain ⟨cf, hcf⟩ : ∃ cf, c - p = cf := ⟨_, rfl⟩
        have zpa : (W5.alloc (.cells #[] 5)).cell? ⟨gl, i, none⟩ = some (.slice (some ⟨g, o + p, none⟩) m (c - p)) := Nw.cell ((Fr.refl _ _).alloc _) zp5
        rw [hof, hcf] at zp HAP1 zp4 zp5 zpa
        rw [hal] at c1
        have HZ4 : Hid (w4.cell? ⟨gl, i, none⟩ = some (.slice (some ⟨g, of, none⟩) m cf)) := zp4
        have HNX : Hid (∀ y, ps[i + 1]? = some y → p + m = y.1) := hnext
        have HKX : Hid (M - i ≤ gk ∧ i < M) := ⟨hkx, hlt⟩
        clear HALL HK HI hp ha hN1 hM hMl hcu hMV hN4 hpx hLd hNr hw4 KEY hgw hrd hOl zp4 hnext hxm hmL htk hvx hpr HFIN hx hal hL hkx hlt hof hcf hxl hLl hLc hap5 hM5 hF5 hN5 hL5
        go_wp2_with (first | (at_builtin; refine Lib.wpList_append_run _ rfl _ _ 22 22 rfl (.slice none 0 0) (.slice (some ⟨g, o, none⟩) p c) (by simp [Act.eval]) (by simp [Act.eval]) _ _ (HAP5.out _) ?_) | (at_builtin; refine Lib.wpList_append_run _ rfl _ _ 22 22 rfl (.slice (some ⟨W5.heap.size, 0, none⟩) 0 0) (.slice (some ⟨g, of, none⟩) m cf) (by simp [Act.eval]) (by simp [Act.eval]) _ _ (HAP1.out _) ?_) | (go_at_call 25; with_reducible refine HEN.out.mono ?_; rintro e w3 ⟨a3, l3, c3', rfl, la', lc', W, HAP2, hcl, HL2⟩; have zq := hcl _ _ HZ4.out; clear hcl) | (at_builtin; refine Lib.wpList_append_run _ rfl _ _ 52 52 rfl (.slice la lo lc) (.slice (some ⟨w3.heap.size, 0, none⟩) 1 1) (by simp [Act.eval]) (by simp [Act.eval]) _ _ (HAP2.out _) ?_))
        have hkk := HKX.out
        go_roundg (M - (i + 1))
        all_goals (first | omega | exact ⟨i + 1, p + m, la', lo + 1, lc', by omega, by omega, by first | rfl | (congr 1), by first | rfl | (congr 1), rfl, HNX.out, HL2.out⟩)
    · obtain rfl : i = M := by omega
      obtain ⟨K, bks, vals, hK, hK4, hMv, hvl, hbl, hB, hE, _⟩ := hLd
      have hlo : lo = i := by
        obtain ⟨_, _, e, _, _⟩ := hMv.form
        injection e with _ e
        omega
      have HLY : Hid (Calls Try.prog 26 #[.slice a L c, .agg #[.int .i64 s.block, .bool s.alone, .bool s.bsum, .bool s.csum, .bool s.csize], .slice la lo lc] wr fun e w' => ∃ a' l' c', e = .returned (.slice a' l' c') ∧ Hid (P (.returned (.tuple #[.slice a' l' c', .int .i64 0])) w')) := by
        show Calls _ _ _ _ _
        obtain ⟨g2, hg2, hcells⟩ : ∃ g2, (0 < i → la = some ⟨g2, 0, none⟩) ∧ ∀ (j : Nat) (u : Value), vals[j]? = some u → wr.cell? ⟨g2, j, none⟩ = some u := by
          rcases hMv with ⟨_, h⟩ | ⟨gl, h3, h4⟩
          · rw [h] at hvl
            exact ⟨0, fun h => by simp at hvl; omega, fun j u hu => by rw [h] at hu; simp at hu⟩
          · obtain ⟨_, e3, _, _⟩ := h4.form
            injection e3 with e3
            exact ⟨gl, fun _ => e3, fun j u hu => (h4.cell j u hu).1⟩
        rw [hlo]
        refine (dLay_any wr s h1 h2 a g o L c plain hL (Sl.later hp (hw4.trans hNr)) (fun h => ⟨(ha h).1, by have := (ha h).2.1; have := (hw4.trans hNr).size; omega, (ha h).2.2.nw (hw4.trans hNr)⟩) hLc hc hLl ps hcu bks (by omega) la g2 i lc hM.symm hg2 (fun j bk hj => ?_)).mono ?_
        · obtain ⟨va, vc, q1, q2, q3⟩ := hB j bk hj
          exact ⟨va, vc, hcells j _ q1, q2.mono (fun k hk h => by have := hK k h; omega), q3⟩
        · rintro e w' ⟨a', l', c', rfl, hMi, hNi⟩
          refine ⟨a', l', c', rfl, ?_⟩
          show P _ _
          refine HFIN.out w' a' l' c' _ ⟨?_, hMi.more (fun k hk => .inl (by have := (hw4.trans hNr).size; omega)), (hw4.trans hNr).trans hNi⟩
          rw [hM]
          exact layI_encB s plain ps bks 0 (by rw [hL]; exact hcu) (by omega) hE
      have hz1 : ¬ (i : Int) < (i : Int) := by omega
      clear HALL HK HI hp ha hN1 hM hMl hcu hMV hN4 hpx hNr hw4 KEY HFIN hL hkx hlt hLl hLc hK hK4 hMv hvl hbl hB hE hlo
      go_wp2_with (first | (go_at_call 26; with_reducible refine HLY.out.mono ?_; rintro e w5 ⟨a', l', c', rfl, HF⟩))
      exact HF.out
end Go.Proofs.Ytdeefemeiggolaa

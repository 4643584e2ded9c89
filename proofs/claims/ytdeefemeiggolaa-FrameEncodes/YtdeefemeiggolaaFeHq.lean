import Derived.Test.YtdeefemeiggolaaFeGq
namespace Go.Proofs.Ytdeefemeiggolaa
open Go.RowKit
set_option linter.unusedVariables false
set_option maxHeartbeats 40000000 in
set_option maxRecDepth 100000 in
theorem dLay_any (w : World) (s : Shp) (h1 : 4 ≤ s.block) (h2 : s.block ≤ 7) (a : Option Addr) (g o L c : Nat) (plain : List By) (hL : plain.length = L) (hp : Old w (.slice a L c) plain) (ha : 0 < L → a = some ⟨g, o, none⟩ ∧ g < w.heap.size ∧ Rd g o plain w) (hLc : L ≤ c) (hc : c < 9223372036854775808) (hLl : L ≤ 4194304)
    (ps : List (Nat × Nat)) (hps : Cuts L (2 ^ (8 + 2 * s.block)) 0 ps L) (bks : List (List By)) (hbk : bks.length = ps.length) (a2 : Option Addr) (g2 M c2 : Nat) (hM : ps.length = M) (ha2 : 0 < M → a2 = some ⟨g2, 0, none⟩)
    (hB : ∀ i bk, bks[i]? = some bk → ∃ va vc, w.cell? ⟨g2, i, none⟩ = some (.slice va bk.length vc) ∧ Old w (.slice va bk.length vc) bk ∧ bk.length ≤ 100000000) :
    Calls Try.prog 26 #[.slice a L c, .agg #[.int .i64 s.block, .bool s.alone, .bool s.bsum, .bool s.csum, .bool s.csize], .slice a2 M c2] w fun e w' => ∃ a' l' c', e = .returned (.slice a' l' c') ∧ Mine (fun k => k < w.heap.size) (.slice a' l' c') (frameB s plain (layI s.bsum plain (ps.zip bks) M)) w' ∧ Nw w w' := by
  obtain ⟨P, hP⟩ : ∃ P : Ending → World → Prop, P = fun e w' => ∃ a' l' c', e = .returned (.slice a' l' c') ∧ Mine (fun k => k < w.heap.size) (.slice a' l' c') (frameB s plain (layI s.bsum plain (ps.zip bks) M)) w' ∧ Nw w w' := ⟨_, rfl⟩
  rw [← hP]
  obtain ⟨W1, hW1⟩ : ∃ W1, w.alloc (.cells #[.int .i64 s.block, .bool s.alone, .bool s.bsum, .bool s.csum, .bool s.csize] 24) = W1 := ⟨_, rfl⟩
  have hrow : W1.heap[w.heap.size]? = some (.cells #[.int .i64 s.block, .bool s.alone, .bool s.bsum, .bool s.csum, .bool s.csize] 24) := by
    rw [← hW1]
    show (w.heap.push _)[w.heap.size]? = _
    rw [Array.getElem?_push_size]
  have hN1 : Nw w W1 := by rw [← hW1]; exact (Fr.refl _ _).alloc _
  have hs1 : W1.heap.size = w.heap.size + 1 := by rw [← hW1]; simp
  have hMl : M ≤ 4194304 := by have := hps.le (Nat.one_le_two_pow); omega
  have HH : Hid (Calls Try.prog 44 #[.agg #[.int .i64 s.block, .bool s.alone, .bool s.bsum, .bool s.csum, .bool s.csize], .int .i64 L] W1 fun e w3 => ∃ a3 l3 c3, e = .returned (.slice a3 l3 c3) ∧ (w3.cell? ⟨w.heap.size, 0, none⟩ = some (.int .i64 s.block) ∧ w3.cell? ⟨w.heap.size, 1, none⟩ = some (.bool s.alone) ∧ w3.cell? ⟨w.heap.size, 2, none⟩ = some (.bool s.bsum) ∧ w3.cell? ⟨w.heap.size, 3, none⟩ = some (.bool s.csum) ∧ w3.cell? ⟨w.heap.size, 4, none⟩ = some (.bool s.csize)) ∧ Hid (Calls Try.prog 24 #[.slice a L c, .agg #[.int .i64 s.block, .bool s.alone, .bool s.bsum, .bool s.csum, .bool s.csize]] w3 fun e w4 => ∃ a4 c4, e = .returned (.slice a4 M c4) ∧ ∃ K : Nat → Prop, Hid ((∀ k, K k → k < w4.heap.size) ∧ (∀ k, k ≤ w.heap.size → K k) ∧ MineV (fun k => ¬ K k) (.slice a4 M c4) (ps.map (pv g o c)) w4 ∧ Mine K (.slice a3 l3 c3) (lows 407708164 4 ++ fhead s L) w4 ∧ Nw W1 w4))) := by
    show Calls _ _ _ _ _
    refine (dhead_any W1 s h1 h2 L hLl).mono ?_
    rintro e w3 ⟨a3, l3, c3, rfl, hM3, hN3⟩
    have hcell := fun j v (hv : (#[Value.int .i64 s.block, .bool s.alone, .bool s.bsum, .bool s.csum, .bool s.csize] : Array Value)[j]? = some v) => hN3.cell (row_cell hrow j v hv).1
    refine ⟨a3, l3, c3, rfl, ⟨hcell 0 _ rfl, hcell 1 _ rfl, hcell 2 _ rfl, hcell 3 _ rfl, hcell 4 _ rfl⟩, ?_⟩
    show Calls _ _ _ _ _
    refine (dPieces_any w3 s h1 h2 a g o L c (fun h => (ha h).1) hLc hc hLl).mono ?_
    rintro e w4 ⟨a4, ps', c4, rfl, hcu, hMV, hN4⟩
    obtain rfl := hps.uniq hcu
    subst hM
    refine ⟨a4, c4, rfl, fun k => k < w4.heap.size ∧ (k < W1.heap.size ∨ w3.heap.size ≤ k), fun k hk => hk.1, fun k hk => ⟨?_, .inl (by omega)⟩, ?_, ?_, hN3.trans hN4⟩
    · have := (hN3.trans hN4).size; omega
    · rcases hMV with h | ⟨gl, h3, h4⟩
      · exact .inl h
      · exact .inr ⟨gl, fun hk => hk ⟨h4.lt, .inr (by omega)⟩, h4⟩
    · rcases hM3 with h | ⟨g3, h3, h4⟩
      · exact .inl h
      · refine .inr ⟨g3, fun hk => ?_, h4.nw hN4⟩
        have := h4.lt
        rcases hk.2 with hk | hk
        · exact h3 hk
        · omega
  have HFIN : Hid (∀ V a' l' c', Mine (fun k => k < w.heap.size) (.slice a' l' c') (frameB s plain (layI s.bsum plain (ps.zip bks) M)) V ∧ Nw w V → P (.returned (.slice a' l' c')) V) := fun V a' l' c' h => by rw [hP]; exact ⟨a', l', c', rfl, h⟩
  have HW1 : Hid (w.alloc (.cells #[.int .i64 s.block, .bool s.alone, .bool s.bsum, .bool s.csum, .bool s.csize] 24) = W1) := hW1
  have HALL : Hid (plain.length = L ∧ Old w (.slice a L c) plain ∧ (0 < L → a = some ⟨g, o, none⟩ ∧ g < w.heap.size ∧ Rd g o plain w) ∧ Cuts L (2 ^ (8 + 2 * s.block)) 0 ps L ∧ bks.length = ps.length ∧ ps.length = M ∧ (0 < M → a2 = some ⟨g2, 0, none⟩) ∧ (∀ i bk, bks[i]? = some bk → ∃ va vc, w.cell? ⟨g2, i, none⟩ = some (.slice va bk.length vc) ∧ Old w (.slice va bk.length vc) bk ∧ bk.length ≤ 100000000) ∧ Nw w W1 ∧ W1.heap[w.heap.size]? = some (.cells #[.int .i64 s.block, .bool s.alone, .bool s.bsum, .bool s.csum, .bool s.csize] 24)) := ⟨hL, hp, ha, hps, hbk, hM, ha2, hB, hN1, hrow⟩
  clear hP hrow hN1 hW1 hL hp ha hps hbk hM ha2 hB hs1
  obtain ⟨e0, e1, e2, e3, e4⟩ : W1.cell? ⟨w.heap.size, 0, none⟩ = some (.int .i64 s.block) ∧ W1.cell? ⟨w.heap.size, 1, none⟩ = some (.bool s.alone) ∧ W1.cell? ⟨w.heap.size, 2, none⟩ = some (.bool s.bsum) ∧ W1.cell? ⟨w.heap.size, 3, none⟩ = some (.bool s.csum) ∧ W1.cell? ⟨w.heap.size, 4, none⟩ = some (.bool s.csize) := by
    have hrow := HALL.out.2.2.2.2.2.2.2.2.2
    exact ⟨(row_cell hrow 0 _ rfl).1, (row_cell hrow 1 _ rfl).1, (row_cell hrow 2 _ rfl).1, (row_cell hrow 3 _ rfl).1, (row_cell hrow 4 _ rfl).1⟩
  go_enter Try.func26, Try.ntmps26
  go_upto_region 1 with fail
  rw [HW1.out]
  go_wp2_with (first | (go_at_call 44; with_reducible refine HH.out.mono ?_; rintro e w3 ⟨a3, l3, c3, rfl, ⟨y0, y1, y2, y3, y4⟩, HPC⟩) | (go_at_call 24; with_reducible refine HPC.out.mono ?_; rintro e w4 ⟨ap, cp, rfl, K, HK⟩))
  clear HH HPC e0 e1 e2 e3 e4 y0 y1 y2 y3 y4
  go_loopg [7, 9] M (fun kx vout vi wr => ∃ (i : Nat) (a7 : Option Addr) (l7 c7 : Nat), i ≤ M ∧ M - i ≤ kx ∧ vi = .int .i64 i ∧ vout = .slice a7 l7 c7 ∧ Hid (Mine K (.slice a7 l7 c7) (lows 407708164 4 ++ fhead s L ++ layI s.bsum plain (ps.zip bks) i) wr ∧ Fr (fun k => ¬ K k) w4 wr))
  case atStart =>
    refine ⟨0, a3, l3, c3, by omega, by omega, rfl, rfl, ?_, Fr.refl _ _⟩
    have : layI s.bsum plain (ps.zip bks) 0 = [] := by unfold layI; simp
    rw [this, List.append_nil]; exact HK.out.2.2.2.1
  case round =>
    obtain ⟨i, a7, l7, c7, hi, hkx, rfl, rfl, HI⟩ := hrel
    have hKw : ∀ k, K k → k < w4.heap.size := HK.out.1
    have hKl : ∀ k, k ≤ w.heap.size → K k := HK.out.2.1
    have hN4 : Nw w w4 := HALL.out.2.2.2.2.2.2.2.2.1.trans HK.out.2.2.2.2
    have hcell : ∀ {q : Addr} {v : Value}, w4.cell? q = some v → K q.block → wr.cell? q = some v := fun h hk => HI.out.2.cellv h (fun hx => hx hk)
    have hrow4 := HK.out.2.2.2.2.heap HALL.out.2.2.2.2.2.2.2.2.2
    have z2 : wr.cell? ⟨w.heap.size, 2, none⟩ = some (.bool s.bsum) := hcell (row_cell hrow4 2 _ rfl).1 (hKl _ (Nat.le_refl _))
    have z3 : wr.cell? ⟨w.heap.size, 3, none⟩ = some (.bool s.csum) := hcell (row_cell hrow4 3 _ rfl).1 (hKl _ (Nat.le_refl _))
    have hacc : (lows 407708164 4 ++ fhead s L ++ layI s.bsum plain (ps.zip bks) i).length ≤ 100000000000000 := by
      have h5 := layI_length s.bsum plain (ps.zip bks) i (by rw [HALL.out.1]; exact hLl) (by omega)
      have h6 : (fhead s L).length ≤ 20 := by unfold fhead fhd; split <;> simp [lows_length]
      rw [List.length_append, List.length_append, lows_length]; omega
    have hslw : ∀ {v : Value} {l : List By}, Old w v l → Sl (fun k => ¬ K k) v l w4 := fun h => (Sl.nw h hN4).mono (fun k hk => by
      by_cases hx : w.heap.size ≤ k
      · exact hx
      · exact absurd (hKl k (by omega)) hk)
    by_cases hlt : i < M
    · obtain ⟨hL, hp, ha, hps, hbk, hM, ha2, hB, hN1, hrow⟩ := HALL.out
      obtain ⟨x, hx⟩ : ∃ x, ps[i]? = some x := ⟨_, List.getElem?_eq_getElem (by omega)⟩
      obtain ⟨bk, hbki⟩ : ∃ bk, bks[i]? = some bk := ⟨_, List.getElem?_eq_getElem (by omega)⟩
      obtain ⟨hxl, hxm⟩ := hps.get i x hx
      have hz : (ps.zip bks)[i]? = some (x, bk) := List.getElem?_zip_eq_some.2 ⟨hx, hbki⟩
      obtain ⟨va, vc, hcb, hob, hbkl⟩ := hB i bk hbki
      obtain ⟨rfl, hgw, hrd⟩ := ha (by omega)
      obtain rfl := ha2 (by omega)
      have zb := hcell (hN4.cell hcb) (hKl _ (Nat.le_of_lt (World.block_lt_of_cell? _ _ hcb)))
      obtain ⟨gl, hgl, hap, hOl⟩ : ∃ gl, K gl ∧ ap = some ⟨gl, 0, none⟩ ∧ OwV gl (.slice ap M cp) (ps.map (pv g o c)) w4 := by
        rcases HK.out.2.2.1 with ⟨_, h⟩ | ⟨gl, h3, h4⟩
        · rw [List.map_eq_nil_iff] at h; rw [h] at hx; simp at hx
        · obtain ⟨_, e3, _, _⟩ := h4.form
          injection e3 with e3
          exact ⟨gl, Classical.not_not.1 h3, e3, h4⟩
      subst hap
      have zp := hcell (hOl.cell i (pv g o c x) (by rw [List.getElem?_map, hx]; rfl)).1 hgl
      obtain ⟨f, m⟩ := x
      simp only [pv] at zp hxl hxm
      have hmL : f + m ≤ L := by rw [hxm]; omega
      have htk : (tk plain f m).length = m := tk_length plain f m (by omega)
      have hsp : Sl (fun k => ¬ K k) (.slice (some ⟨g, o + f, none⟩) m (c - f)) (tk plain f m) w4 := by
        refine .inr ⟨g, fun h => h (hKl g (by omega)), o + f, c - f, by rw [htk], by rw [htk]; omega, by omega, ?_⟩
        exact Rd.nw ((hrd.drop f).take m) hN4
      have hsb := hslw hob
      have hsucc := layI_succ s.bsum plain (ps.zip bks) i ((f, m), bk) hz
      simp only at hsucc
      obtain ⟨bl, hbl⟩ : ∃ bl, bk.length = bl := ⟨_, rfl⟩
      rw [hbl] at zb hsb hbkl
      obtain ⟨of, hof⟩ : ∃ of, o + f = of := ⟨_, rfl⟩
      obtain ⟨cf, hcf⟩ : ∃ cf, c - f = cf := ⟨_, rfl⟩
      rw [hof, hcf] at zp hsp
      have hzi : (i : Int) < (M : Int) := by omega
      have hml : m ≤ 4194304 := by omega
      by_cases hpl : m ≤ bl
      · have hst : stnum (tk plain f m) bk = m + 2147483648 ∧ stood (tk plain f m) bk = tk plain f m := by
          have : plainer (tk plain f m) bk = true := by unfold plainer; rw [htk, hbl]; exact decide_eq_true hpl
          unfold stnum stood; rw [this, htk]; exact ⟨rfl, rfl⟩
        obtain ⟨num, hnum⟩ : ∃ num, m + 2147483648 = num := ⟨_, rfl⟩
        have HR := lay_round K w4 wr hKw HI.out.2 _ _ HI.out.1 hacc _ _ hsp (by rw [htk]; omega) num (by omega) (fun V => V.cell? ⟨w.heap.size, 2, none⟩ = some (.bool s.bsum)) (fun V hV => hV.cellv (row_cell hrow4 2 _ rfl).1 (fun hx => hx (hKl _ (Nat.le_refl _))))
        have hblk : blkOf s.bsum (tk plain f m) bk = lows num 4 ++ tk plain f m ++ (if s.bsum = true then lows (sm (tk plain f m)) 4 else []) := by unfold blkOf; rw [hst.1, hst.2, hnum]
        have HE1 : Hid (s.bsum = false → ∀ v V, Mine K v (lows 407708164 4 ++ fhead s L ++ layI s.bsum plain (ps.zip bks) i ++ lows num 4 ++ tk plain f m) V ∧ Fr (fun k => ¬ K k) w4 V → Hid (Mine K v (lows 407708164 4 ++ fhead s L ++ layI s.bsum plain (ps.zip bks) (i + 1)) V ∧ Fr (fun k => ¬ K k) w4 V)) := by
          intro hbs v V h
          refine ⟨?_, h.2⟩
          rw [hsucc, hblk, if_neg (by rw [hbs]; decide)]
          have := h.1
          simp only [List.append_assoc, List.append_nil] at this ⊢
          exact this
        have HE2 : Hid (s.bsum = true → ∀ v V, Mine K v (lows 407708164 4 ++ fhead s L ++ layI s.bsum plain (ps.zip bks) i ++ lows num 4 ++ tk plain f m ++ lows (sm (tk plain f m)) 4) V ∧ Fr (fun k => ¬ K k) w4 V → Hid (Mine K v (lows 407708164 4 ++ fhead s L ++ layI s.bsum plain (ps.zip bks) (i + 1)) V ∧ Fr (fun k => ¬ K k) w4 V)) := by
          intro hbs v V h
          refine ⟨?_, h.2⟩
          rw [hsucc, hblk, if_pos hbs]
          have := h.1
          simp only [List.append_assoc] at this ⊢
          exact this
        have q1 : (m : Int) ≤ (bl : Int) := by omega
        have q2 : (m : Int) + 2147483648 = (num : Int) := by omega
        have q3 : IntKind.u64.wrap (num : Int) = (num : Int) := by rw [IntKind.wrap_u64]; omega
        have q4 : IntKind.u64.wrap (m : Int) = (m : Int) := by rw [IntKind.wrap_u64]; omega
        clear HALL HK HI hKw hKl hN4 hcell hrow4 hslw hacc hL hp hps hbk hM ha2 hB hN1 hrow hx hbki hxm hz hcb hob hrd hOl htk hsp hsb hsucc hst hblk HFIN ha hmL hof hcf hbl hgl hgw hbkl z3
        generalize layI s.bsum plain (ps.zip bks) i = ac at HR HE1 HE2
        have hbc : s.bsum = false ∨ s.bsum = true := by cases s.bsum <;> simp
        rcases hbc with hbs | hbs
        · have HE := HE1.out hbs
          have HEE : Hid _ := HE
          rw [hbs] at z2 HR
          clear HE1 HE2 HE
          have HBS : Hid _ := hbs
          clear hbs
          go_wp2_with (first | (go_at_call 28; with_reducible refine HR.out.mono ?_; rintro e w1 ⟨a1, l1, c1, rfl, a3, l3, c3, W3, HAP3, a4, l4, c4, W4, HAP4, hS4, HM4, HSM⟩) | (at_builtin; refine Lib.wpList_append_run _ rfl _ _ 22 22 rfl (.slice a7 l7 c7) (.slice a1 l1 c1) (by simp [Act.eval]) (by simp [Act.eval]) _ _ (HAP3.out _) ?_) | (at_builtin; refine Lib.wpList_append_run _ rfl _ _ 22 22 rfl (.slice a3 l3 c3) (.slice (some ⟨g, of, none⟩) m cf) (by simp [Act.eval]) (by simp [Act.eval]) _ _ (HAP4.out _) ?_))
          go_roundg (M - (i + 1))
          all_goals (first | omega | exact ⟨i + 1, a4, l4, c4, by omega, by omega, by first | rfl | (congr 1), rfl, HEE.out _ _ HM4.out⟩)
        · have HE := HE2.out hbs
          have HEE : Hid _ := HE
          rw [hbs] at z2 HR
          clear HE1 HE2 HE
          have HBS : Hid _ := hbs
          clear hbs
          go_wp2_with (first | (go_at_call 28; with_reducible refine HR.out.mono ?_; rintro e w1 ⟨a1, l1, c1, rfl, a3, l3, c3, W3, HAP3, a4, l4, c4, W4, HAP4, hS4, HM4, HSM⟩) | (at_builtin; refine Lib.wpList_append_run _ rfl _ _ 22 22 rfl (.slice a7 l7 c7) (.slice a1 l1 c1) (by simp [Act.eval]) (by simp [Act.eval]) _ _ (HAP3.out _) ?_) | (at_builtin; refine Lib.wpList_append_run _ rfl _ _ 22 22 rfl (.slice a3 l3 c3) (.slice (some ⟨g, of, none⟩) m cf) (by simp [Act.eval]) (by simp [Act.eval]) _ _ (HAP4.out _) ?_) | (go_at_call 45; with_reducible refine HSM.out.mono ?_; rintro e w5 ⟨q, rfl, hq, HL2⟩) | (go_at_call 28; with_reducible refine HL2.out.mono ?_; rintro e w6 ⟨a6, l6, c6, rfl, a8, l8, c8, W8, HAP8, HM8⟩) | (at_builtin; refine Lib.wpList_append_run _ rfl _ _ 22 22 rfl (.slice a4 l4 c4) (.slice a6 l6 c6) (by simp [Act.eval]) (by simp [Act.eval]) _ _ (HAP8.out _) ?_))
          go_roundg (M - (i + 1))
          all_goals (first | omega | exact ⟨i + 1, a8, l8, c8, by omega, by omega, by first | rfl | (congr 1), rfl, HEE.out _ _ HM8.out⟩)
      · have hst : stnum (tk plain f m) bk = bl ∧ stood (tk plain f m) bk = bk := by
          have : plainer (tk plain f m) bk = false := by unfold plainer; rw [htk, hbl]; exact decide_eq_false hpl
          unfold stnum stood; rw [this, hbl]; exact ⟨rfl, rfl⟩
        obtain ⟨num, hnum⟩ : ∃ num, bl = num := ⟨_, rfl⟩
        have HR := lay_round K w4 wr hKw HI.out.2 _ _ HI.out.1 hacc _ _ hsb (by rw [hbl]; omega) num (by omega) (fun V => V.cell? ⟨w.heap.size, 2, none⟩ = some (.bool s.bsum)) (fun V hV => hV.cellv (row_cell hrow4 2 _ rfl).1 (fun hx => hx (hKl _ (Nat.le_refl _))))
        have hblk : blkOf s.bsum (tk plain f m) bk = lows num 4 ++ bk ++ (if s.bsum = true then lows (sm bk) 4 else []) := by unfold blkOf; rw [hst.1, hst.2, hnum]
        have HE1 : Hid (s.bsum = false → ∀ v V, Mine K v (lows 407708164 4 ++ fhead s L ++ layI s.bsum plain (ps.zip bks) i ++ lows num 4 ++ bk) V ∧ Fr (fun k => ¬ K k) w4 V → Hid (Mine K v (lows 407708164 4 ++ fhead s L ++ layI s.bsum plain (ps.zip bks) (i + 1)) V ∧ Fr (fun k => ¬ K k) w4 V)) := by
          intro hbs v V h
          refine ⟨?_, h.2⟩
          rw [hsucc, hblk, if_neg (by rw [hbs]; decide)]
          have := h.1
          simp only [List.append_assoc, List.append_nil] at this ⊢
          exact this
        have HE2 : Hid (s.bsum = true → ∀ v V, Mine K v (lows 407708164 4 ++ fhead s L ++ layI s.bsum plain (ps.zip bks) i ++ lows num 4 ++ bk ++ lows (sm bk) 4) V ∧ Fr (fun k => ¬ K k) w4 V → Hid (Mine K v (lows 407708164 4 ++ fhead s L ++ layI s.bsum plain (ps.zip bks) (i + 1)) V ∧ Fr (fun k => ¬ K k) w4 V)) := by
          intro hbs v V h
          refine ⟨?_, h.2⟩
          rw [hsucc, hblk, if_pos hbs]
          have := h.1
          simp only [List.append_assoc] at this ⊢
          exact this
        have q1 : ¬ (m : Int) ≤ (bl : Int) := by omega
        subst hnum
        have q2 : IntKind.u64.wrap (bl : Int) = (bl : Int) := by rw [IntKind.wrap_u64]; omega
        clear HALL HK HI hKw hKl hN4 hcell hrow4 hslw hacc hL hp hps hbk hM ha2 hB hN1 hrow hx hbki hxm hz hcb hob hrd hOl htk hsp hsb hsucc hst hblk HFIN ha hmL hof hcf hbl hgl hgw hbkl z3
        generalize layI s.bsum plain (ps.zip bks) i = ac at HR HE1 HE2
        have hbc : s.bsum = false ∨ s.bsum = true := by cases s.bsum <;> simp
        rcases hbc with hbs | hbs
        · have HE := HE1.out hbs
          have HEE : Hid _ := HE
          rw [hbs] at z2 HR
          clear HE1 HE2 HE
          have HBS : Hid _ := hbs
          clear hbs
          go_wp2_with (first | (go_at_call 28; with_reducible refine HR.out.mono ?_; rintro e w1 ⟨a1, l1, c1, rfl, a3, l3, c3, W3, HAP3, a4, l4, c4, W4, HAP4, hS4, HM4, HSM⟩) | (at_builtin; refine Lib.wpList_append_run _ rfl _ _ 22 22 rfl (.slice a7 l7 c7) (.slice a1 l1 c1) (by simp [Act.eval]) (by simp [Act.eval]) _ _ (HAP3.out _) ?_) | (at_builtin; refine Lib.wpList_append_run _ rfl _ _ 22 22 rfl (.slice a3 l3 c3) (.slice va bl vc) (by simp [Act.eval]) (by simp [Act.eval]) _ _ (HAP4.out _) ?_))
          go_roundg (M - (i + 1))
          all_goals (first | omega | exact ⟨i + 1, a4, l4, c4, by omega, by omega, by first | rfl | (congr 1), rfl, HEE.out _ _ HM4.out⟩)
        · have HE := HE2.out hbs
          have HEE : Hid _ := HE
          rw [hbs] at z2 HR
          clear HE1 HE2 HE
          have HBS : Hid _ := hbs
          clear hbs
          go_wp2_with (first | (go_at_call 28; with_reducible refine HR.out.mono ?_; rintro e w1 ⟨a1, l1, c1, rfl, a3, l3, c3, W3, HAP3, a4, l4, c4, W4, HAP4, hS4, HM4, HSM⟩) | (at_builtin; refine Lib.wpList_append_run _ rfl _ _ 22 22 rfl (.slice a7 l7 c7) (.slice a1 l1 c1) (by simp [Act.eval]) (by simp [Act.eval]) _ _ (HAP3.out _) ?_) | (at_builtin; refine Lib.wpList_append_run _ rfl _ _ 22 22 rfl (.slice a3 l3 c3) (.slice va bl vc) (by simp [Act.eval]) (by simp [Act.eval]) _ _ (HAP4.out _) ?_) | (go_at_call 45; with_reducible refine HSM.out.mono ?_; rintro e w5 ⟨q, rfl, hq, HL2⟩) | (go_at_call 28; with_reducible refine HL2.out.mono ?_; rintro e w6 ⟨a6, l6, c6, rfl, a8, l8, c8, W8, HAP8, HM8⟩) | (at_builtin; refine Lib.wpList_append_run _ rfl _ _ 22 22 rfl (.slice a4 l4 c4) (.slice a6 l6 c6) (by simp [Act.eval]) (by simp [Act.eval]) _ _ (HAP8.out _) ?_))
          go_roundg (M - (i + 1))
          all_goals (first | omega | exact ⟨i + 1, a8, l8, c8, by omega, by omega, by first | rfl | (congr 1), rfl, HEE.out _ _ HM8.out⟩)
    · obtain rfl : i = M := by omega
      have hz1 : ¬ (i : Int) < (i : Int) := by omega
      obtain ⟨hL, hp, _⟩ := HALL.out
      obtain ⟨a4, l4, c4, W4, HAP4, HM4, HSM⟩ := lay_end K w4 wr hKw HI.out.2 _ _ HI.out.1 hacc _ _ (hslw hp)
      have z3' : W4.cell? ⟨w.heap.size, 3, none⟩ = some (.bool s.csum) := HM4.out.2.cellv (row_cell hrow4 3 _ rfl).1 (fun hx => hx (hKl _ (Nat.le_refl _)))
      have hfr : ∀ v l V, Mine K v l V ∧ Fr (fun k => ¬ K k) w4 V → Mine (fun k => k < w.heap.size) v l V ∧ Nw w V := by
        intro v l V h
        refine ⟨?_, Fr.then hN4 h.2 (fun k hk => .inr ?_)⟩
        · rcases h.1 with h | ⟨g3, h3, h4⟩
          · exact .inl h
          · exact .inr ⟨g3, fun hk => h3 (hKl g3 (by omega)), h4⟩
        · by_cases hx : w.heap.size ≤ k
          · exact hx
          · exact absurd (hKl k (by omega)) hk
      have HE1 : Hid (s.csum = false → P (.returned (.slice a4 l4 c4)) W4) := fun h => HFIN.out _ _ _ _ (by
        have := hfr _ _ _ HM4.out
        unfold frameB; rw [hL, if_neg (by rw [h]; decide), List.append_nil]; exact this)
      have HE2 : Hid (s.csum = true → ∀ a8 l8 c8 W8, Mine K (.slice a8 l8 c8) (lows 407708164 4 ++ fhead s L ++ layI s.bsum plain (ps.zip bks) i ++ lows 0 4 ++ lows (sm plain) 4) W8 ∧ Fr (fun k => ¬ K k) w4 W8 → P (.returned (.slice a8 l8 c8)) W8) := fun h a8 l8 c8 W8 hh => HFIN.out _ _ _ _ (by
        have := hfr _ _ _ hh
        unfold frameB; rw [hL, if_pos h]; exact this)
      clear HALL HK HI hKw hKl hN4 hcell hrow4 hslw hacc hL hp HFIN hfr HM4 z2 z3
      cases hcs : s.csum with
      | false =>
        have HF : Hid _ := HE1.out hcs
        rw [hcs] at z3'
        clear HE1 HE2
        go_wp2_with (first | (at_builtin; refine Lib.wpList_append_run _ rfl _ _ 22 22 rfl (.slice a7 l7 c7) (.slice (some ⟨wr.heap.size, 0, none⟩) 4 4) (by simp [Act.eval]) (by simp [Act.eval]) _ _ (HAP4.out _) ?_) | (go_at_call 45; with_reducible refine HSM.out.mono ?_; rintro e w5 ⟨q, rfl, hq, HL2⟩) | (go_at_call 28; with_reducible refine HL2.out.mono ?_; rintro e w6 ⟨a6, l6, c6, rfl, a8, l8, c8, W8, HAP8, HM8⟩) | (at_builtin; refine Lib.wpList_append_run _ rfl _ _ 22 22 rfl (.slice a4 l4 c4) (.slice a6 l6 c6) (by simp [Act.eval]) (by simp [Act.eval]) _ _ (HAP8.out _) ?_))
        exact HF.out
      | true =>
        have HF : Hid _ := HE2.out hcs
        rw [hcs] at z3'
        clear HE1 HE2
        go_wp2_with (first | (at_builtin; refine Lib.wpList_append_run _ rfl _ _ 22 22 rfl (.slice a7 l7 c7) (.slice (some ⟨wr.heap.size, 0, none⟩) 4 4) (by simp [Act.eval]) (by simp [Act.eval]) _ _ (HAP4.out _) ?_) | (go_at_call 45; with_reducible refine HSM.out.mono ?_; rintro e w5 ⟨q, rfl, hq, HL2⟩) | (go_at_call 28; with_reducible refine HL2.out.mono ?_; rintro e w6 ⟨a6, l6, c6, rfl, a8, l8, c8, W8, HAP8, HM8⟩) | (at_builtin; refine Lib.wpList_append_run _ rfl _ _ 22 22 rfl (.slice a4 l4 c4) (.slice a6 l6 c6) (by simp [Act.eval]) (by simp [Act.eval]) _ _ (HAP8.out _) ?_))
        exact HF.out _ _ _ _ HM8.out
end Go.Proofs.Ytdeefemeiggolaa

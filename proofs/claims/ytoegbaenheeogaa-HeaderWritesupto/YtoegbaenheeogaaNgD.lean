import Derived.Test.YtoegbaenheeogaaNgC
namespace Go.Proofs.Ytoegbaenheeogaa
open Go.RowKit
set_option linter.unusedVariables false
/-- A record in memory. -/
def RcH (g : Nat) (L : List By) (w : World) : Prop := w.heap[g]? = some (.cells (rc L) 24)
theorem RcH.set {g : Nat} {L : List By} {w : World} (h : RcH g L w) (j : Nat) (x : By) (z : Int) (hz : z = x.toNat) : RcH g (L.set j x) (w.setCell ⟨g, j, none⟩ (.int .u8 z)) := by
  subst hz
  unfold RcH rc at h ⊢
  simp only [World.setCell, Array.getElem?_modify, h]
  simp [List.map_set]
theorem RcH.cell {g : Nat} {L : List By} {w : World} (h : RcH g L w) (j : Nat) (hj : j < L.length) : w.cell? ⟨g, j, none⟩ = some (.int .u8 L[j].toNat) ∧ w.frozen? ⟨g, j, none⟩ = false := by
  have := rc_at L j hj
  unfold RcH at h
  constructor
  · simp only [World.cell?, h]; simpa using this
  · simp [World.frozen?, h]
theorem RcH.lt {g : Nat} {L : List By} {w : World} (h : RcH g L w) : g < w.heap.size := (Array.getElem?_eq_some_iff.1 h).1
theorem RcH.kept {g : Nat} {L : List By} {w w' : World} {X : Nat → Prop} (h : RcH g L w) (f : Fr X w w') (hx : ¬ X g) : RcH g L w' := (f.block g h.lt hx).trans h
def stg (b : List By) (N j : Nat) : List By := b.take (154 - j) ++ (ol N j ++ b.drop 154)
theorem stg_zero (b : List By) (N : Nat) : stg b N 0 = b := by unfold stg; simp [ol]
theorem stg_length (b : List By) (hb : b.length = 512) (N j : Nat) (hj : j ≤ 6) : (stg b N j).length = 512 := by
  unfold stg
  rw [List.length_append, List.length_append, List.length_take, ol_length, List.length_drop, hb]; omega
theorem take_at (b : List By) (k : Nat) (h : k < b.length) : b.take (k + 1) = b.take k ++ [b[k]] := take_snoc b k h
theorem stg_set (b : List By) (hb : b.length = 512) (N j : Nat) (hj : j < 6) : (stg b N j).set (153 - j) (dg (N / 8 ^ j)) = stg b N (j + 1) := by
  unfold stg
  have e1 : 154 - j = (153 - j) + 1 := by omega
  have e2 : 154 - (j + 1) = 153 - j := by omega
  rw [e1, e2, take_at b (153 - j) (by omega), List.append_assoc, List.singleton_append, ol, List.cons_append]
  have := set_mid (b[153 - j]'(by omega)) (dg (N / 8 ^ j)) (b.take (153 - j)) (ol N j ++ b.drop 154)
  rw [List.length_take, Nat.min_eq_left (by omega)] at this
  exact this
theorem stg_end (b : List By) (hb : b.length = 512) : ((stg b (su (blk b)).toNat 6).set 154 0#8).set 155 32#8 = psm b := by
  unfold stg psm dgl
  have hd : b.drop 154 = b[154] :: b[155] :: b.drop 156 := by rw [List.drop_eq_getElem_cons (by omega), List.drop_eq_getElem_cons (by omega)]
  have hl : (b.take 148 ++ ol (su (blk b)).toNat 6).length = 154 := by rw [List.length_append, List.length_take, ol_length]; omega
  have h1 := set_mid b[154] 0#8 (b.take 148 ++ ol (su (blk b)).toNat 6) (b[155] :: b.drop 156)
  rw [hl, List.append_assoc, List.append_assoc] at h1
  have e : b.take (154 - 6) ++ (ol (su (blk b)).toNat 6 ++ b.drop 154) = b.take 148 ++ (ol (su (blk b)).toNat 6 ++ (b[154] :: b[155] :: b.drop 156)) := by rw [hd]
  rw [e, h1]
  have h2 := set_mid b[155] 32#8 (b.take 148 ++ (ol (su (blk b)).toNat 6 ++ [0#8])) (b.drop 156)
  have hl2 : (b.take 148 ++ (ol (su (blk b)).toNat 6 ++ [0#8])).length = 155 := by rw [List.length_append, List.length_append, List.length_take, ol_length]; simp; omega
  rw [hl2] at h2
  simpa using h2
set_option maxHeartbeats 8000000 in
set_option maxRecDepth 100000 in
theorem rputSum_any (b : List By) (hb : b.length = 512) (w : World) :
    Calls Try.prog 28 #[.agg (rc b)] w fun e w' => e = .returned (.agg (rc (psm b))) ∧ Nw w w' := by
  obtain ⟨P, hP⟩ : ∃ P : Ending → World → Prop, P = fun e w' => e = .returned (.agg (rc (psm b))) ∧ Nw w w' := ⟨_, rfl⟩
  rw [← hP]
  have HF : Hid (∀ W, Nw w W → P (.returned (.agg (rc (psm b)))) W) := fun W hW => by rw [hP]; exact ⟨rfl, hW⟩
  clear hP
  obtain ⟨W1, hW1⟩ : ∃ W1, (w.alloc (.cells (rc b) 24)).alloc (.cells Try.zeroCells24 24) = W1 := ⟨_, rfl⟩
  have hs1 : (w.alloc (.cells (rc b) 24)).heap.size = w.heap.size + 1 := by simp
  have h1 : W1.heap[w.heap.size]? = some (.cells (rc b) 24) := by
    rw [← hW1]
    exact Nw.heap ((Fr.refl _ _).alloc _) (rec_heap w b)
  have h2 : W1.heap[w.heap.size + 1]? = some (.cells Try.zeroCells24 24) := by
    rw [← hW1, ← hs1]; exact newHeap _ _
  have n1 : Nw w W1 := by rw [← hW1]; exact ((Fr.refl _ _).alloc _).alloc _
  have H1 := tHid h1
  have HI := tHid (rc_info b hb)
  obtain ⟨b1, b2⟩ := su_bound (blk b)
  rw [blk_length b hb] at b2
  obtain ⟨N, hN⟩ : ∃ N : Nat, su (blk b) = N := ⟨(su (blk b)).toNat, by omega⟩
  have hNN : (su (blk b)).toNat = N := by omega
  have HSU : Hid (Calls Try.prog 45 #[.agg (rc b)] W1 fun e w' => e = .returned (.tuple #[.int .i64 (N : Int), .int .i64 (ss (blk b))]) ∧ Hid (Nw w w' ∧ RcH w.heap.size b w' ∧ RcH (w.heap.size + 1) zrec w')) := by
    rw [← hN]
    refine (rsums_any b hb W1).mono ?_
    rintro e w' ⟨rfl, h⟩
    refine ⟨rfl, n1.trans h, h.heap h1, ?_⟩
    have := h.heap h2
    rw [zrec_rc] at this
    exact this
  have HIP := tHid (rc_info (psm b) (psm_length b hb))
  have HOP := tHid (rc_one (psm b))
  have HZS : Hid ((rc zrec).size = (rc (psm b)).size) := by
    show _ = _
    rw [rc_size, rc_size, zrec_length, psm_length b hb]
  have HST := tHid (stg_set b hb N)
  have HSL := tHid (fun j hj => stg_length b hb N j hj)
  have HSE := tHid (stg_end b hb)
  rw [hNN] at HSE
  have hN9 : N ≤ 130560 := by omega
  have HZ : Hid (stg b N 0 = b) := stg_zero b N
  clear h1 h2 n1 hs1 hN hNN b1 b2
  generalize ss (blk b) = B at *
  generalize hC : rc b = C at *
  generalize hD : rc (psm b) = D at *
  have HD := tHid hD
  clear hC hD
  go_enter Try.func28, Try.ntmps28
  go_upto_region 2 with (first
    | (refine wpList_load_row rfl 24 _ rfl w.heap.size (by first | rfl | simp [Act.eval]) 24 _ (0, 0) _ H1.out Try.underlying24 rfl HI.out ?_)
    | (go_at_call 45; with_reducible refine HSU.out.mono ?_; rintro e w2 ⟨rfl, K2⟩))
  clear HSU H1 HI
  generalize hG : w.heap.size = G at *
  have HG := tHid hG
  clear hG
  go_wp2_with fail
  go_loopg [3, 5] 6 (fun kx v3 v5 wr => ∃ j : Nat, j ≤ 6 ∧ 6 ≤ j + kx ∧ v3 = .int .i64 ((N / 8 ^ j : Nat) : Int) ∧ v5 = .int .i64 (153 - (j : Int)) ∧ Hid (Nw w wr ∧ RcH G (stg b N j) wr ∧ RcH (G + 1) zrec wr))
  case atStart =>
    refine ⟨0, by omega, by omega, ?_, ?_, K2.out.1, ?_, K2.out.2.2⟩
    · first | rfl | (congr 1; simp)
    · first | rfl | (congr 1; omega) | congr 1
    · rw [HZ.out]; exact K2.out.2.1
  case round =>
    obtain ⟨j, hj, hkx, rfl, rfl, HI⟩ := hrel
    obtain ⟨hN, hR, hR1⟩ := HI.out
    have hGw := HG.out
    by_cases hlt : j < 6
    · obtain ⟨I, hI⟩ : ∃ I, 153 - j = I := ⟨_, rfl⟩
      have hIe : (153 : Int) - (j : Int) = (I : Int) := by omega
      have hl := HSL.out j (by omega)
      obtain ⟨cv, hc1, hc2⟩ : ∃ cv, wr.cell? ⟨G, I, none⟩ = some (.int .u8 cv) ∧ wr.frozen? ⟨G, I, none⟩ = false := ⟨_, hR.cell I (by omega)⟩
      have hs := hR.set I (dg (N / 8 ^ j)) (48 + ((N / 8 ^ j : Nat) : Int) % 8) (by rw [dg_toNat]; omega)
      rw [← hI, HST.out j hlt, hI] at hs
      have hf : Fr (fun k => k = G) wr (wr.setCell ⟨G, I, none⟩ (.int .u8 (48 + ((N / 8 ^ j : Nat) : Int) % 8))) := (Fr.refl _ _).setCell _ _ (.inl rfl)
      have hdv : N / 8 ^ j / 8 = N / 8 ^ (j + 1) := by rw [Nat.div_div_eq_div_mul, Nat.pow_succ]
      have HNX : Hid (Nw w (wr.setCell ⟨G, I, none⟩ (.int .u8 (48 + ((N / 8 ^ j : Nat) : Int) % 8))) ∧ RcH G (stg b N (j + 1)) (wr.setCell ⟨G, I, none⟩ (.int .u8 (48 + ((N / 8 ^ j : Nat) : Int) % 8))) ∧ RcH (G + 1) zrec (wr.setCell ⟨G, I, none⟩ (.int .u8 (48 + ((N / 8 ^ j : Nat) : Int) % 8)))) := ⟨Fr.then hN hf (fun i hi => .inr (by omega)), hs, hR1.kept hf (by omega)⟩
      have hMn : N / 8 ^ j ≤ 130560 := Nat.le_trans (Nat.div_le_self _ _) hN9
      have HDV := tHid hdv
      generalize hM : N / 8 ^ j = M at *
      have hmod : (M : Int).tmod 8 = (M : Int) % 8 := Int.tmod_eq_emod_of_nonneg (by omega)
      have hdiv : (M : Int).tdiv 8 = ((M / 8 : Nat) : Int) := by rw [Int.tdiv_eq_ediv_of_nonneg (by omega)]; omega
      have hI0 : (148 : Int) ≤ (I : Int) := by omega
      have hI2 : (I : Int) < 512 := by omega
      have HKJ := tHid hI
      clear HF HI hN hR hR1 hGw hl hs hf hdv hM hI HIP HOP HZS HST HSL HSE HZ HD K2 HG
      rw [hIe]
      go_wp2_with fail
      go_roundg (6 - (j + 1))
      case measure => omega
      case rel =>
        refine ⟨j + 1, by omega, by omega, ?_, ?_, HNX⟩
        · rw [← HDV.out]; first | rfl | (congr 1)
        · congr 1; have := HKJ.out; omega
    · obtain rfl : j = 6 := by omega
      have h153 : (153 : Int) - ((6 : Nat) : Int) = 147 := by omega
      rw [h153]
      have hl := HSL.out 6 (by omega)
      have s1 := hR.set 154 0#8 0 rfl
      have s2 := s1.set 155 32#8 32 rfl
      rw [HSE.out] at s2
      obtain ⟨cv, hc1, hc2⟩ : ∃ cv, wr.cell? ⟨G, 154, none⟩ = some (.int .u8 cv) ∧ wr.frozen? ⟨G, 154, none⟩ = false := ⟨_, hR.cell 154 (by omega)⟩
      obtain ⟨W3, hW3⟩ : ∃ W3, wr.setCell ⟨G, 154, none⟩ (.int .u8 0) = W3 := ⟨_, rfl⟩
      rw [hW3] at s1 s2
      obtain ⟨cv3, hc3, hc4⟩ : ∃ cv, W3.cell? ⟨G, 155, none⟩ = some (.int .u8 cv) ∧ W3.frozen? ⟨G, 155, none⟩ = false := ⟨_, s1.cell 155 (by rw [List.length_set]; omega)⟩
      obtain ⟨W4, hW4⟩ : ∃ W4, W3.setCell ⟨G, 155, none⟩ (.int .u8 32) = W4 := ⟨_, rfl⟩
      rw [hW4] at s2
      have f3 : Fr (fun k => k = G) wr W3 := by rw [← hW3]; exact (Fr.refl _ _).setCell _ _ (.inl rfl)
      have f4 : Fr (fun k => k = G) W3 W4 := by rw [← hW4]; exact (Fr.refl _ _).setCell _ _ (.inl rfl)
      have r4 : RcH (G + 1) zrec W4 := (hR1.kept f3 (by omega)).kept f4 (by omega)
      obtain ⟨W5, hW5⟩ : ∃ W5, W4.setRow (G + 1) D = W5 := ⟨_, rfl⟩
      have k5 : W5.heap[G + 1]? = some (.cells D 24) := by rw [← hW5]; exact setRow_heap _ _ _ _ 24 _ r4
      have f5 : Fr (fun k => k = G + 1) W4 W5 := by rw [← hW5]; exact (Fr.refl _ _).setRow _ _ (.inl rfl)
      have hNw : Nw w W5 := Fr.then (Fr.then (Fr.then hN f3 (fun i hi => .inr (by omega))) f4 (fun i hi => .inr (by omega))) f5 (fun i hi => .inr (by omega))
      have HF5 := tHid (HF.out _ hNw)
      have K4 : Hid (W4.heap[G]? = some (.cells D 24)) := by rw [← HD.out]; exact s2
      have K4' : Hid (W4.heap[G + 1]? = some (.cells (rc zrec) 24)) := r4
      have K5 := tHid k5
      have E5 := tHid hW5
      clear HF HI hN hR hR1 hGw hl s1 s2 f3 f4 f5 r4 k5 hNw hW5 HST HSL HSE HZ HD K2 HG
      go_wp2_with (first
        | (refine wpList_load_row rfl 24 _ rfl G (by first | rfl | simp [Act.eval]) 24 _ (0, 0) _ K4.out Try.underlying24 rfl HIP.out ?_)
        | (refine wpList_store_row rfl 24 _ _ rfl (G + 1) D (by first | rfl | simp [Act.eval]) (by first | rfl | simp [Act.eval]) 24 _ K4'.out HIP.out HZS.out HOP.out ?_; rw [E5.out]))
      (try simp only [Exit.inBlock, Exit.then])
      refine bodyPost_ret (results_cell_row (P := Try.prog) (p := 2) (ty := 24) rfl _ _ (G + 1) 24 D (0, 0) _ rfl K5.out Try.underlying24 rfl HIP.out) rfl HF5.out
end Go.Proofs.Ytoegbaenheeogaa

import Derived.Test.YtkpkiajehclbhaaVbs
namespace Go.Proofs.Ytkpkiajehclbhaa
open Go.RowKit
set_option linter.unusedVariables false
/-- append, by another name, so that the walk leaves it as it is. -/
def appS (tys : Array TypeId) (ty : TypeId) (args : Array Value) : Sem Value := Builtin.append_ tys ty args
theorem app_fold (tys : Array TypeId) (ty : TypeId) (args : Array Value) : Builtin.append_ tys ty args = appS tys ty args := rfl
/-- What Cost answers. -/
def CoA (cs : List Nat) (m : Nat) (w : World) (e : Ending) (w' : World) : Prop := e = .returned (.int .i64 (((cost (pu cs (m - 1))).take (2 * (cs.length - 1))).sum : Nat)) ∧ Nw w w'
theorem flat_zeros (n : Nat) : (flatR RI (List.replicate n 0)).toArray = (flatR RI (toI (List.replicate n 0))).toArray := by simp [toI]
/-- A package by itself: its box, and its row. -/
def BxI (wr : World) (C L pb gi : Nat) (wx : World) : Prop := wx.heap[pb]? = some (.cells #[.int .i64 (C : Nat), .slice (some ⟨gi, 0, none⟩) L L] 107) ∧ SwR RI gi (toI (List.replicate L 0)) wx ∧ pb ≠ gi ∧ wr.heap.size ≤ pb ∧ wr.heap.size ≤ gi ∧ Nw wr wx
theorem BxI.a (wr : World) (C L : Nat) (Z : Array Value) (hZ : (flatR RI (List.replicate L 0)).toArray = Z) : BxI wr C L (wr.heap.size + 1) wr.heap.size ((wr.alloc (.cells Z 3)).alloc (.cells #[.int .i64 (C : Nat), .slice (some ⟨wr.heap.size, 0, none⟩) L L] 107)).drew := by
  have hN : Nw wr ((wr.alloc (.cells Z 3)).alloc (.cells #[.int .i64 (C : Nat), .slice (some ⟨wr.heap.size, 0, none⟩) L L] 107)).drew := (((Fr.refl _ _).alloc _).alloc _).drew
  refine ⟨?_, ?_, by omega, by omega, Nat.le_refl _, hN⟩
  · show ((wr.alloc _).alloc _).heap[wr.heap.size + 1]? = _
    rw [hp_alloc, if_pos (by simp)]
  · show ((wr.alloc _).alloc _).heap[wr.heap.size]? = _
    rw [hp_alloc, if_neg (by simp), hp_alloc, if_pos rfl, ← hZ, flat_zeros]; rfl
theorem BxI.b (wr : World) (C L : Nat) (Z : Array Value) (hZ : (flatR RI (List.replicate L 0)).toArray = Z) : BxI wr C L wr.heap.size (wr.heap.size + 1) ((wr.alloc (.cells #[.int .i64 (C : Nat), .slice (some ⟨wr.heap.size + 1, 0, none⟩) L L] 107)).alloc (.cells Z 3)).drew := by
  have hN : Nw wr ((wr.alloc (.cells #[.int .i64 (C : Nat), .slice (some ⟨wr.heap.size + 1, 0, none⟩) L L] 107)).alloc (.cells Z 3)).drew := (((Fr.refl _ _).alloc _).alloc _).drew
  refine ⟨?_, ?_, by omega, Nat.le_refl _, by omega, hN⟩
  · show ((wr.alloc _).alloc _).heap[wr.heap.size]? = _
    rw [hp_alloc, if_neg (by simp), hp_alloc, if_pos rfl]
  · show ((wr.alloc _).alloc _).heap[wr.heap.size + 1]? = _
    rw [hp_alloc, if_pos (by simp), ← hZ, flat_zeros]; rfl
attribute [local go_sem ↓] app_fold
set_option maxHeartbeats 64000000 in
set_option maxRecDepth 100000 in
theorem scost_any (w : World) (vo : Value) (os : List Int) (cs : List Nat) (m : Nat) (h : SlR RL (fun k => w.heap.size ≤ k) vo os w) (ho : okO os) (hm1 : 1 ≤ m) (hm2 : m ≤ 15) (hcs : cs.Perm (nums os (psy os os.length))) (hci : Inc cs) (hk2 : 2 ≤ cs.length) (hkm : cs.length ≤ 2 ^ m) : Calls Try.prog 41 #[vo, .int .i64 m] w (CoA cs m w) := by
  obtain ⟨P, hP⟩ : ∃ P : Ending → World → Prop, P = CoA cs m w := ⟨_, rfl⟩
  rw [← hP]
  have HP : Hid (P = CoA cs m w) := hP
  have HS : Hid (∀ V, Nw w V → SlR RL (fun k => w.heap.size ≤ k) vo os V) := fun V hV => h.nw hV
  have HO : Hid (okO os) := ho
  have hl320 := ho.2.2
  have hl0 := ho.2.1
  obtain ⟨ao, co, rfl, hco, hco2, _⟩ := h.form
  have HI0 : Hid (L1I w os 0 w.heap.size 0 0 (w.alloc (.cells #[] 107))) := L1I.start w os
  have hcb : ∀ c ∈ cs, 0 < c ∧ c ≤ 1099511627776 := fun c hc => by
    have hm := hcs.mem_iff.1 hc
    unfold nums at hm
    obtain ⟨y, hy, e⟩ := List.mem_map.1 hm
    have hy2 := (psy_mem os _ y).1 hy
    have := ho.1 y _ (kof_at os y hy2.1)
    omega
  have hk320 : cs.length ≤ 320 := by
    have h1 := hcs.length_eq
    have h2 := psy_len os os.length
    rw [h1]; simp [nums]; omega
  have HT : Hid (((cost (pu cs (m - 1))).take (2 * (cs.length - 1))).sum ≤ 5277655813324800) := total_le cs hci (fun c hc => (hcb c hc).1) (fun c hc => (hcb c hc).2) (m - 1) (by omega) hk2 hk320 (by rw [show m - 1 + 1 = m by omega]; exact hkm)
  have HCB : Hid (∀ c ∈ cs, 0 < c ∧ c ≤ 1099511627776) := hcb
  clear hP h ho hcb
  generalize hL : os.length = L at *
  have HL : Hid (os.length = L) := hL
  clear hL
  have hmk := fun V => make_ints L (by omega) V
  generalize hZ : (flatR RI (List.replicate L 0)).toArray = Z at hmk
  have HZ : Hid ((flatR RI (List.replicate L 0)).toArray = Z) := hZ
  clear hZ
  go_enter Try.func41, Try.ntmps41
  go_wp2
  go_loopg [5, 6] L (fun kx r i wr => ∃ (I g S c : Nat), I ≤ L ∧ L - I ≤ kx ∧ S ≤ I ∧ r = .slice (some ⟨g, 0, none⟩) S c ∧ i = .int .i64 I ∧ S ≤ c ∧ c < 9223372036854775808 ∧ Hid (L1I w os I g S c wr))
  case atStart => exact ⟨0, w.heap.size, 0, 0, by omega, by omega, by omega, rfl, rfl, by omega, by omega, HI0⟩
  case round =>
    clear HI0
    obtain ⟨I, g, S, c, hI, hkx, hSI, rfl, rfl, hSc, hc2, HI⟩ := hrel
    by_cases hlt : I < L
    · have hz : (I : Int) < (L : Int) := by omega
      have hlt' : I < os.length := by rw [HL.out]; exact hlt
      have hNr : Nw w wr := by obtain ⟨_, _, _, _, _, _, hh⟩ := HI.out; exact hh
      obtain ⟨go, oo, rfl, _, ky⟩ := rl_at (HS.out wr hNr) I _ (kof_at os I hlt')
      have hxb := HO.out.1 I _ (kof_at os I hlt')
      obtain ⟨C, hC⟩ : ∃ C : Nat, kof os I = C := ⟨(kof os I).toNat, by omega⟩
      rw [hC] at ky hxb
      by_cases hp : 0 < C
      · have hpi : (0 : Int) < (C : Int) := by omega
        have ky1 : ∀ o, (wr.alloc o).cell? ⟨go, oo + I, none⟩ = some (.int .i64 (C : Nat)) := fun o => Nw.cell ((Fr.refl _ _).alloc _) ky
        have ky2 : ∀ o o', ((wr.alloc o).alloc o').cell? ⟨go, oo + I, none⟩ = some (.int .i64 (C : Nat)) := fun o o' => Nw.cell ((Fr.refl _ _).alloc _) (ky1 o)
        clear hNr
        go_upto_region 6 with fail
        go_cut [7] (fun t7 wx => ∃ pb gi, t7 = .pointer (some ⟨pb, 0, none⟩) ∧ Hid (BxI wr C L pb gi wx))
        case first =>
          clear HI HS HO HP
          go_region
          · go_wp2_with fail
            go_meet
            exact ⟨_, _, rfl, BxI.a wr C L Z HZ.out⟩
          · go_wp2_with fail
            go_meet
            exact ⟨_, _, rfl, BxI.b wr C L Z HZ.out⟩
        case rest =>
          obtain ⟨pb, gi, rfl, HBx⟩ := hcut
          obtain ⟨x1, x2, x3, x4, x5, x6⟩ := HBx.out
          obtain ⟨W4, hW4⟩ : ∃ W4, wc.setCell ⟨gi, I, none⟩ (.int .i64 1) = W4 := ⟨_, rfl⟩
          have k0 := (row_cell x1 0 _ rfl).1
          have k1 := (row_cell x1 1 _ rfl).1
          have kk := x2.cell riOk I 0 _ _ (toI_at _ I (by simp; exact hlt)) rfl
          rw [show RI.k = 1 from rfl, Nat.mul_one, Nat.add_zero] at kk
          obtain ⟨k2, k3⟩ := kk
          obtain ⟨vz, hvz⟩ : ∃ vz : Nat, (List.replicate L 0).getD I 0 = vz := ⟨_, rfl⟩
          rw [hvz] at k2
          have hf : Fr (fun k => k = gi) wc W4 := by rw [← hW4]; exact (Fr.refl _ _).setCell _ _ (.inl rfl)
          have hN4 : Nw wr W4 := Fr.then x6 hf (fun k hk => .inr (by rw [hk]; exact x5))
          have hrow4 : SwR RI gi (toI ((List.replicate L 0).set I 1)) W4 := by
            rw [← hW4, toI_set]; exact x2.set1 I _
          have hbx := row_kept x1 hf x3
          have k4 := (row_cell hbx 0 _ rfl).1
          have k5 := (row_cell hbx 1 _ rfl).1
          obtain ⟨g', c', W, HAP, hN, z1, z2⟩ := HI.out.push (by omega) hlt' (by rw [HL.out]; exact hl320) (by rw [hC]; exact hpi) hN4 C hC gi x5 (by rw [HL.out]; exact hrow4)
          rw [HL.out] at HAP
          have HN : Hid (L1I w os (I + 1) g' (S + 1) c' W) := hN
          have HW4 : Hid (wc.setCell ⟨gi, I, none⟩ (.int .i64 1) = W4) := hW4
          clear HI HS HO HP HBx x1 x2 x6 hvz hf hN4 hrow4 hbx hN hC hW4 ky1 ky2
          go_upto_region 8 with fail
          rw [HW4.out]
          go_wp2_with (first
            | (at_builtin; refine Lib.wpList_append_run _ rfl _ _ 105 105 rfl (.slice (some ⟨g, 0, none⟩) S c) (.slice (some ⟨_, 0, none⟩) 1 1) (by simp [Act.eval]) (by simp [Act.eval]) _ _ (HAP.out _) ?_))
          go_roundg (L - (I + 1))
          case measure => omega
          case rel => exact ⟨I + 1, g', S + 1, c', by omega, by omega, by omega, rfl, by first | rfl | (congr 1), z1, z2, HN⟩
      · have hpi : ¬ (0 : Int) < (C : Int) := by omega
        have HN : Hid (L1I w os (I + 1) g S c wr) := HI.out.skip (by rw [hC]; omega)
        clear HI hNr hC HS HO HP
        go_wp2_with fail
        go_roundg (L - (I + 1))
        case measure => omega
        case rel => exact ⟨I + 1, g, S, c, by omega, by omega, by omega, rfl, by first | rfl | (congr 1), hSc, hc2, HN⟩
    · obtain rfl : I = L := by omega
      have hz : ¬ (I : Int) < (I : Int) := by omega
      have HSo : Hid (Calls Try.prog 60 #[.slice (some ⟨g, 0, none⟩) S c] wr fun e w1 => ∃ g1 c1, e = .returned (.slice (some ⟨g1, 0, none⟩) S c1) ∧ Hid (SgI cs I S g1 c1 w1 ∧ Nw w w1)) := by
        obtain ⟨ss, f1, f2, f3, f4, f5, f6⟩ := HI.out
        rw [HL.out] at f4
        refine (sorted_any wr _ ss ((f2.slr rpOk).mono (fun k hk => by have := f2.lt; omega)) (by omega) (fun x hx => ?_)).mono ?_
        · have hm : x.1 ∈ nums os (psy os I) := by rw [← f3]; exact List.mem_map.2 ⟨x, hx, rfl⟩
          unfold nums at hm
          obtain ⟨y, hy, e⟩ := List.mem_map.1 hm
          have hy2 := (psy_mem os I y).1 hy
          have := HO.out.1 y _ (kof_at os y (by rw [HL.out]; exact hy2.1))
          omega
        · rintro e w1 ⟨g1, c1, qs, rfl, r1, r2, r3, r4, r5⟩
          rw [f1] at r1 ⊢
          refine ⟨g1, c1, rfl, ⟨qs, by rw [r2.length_eq, f1], r1, ?_, ?_⟩, f6.trans r5⟩
          · refine cost_eq r3 ?_ hci hcs
            rw [← f3]
            exact r2.map _
          · exact ((f4.mono (Nat.le_refl _) (fun _ h => h.elim)).nw r5).sub (fun p hp => r2.mem_iff.1 hp)
      have hSk : S = cs.length := by
        obtain ⟨ss, f1, f2, f3, f4, f5, f6⟩ := HI.out
        have := congrArg List.length f3
        rw [List.length_map, f1] at this
        rw [this, hcs.length_eq]
      have HSk : Hid (S = cs.length) := hSk
      have hS2 : 2 ≤ S := by omega
      clear HI HO hSk
      go_wp2_with (first | (go_at_call 60; (with_reducible refine HSo.out.mono ?_); rintro e w1 ⟨g1, c1, rfl, H1⟩))
      clear HSo
      go_loopg [8, 9] m (fun kx l lv wr => ∃ (lev gl N cl : Nat), 1 ≤ lev ∧ lev ≤ m ∧ m - lev ≤ kx ∧ l = .slice (some ⟨gl, 0, none⟩) N cl ∧ lv = .int .i64 lev ∧ Hid (SgI cs I S g1 c1 wr ∧ LvI cs I lev N gl cl wr ∧ Nw w wr))
      case atStart => exact ⟨1, g1, S, c1, by omega, by omega, by omega, rfl, rfl, H1.out.1, H1.out.1.lv, H1.out.2⟩
      case round =>
        clear H1
        obtain ⟨lev, gl, N, cl, hv1, hv2, hkx2, rfl, rfl, HV⟩ := hrel
        obtain ⟨v1, v2, v3⟩ := HV.out
        obtain ⟨hN1, hN2, hN3⟩ := v2.form
        have hN4 := pu_le cs (lev - 1)
        rw [← hN1] at hN4
        have hN5 : N ≤ 640 := by have := HSk.out; omega
        by_cases hlm : lev < m
        · have hzl : (lev : Int) < (m : Int) := by omega
          obtain ⟨ls, l1, l2, l3, l4⟩ := v2
          obtain ⟨wl, hwl⟩ : ∃ wl, wl = wr := ⟨_, rfl⟩
          have HLs : Hid (∀ V, Nw wl V → ∀ J, J < N → ∃ (x1 gx ox xc : Nat) (lx : List Nat), (ls.map Prod.fst)[J]? = some x1 ∧ x1 ≤ 18014398509481984 ∧ V.cell? ⟨gl, J * 2, none⟩ = some (.int .i64 (x1 : Nat)) ∧ V.cell? ⟨gl, J * 2 + 1, none⟩ = some (.slice (some ⟨gx, ox, none⟩) I xc) ∧ I ≤ xc ∧ xc < 9223372036854775808 ∧ ∀ K, K < I → lx.getD K 0 ≤ 2 ^ (lev - 1) ∧ V.cell? ⟨gx, ox + K, none⟩ = some (.int .i64 (lx.getD K 0 : Nat))) := fun V hV J hJ => by
            rw [hwl] at hV
            obtain ⟨⟨x1, xa, xn, xc⟩, hx⟩ : ∃ x, ls[J]? = some x := ⟨_, List.getElem?_eq_getElem (by omega)⟩
            obtain ⟨lx, q1, q2, q3, q4⟩ := l4 _ (List.mem_of_getElem? hx)
            simp only at q3 q4
            subst q3
            have q5 := q4.nw hV
            obtain ⟨a', c', e', r1, r2, _⟩ := q5.form
            rw [toI_length, q1] at e' r1
            cases e'
            obtain ⟨gx, ox, rfl, _, _⟩ := ri_at q5 0 _ (toI_at lx 0 (by omega))
            refine ⟨x1, gx, ox, _, lx, by rw [List.getElem?_map, hx]; rfl, ?_, ((l2.nw hV).cell rpOk J 0 _ _ hx rfl).1, ((l2.nw hV).cell rpOk J 1 _ _ hx rfl).1, r1, r2, fun K hK => ⟨q2 _ (mem_getD (by omega)), ?_⟩⟩
            · have hm : x1 ∈ ls.map Prod.fst := List.mem_map.2 ⟨_, List.mem_of_getElem? hx, rfl⟩
              rw [l3] at hm
              have h1 := pu_bound cs _ (fun c hc => (HCB.out c hc).2) (lev - 1) x1 hm
              have h2 : (2 : Nat) ^ (lev - 1) ≤ 2 ^ 14 := Nat.pow_le_pow_right (by decide) (by omega)
              have h3 : 1099511627776 * 2 ^ (lev - 1) ≤ 1099511627776 * 2 ^ 14 := Nat.mul_le_mul_left _ h2
              omega
            · obtain ⟨gx', ox', e2, _, k⟩ := ri_at q5 K _ (toI_at lx K (by omega))
              injection e2 with e2
              injection e2 with e3 e4
              subst e3 e4
              exact k
          have hB2 : 2 ^ (lev - 1) + 2 ^ (lev - 1) = 2 ^ lev := by
            have : lev = lev - 1 + 1 := by omega
            conv => rhs; rw [this, Nat.pow_succ]
            omega
          have hBb : 2 ^ lev ≤ 32768 := Nat.le_trans (Nat.pow_le_pow_right (by decide) (by omega)) (by decide : (2 : Nat) ^ 15 ≤ 32768)
          generalize 2 ^ (lev - 1) = B1 at *
          obtain ⟨B2, hB2e⟩ : ∃ B2, 2 ^ lev = B2 := ⟨_, rfl⟩
          rw [hB2e] at hB2 hBb
          have HL30 : Hid (L3I wl I B2 ls 0 wr.heap.size 0 (wr.alloc (.cells #[] 107))) := by rw [hwl]; exact L3I.start wr I B2 ls
          have HNxt : Hid (∀ V q g c, q = N / 2 → L3I wl I B2 ls q g c V → ∃ g2 c2 W1 g3 c3 W2, Hid (∀ ty, (Builtin.append_ #[105, 105] ty #[.slice (some ⟨V.heap.size, 0, none⟩) 0 0, .slice (some ⟨g1, 0, none⟩) S c1]).run Try.prog (V.alloc (.cells #[] 107)) = .ok (.slice (some ⟨g2, 0, none⟩) S c2) W1) ∧ Hid (∀ ty, (Builtin.append_ #[105, 105] ty #[.slice (some ⟨g2, 0, none⟩) S c2, .slice (some ⟨g, 0, none⟩) q c]).run Try.prog W1 = .ok (.slice (some ⟨g3, 0, none⟩) (S + q) c3) W2) ∧ Hid (Calls Try.prog 60 #[.slice (some ⟨g3, 0, none⟩) (S + q) c3] W2 fun e w5 => ∃ g5 c5, e = .returned (.slice (some ⟨g5, 0, none⟩) (S + q) c5) ∧ Hid (SgI cs I S g1 c1 w5 ∧ LvI cs I (lev + 1) (S + q) g5 c5 w5 ∧ Nw w w5))) := by
            rintro V q g c hq ⟨pp, p1, p2, p3, p4, p5, p6⟩
            rw [hwl] at p6
            obtain ⟨qs, s1, s2, s3, s4⟩ := v1.nw p6
            obtain ⟨g2, c2, W1, g3, c3, W2, a1, a2, a3, a4, a5⟩ := lv_next V g1 S c1 g q c I B2 qs pp s2 s1 p2 p1 (by omega) (s4.mono (by rw [← hB2e]; exact Nat.one_le_two_pow) (fun _ h => h)) (p4.mono (Nat.le_refl _) (fun _ h => h.elim))
            refine ⟨g2, c2, W1, g3, c3, W2, a1, a2, ?_⟩
            have hpf : pp.map Prod.fst = pr (cost (pu cs (lev - 1))) := by
              rw [p3, l3, List.take_of_length_le (by rw [pr_length, cost_length, ← hN1]; omega)]
            have hlp : lev - 1 + 1 = lev := by omega
            have hperm := mg_perm cs (pr (cost (pu cs (lev - 1))))
            have hpu : mg cs (pr (cost (pu cs (lev - 1)))) = pu cs lev := by
              have : pu cs (lev - 1 + 1) = mg cs (pr (cost (pu cs (lev - 1)))) := rfl
              rw [← this, hlp]
            rw [hpu] at hperm
            have hlen : (qs ++ pp).length = S + q := by simp [s1, p1]
            refine (sorted_any W2 _ (qs ++ pp) (by rw [← hlen] at a3 ⊢; exact (a3.slr rpOk).mono (fun k hk => by have := a3.lt; omega)) (by rw [hlen]; omega) (fun x hx => ?_)).mono ?_
            · have hm : x.1 ∈ cost (pu cs lev) := by
                refine hperm.mem_iff.2 ?_
                rw [← hpf, ← s3, ← List.map_append]
                exact List.mem_map.2 ⟨x, hx, rfl⟩
              have h1 := pu_bound cs _ (fun c hc => (HCB.out c hc).2) lev x.1 hm
              rw [hB2e] at h1
              have h3 : 1099511627776 * B2 ≤ 1099511627776 * 32768 := Nat.mul_le_mul_left _ hBb
              omega
            · rintro e w5 ⟨g5, c5, qs5, rfl, r1, r2, r3, r4, r5⟩
              rw [hlen] at r1 ⊢
              refine ⟨g5, c5, rfl, (v1.nw (p6.trans (a5.trans r5))), ⟨qs5, by rw [r2.length_eq, hlen], r1, ?_, ?_⟩, v3.trans (p6.trans (a5.trans r5))⟩
              · show _ = cost (pu cs (lev + 1 - 1))
                rw [Nat.add_sub_cancel]
                refine cost_eq r3 ?_ (pu_inc cs hci lev).2 hperm
                rw [← hpf, ← s3, ← List.map_append]
                exact r2.map _
              · rw [Nat.add_sub_cancel, hB2e]
                exact (a4.nw r5).sub (fun p hp => r2.mem_iff.1 hp)
          clear HV v1 l2 l4 hN1 HP HT HCB HSk hB2e
          obtain ⟨gw0, hgw0⟩ : ∃ gw0, gw0 = wr.heap.size := ⟨_, rfl⟩
          rw [← hgw0] at HL30
          go_upto_region 15 with fail
          rw [← hgw0]
          generalize wr.alloc (.cells #[] 107) = w30 at *
          clear hgw0 hwl
          go_wp2_with fail
          go_loopg [10, 11] (N + 2) (fun kx pp i wr => ∃ (q g c I2 : Nat), 2 * q ≤ N ∧ N + 2 - 2 * q ≤ kx ∧ pp = .slice (some ⟨g, 0, none⟩) q c ∧ i = .int .i64 I2 ∧ 2 * q = I2 ∧ Hid (L3I wl I B2 ls q g c wr))
          case atStart => exact ⟨0, gw0, 0, 0, by omega, by omega, rfl, rfl, by omega, HL30⟩
          case round =>
            clear HL30
            obtain ⟨q, g, c, I2, hq, hkx3, rfl, rfl, hI2, H3⟩ := hrel
            obtain ⟨I3, hI3⟩ : ∃ I3, I2 + 1 = I3 := ⟨_, rfl⟩
            have hI3i : (I2 : Int) + 1 = (I3 : Int) := by omega
            have hNwr : Nw wl wr := by obtain ⟨_, _, _, _, _, _, hh⟩ := H3.out; exact hh
            by_cases hc3 : I3 < N
            · have hz3 : (I3 : Int) < (N : Int) := by omega
              have hz4 : (I2 : Int) < (N : Int) := by omega
              obtain ⟨x1, gx, ox, xc, lx, fx, bx, kx1, kx2, kx3, kx4, HKx⟩ := HLs.out wr hNwr I2 (by omega)
              obtain ⟨y1, gy, oy, yc, ly, fy, by1, ky1, ky2, ky3, ky4, HKy⟩ := HLs.out wr hNwr I3 hc3
              clear HKx HKy
              obtain ⟨sum, hsum⟩ : ∃ sum, x1 + y1 = sum := ⟨_, rfl⟩
              have hsumi : (x1 : Int) + (y1 : Int) = (sum : Int) := by omega
              have hw1 : IntKind.i64.wrap (I3 : Int) = (I3 : Int) := by rw [IntKind.wrap_i64]; omega
              have hw2 : IntKind.i64.wrap (sum : Int) = (sum : Int) := by rw [IntKind.wrap_i64]; omega
              have HSum : Hid ((pr (ls.map Prod.fst))[q]? = some sum) := by
                have := pr_get (ls.map Prod.fst) q x1 y1 (by rw [hI2]; exact fx) (by rw [hI2, hI3]; exact fy)
                rw [hsum] at this; exact this
              have kxA : ∀ o, (wr.alloc o).cell? ⟨gl, I2 * 2, none⟩ = some (.int .i64 (x1 : Nat)) := fun o => Nw.cell ((Fr.refl _ _).alloc _) kx1
              have kyA : ∀ o, (wr.alloc o).cell? ⟨gl, I3 * 2, none⟩ = some (.int .i64 (y1 : Nat)) := fun o => Nw.cell ((Fr.refl _ _).alloc _) ky1
              have HPb0 : Hid (PbI wr sum B2 wr.heap.size 0 none 0 (wr.alloc (.cells #[.int .i64 (sum : Nat), .slice none 0 0] 107)).drew) := PbI.start wr sum B2
              clear fx fy hNwr kx2 ky2
              go_upto_region 18 with fail
              go_region
              have HPb1 : Hid (PbI wr sum B2 wr.heap.size 0 none 0 (wr.alloc (.cells #[.int .i64 (sum : Nat), .slice none 0 0] 107)).drew) := HPb0
              obtain ⟨pb, hpb⟩ : ∃ pb, pb = wr.heap.size := ⟨_, rfl⟩
              obtain ⟨wq, hwq⟩ : ∃ wq, wq = wr := ⟨_, rfl⟩
              rw [← hpb] at HPb1 ⊢
              generalize (wr.alloc (.cells #[.int .i64 (sum : Nat), .slice none 0 0] 107)).drew = w5 at *
              have HPb1 : Hid (PbI wq sum B2 pb 0 none 0 w5) := by rw [hwq]; exact HPb1
              have H3 : Hid (L3I wl I B2 ls q g c wq) := by rw [hwq]; exact H3
              clear HPb0 hpb hwq kxA kyA kx1 ky1
              go_wp2_with fail
              go_loopg [13] I (fun kx k wr => ∃ (K ci : Nat) (a : Option Addr), K ≤ I ∧ I - K ≤ kx ∧ k = .int .i64 K ∧ Hid (PbI wq sum B2 pb K a ci wr))
              case atStart => exact ⟨0, 0, none, by omega, by omega, rfl, HPb1⟩
              case round =>
                clear HPb1
                obtain ⟨K, ci, a, hK, hkx4, rfl, HPb⟩ := hrel
                have hNq : Nw wl wr := by
                  obtain ⟨_, _, _, _, _, _, hh⟩ := H3.out
                  exact hh.trans HPb.out.nw
                obtain ⟨p0, p1, p2, p3, p4⟩ := HPb.out.cells
                by_cases hKI : K < I
                · have hzK : (K : Int) < (I : Int) := by omega
                  have hNl : Nw wl wq := by obtain ⟨_, _, _, _, _, _, hh⟩ := H3.out; exact hh
                  have hNqr : Nw wq wr := HPb.out.nw
                  obtain ⟨x1, gx, ox, xc, lx, fx, bx, kx1, kx2, kx3, kx4, HKx⟩ := HLs.out wq hNl I2 (by omega)
                  obtain ⟨y1, gy, oy, yc, ly, fy, by1, ky1, ky2, ky3, ky4, HKy⟩ := HLs.out wq hNl I3 hc3
                  obtain ⟨ex1, ex2⟩ := HKx K hKI
                  obtain ⟨ey1, ey2⟩ := HKy K hKI
                  obtain ⟨vx, hvx⟩ : ∃ vx, lx.getD K 0 = vx := ⟨_, rfl⟩
                  obtain ⟨vy, hvy⟩ : ∃ vy, ly.getD K 0 = vy := ⟨_, rfl⟩
                  rw [hvx] at ex1 ex2
                  rw [hvy] at ey1 ey2
                  obtain ⟨vs, hvs⟩ : ∃ vs, vx + vy = vs := ⟨_, rfl⟩
                  have hvsi : (vx : Int) + (vy : Int) = (vs : Int) := by omega
                  have hw3 : IntKind.i64.wrap (vs : Int) = (vs : Int) := by rw [IntKind.wrap_i64]; omega
                  obtain ⟨a', c', W, HAP, ⟨u1, u2⟩, hNW, hPn⟩ := HPb.out.push (wd := wr.drew) ((Fr.refl _ _).drew) (by omega) vs (by omega)
                  have p1A : ∀ o, (wr.alloc o).cell? ⟨pb, 1, none⟩ = some (.slice a K ci) := fun o => Nw.cell ((Fr.refl _ _).alloc _) p1
                  have HPn : Hid (PbI wq sum B2 pb (K + 1) a' c' (W.setCell ⟨pb, 1, none⟩ (.slice a' (K + 1) c'))) := hPn
                  have hxc : (K : Int) < (xc : Int) := by omega
                  have hyc : (K : Int) < (yc : Int) := by omega
                  have hI2N : (I2 : Int) < (N : Int) := by omega
                  have q1 := Nw.cell hNqr kx2
                  have q2 := Nw.cell hNqr ky2
                  have q3 := Nw.cell hNqr ex2
                  have q4 := Nw.cell hNqr ey2
                  have hap : ∀ ty, (appS #[54, 54] ty #[.slice a K ci, .slice (some ⟨wr.heap.size, 0, none⟩) 1 1]).run Try.prog (wr.alloc (.cells #[.int .i64 (vs : Nat)] 3)).drew = .ok (.slice a' (K + 1) c') W := HAP.out
                  clear HKx HKy hvx hvy fx fy HPb hPn hNq H3 HLs HNxt HSum hNW hNqr hNl kx1 kx2 ky1 ky2 ex2 ey2
                  go_wp2_with fail
                  go_region
                  all_goals go_wp2_with fail
                  all_goals go_roundg (I - (K + 1))
                  all_goals (first
                    | omega
                    | exact ⟨K + 1, c', a', by omega, by omega, by first | rfl | (congr 1), HPn⟩)
                · obtain rfl : K = I := by omega
                  have hzK : ¬ (K : Int) < (K : Int) := by omega
                  obtain ⟨g', c', W, HAP, hN3⟩ := H3.out.push HPb.out hl0 (by omega) HSum.out
                  have HN3 : Hid (L3I wl K B2 ls (q + 1) g' c' W) := hN3
                  clear H3 HPb hN3 HSum HLs HNxt hNq
                  go_wp2_with (first
                    | (at_builtin; refine Lib.wpList_append_run _ rfl _ _ 105 105 rfl (.slice (some ⟨g, 0, none⟩) q c) (.slice (some ⟨_, 0, none⟩) 1 1) (by simp [Act.eval]) (by simp [Act.eval]) _ _ (HAP.out _) ?_))
                  go_roundg (N + 2 - 2 * (q + 1))
                  case measure => omega
                  case rel => exact ⟨q + 1, g', c', I2 + 2, by omega, by omega, rfl, by first | rfl | (congr 1), by omega, HN3⟩
            · have hz3 : ¬ (I3 : Int) < (N : Int) := by omega
              obtain ⟨g2, c2, W1, g3, c3, W2, HA1, HA2, HSo⟩ := HNxt.out wr q g c (by omega) H3.out
              clear H3 hNwr HLs HNxt
              go_wp2_with (first
                | (at_builtin; refine Lib.wpList_append_run _ rfl _ _ 105 105 rfl (.slice (some ⟨_, 0, none⟩) 0 0) (.slice (some ⟨g1, 0, none⟩) S c1) (by simp [Act.eval]) (by simp [Act.eval]) _ _ (HA1.out _) ?_)
                | (at_builtin; refine Lib.wpList_append_run _ rfl _ _ 105 105 rfl (.slice (some ⟨g2, 0, none⟩) S c2) (.slice (some ⟨g, 0, none⟩) q c) (by simp [Act.eval]) (by simp [Act.eval]) _ _ (HA2.out _) ?_)
                | (go_at_call 60; (with_reducible refine HSo.out.mono ?_); rintro e w5 ⟨g5, c5, rfl, H5⟩))
              go_roundg (m - (lev + 1))
              case measure => omega
              case rel => exact ⟨lev + 1, g5, S + q, c5, by omega, by omega, by omega, rfl, by first | rfl | (congr 1), H5⟩
        · obtain rfl : lev = m := by omega
          have hzl : ¬ (lev : Int) < (lev : Int) := by omega
          obtain ⟨ls, l1, l2, l3, l4⟩ := v2
          obtain ⟨M, hM⟩ : ∃ M, M = 2 * (S - 1) := ⟨_, rfl⟩
          obtain ⟨S1, hS1⟩ : ∃ S1, S1 + 1 = S := ⟨S - 1, by omega⟩
          have hS1i : (S : Int) - 1 = (S1 : Int) := by omega
          have hMi : (2 : Int) * (S1 : Int) = (M : Int) := by omega
          have hMN : M ≤ N := by
            have := pu_fits cs (by omega) (lev - 1) (by rw [show lev - 1 + 1 = lev by omega]; exact hkm)
            rw [← hN1, ← HSk.out] at this; omega
          have HLs : Hid (∀ V, Nw wr V → ∀ J, J < M → ∃ x : Pk, ls[J]? = some x ∧ V.cell? ⟨gl, J * 2, none⟩ = some (.int .i64 (x.1 : Nat))) := fun V hV J hJ => by
            obtain ⟨x, hx⟩ : ∃ x, ls[J]? = some x := ⟨_, List.getElem?_eq_getElem (by omega)⟩
            exact ⟨x, hx, ((l2.nw hV).cell rpOk J 0 x _ hx rfl).1⟩
          have HTot : Hid (∀ J, J ≤ M → ((ls.map Prod.fst).take J).sum ≤ 5277655813324800) := fun J hJ => by
            refine Nat.le_trans (take_sum_le _ J M hJ) ?_
            rw [l3, hM, HSk.out]
            exact HT.out
          have HF2 : Hid (∀ V, Nw wr V → P (.returned (.int .i64 (((ls.map Prod.fst).take M).sum : Nat))) V) := fun V hV => by
            rw [HP.out]
            refine ⟨?_, v3.trans hV⟩
            rw [l3, hM, HSk.out]
          clear HV v1 v3 l2 l4 HP hN1 HT hM
          obtain ⟨wl, hwl⟩ : ∃ z, z = wr := ⟨_, rfl⟩
          subst hwl
          go_wp2_with fail
          go_loopg [14, 15] M (fun kx s i wr2 => ∃ (J T : Nat), J ≤ M ∧ M - J ≤ kx ∧ s = .int .i64 T ∧ i = .int .i64 J ∧ T ≤ 5277655813324800 ∧ Hid (T = ((ls.map Prod.fst).take J).sum) ∧ wr2 = wl)
          case atStart => exact ⟨0, 0, by omega, by omega, rfl, rfl, by omega, (by show 0 = _; simp), rfl⟩
          case round =>
            obtain ⟨J, T, hJ, hkx3, rfl, rfl, hT, HJ, hwr⟩ := hrel
            rw [hwr]
            clear hwr
            by_cases hJM : J < M
            · have hzJ : (J : Int) < (M : Int) := by omega
              obtain ⟨x, hx, kx⟩ := HLs.out _ (Fr.refl _ _) J hJM
              have hst : ((ls.map Prod.fst).take (J + 1)).sum = ((ls.map Prod.fst).take J).sum + x.1 := by
                rw [List.take_add_one, List.getElem?_map, hx, List.sum_append]; simp
              have hb := HTot.out (J + 1) (by omega)
              rw [hst, ← HJ.out] at hb
              obtain ⟨T2, hT2⟩ : ∃ T2, T + x.1 = T2 := ⟨_, rfl⟩
              have hT2i : (T : Int) + ((x.1 : Nat) : Int) = (T2 : Int) := by omega
              have HJ2 : Hid (T2 = ((ls.map Prod.fst).take (J + 1)).sum) := by
                show T2 = _
                rw [hst, ← HJ.out, hT2]
              have hJN : (J : Int) < (N : Int) := by omega
              obtain ⟨x1, x2⟩ := x
              clear HJ hst HTot HF2 hx
              go_wp2_with fail
              go_roundg (M - (J + 1))
              case measure => omega
              case rel => exact ⟨J + 1, T2, by omega, by omega, by first | rfl | (congr 1), by first | rfl | (congr 1), by omega, HJ2, rfl⟩
            · obtain rfl : J = M := by omega
              have hzJ : ¬ (J : Int) < (J : Int) := by omega
              have HF3 : Hid (P (.returned (.int .i64 T)) wl) := by rw [HJ.out]; exact HF2.out _ (Fr.refl _ _)
              clear HJ HF2 HTot HLs
              go_wp2_with fail
              exact HF3.out
end Go.Proofs.Ytkpkiajehclbhaa

import Derived.Test.YtkpkiajehclbhaaBkC
namespace Go.Proofs.Ytkpkiajehclbhaa
open Go.RowKit
set_option linter.unusedVariables false
/-- How the first loop stands. -/
def BwS (w : World) (l : List Opn) (wb I : Nat) (gd cd ln : Nat) (wr : World) : Prop := ∃ og V n qs, ln = qs.length ∧ BwM w wb og V n gd cd qs wr ∧ runT (qs.map Opm.t) = (V, n) ∧ (∀ q ∈ qs, okT q.t ∧ q.t.v < 4294967296 ∧ q.t.n < 9223372036854775808 ∧ Old w (.slice q.a q.t.b.length q.c) q.t.b ∧ q.t.b.length ≤ 1000000000) ∧ n ≤ 40 * wgt (l.take I) ∧ qs.length ≤ I
theorem bs_start (w : World) (l : List Opn) : BwS w l w.heap.size 0 (w.heap.size + 1) 0 0 ((w.alloc (.cells #[.slice none 0 0, .int .i64 0] 46)).alloc (.cells #[] 34)) := by
  have h1 : Nw w (w.alloc (.cells #[.slice none 0 0, .int .i64 0] 46)) := (Fr.refl _ _).alloc _
  have h2 : Nw (w.alloc (.cells #[.slice none 0 0, .int .i64 0] 46)) ((w.alloc (.cells #[.slice none 0 0, .int .i64 0] 46)).alloc (.cells #[] 34)) := (Fr.refl _ _).alloc _
  have e : (w.alloc (.cells #[.slice none 0 0, .int .i64 0] 46)).heap.size = w.heap.size + 1 := by simp
  have r1 := h2.heap (new_heap w (.cells #[.slice none 0 0, .int .i64 0] 46))
  have r2 := OwR.empty (R := RO) (w.alloc (.cells #[.slice none 0 0, .int .i64 0] 46))
  rw [e] at r2
  exact ⟨none, 0, 0, [], rfl, ⟨⟨⟨_, r1, rfl, rfl⟩, by simp, by decide⟩, r2, by omega, by simp, Nat.le_refl _, by omega, by simp, h1.trans h2, by decide, by simp⟩, rfl, by simp, by omega, by simp⟩
/-- The call at hand is put into the list. -/
theorem bs_push {w : World} {l : List Opn} {wb I gd cd : Nat} {qs : List Opm} {V n : Nat} {W : World} (t : Opn) (ba : Option Addr) (bc : Nat) (hI : I < 1000000000) (ht : l[I]? = some t)
    (hrun : runT (qs.map Opm.t) = (V, n)) (hok : ∀ q ∈ qs, okT q.t ∧ q.t.v < 4294967296 ∧ q.t.n < 9223372036854775808 ∧ Old w (.slice q.a q.t.b.length q.c) q.t.b ∧ q.t.b.length ≤ 1000000000) (hn : n ≤ 40 * wgt (l.take I)) (hq : qs.length ≤ I)
    (hF : Fin w wb gd cd qs (stp (V, n) t) W) (hto : okT t) (hv : t.v < 4294967296) (htn : t.n < 9223372036854775808) (hold : Old w (.slice ba t.b.length bc) t.b) (htb : t.b.length ≤ 1000000000) :
    ∃ gd' cd' W', Hid (∀ ty, (Builtin.append_ #[23, 23] ty #[.slice (some ⟨gd, 0, none⟩) qs.length cd, .slice (some ⟨W.heap.size, 0, none⟩) 1 1]).run Try.prog (W.alloc (.cells (oc t ba bc) 34)) = .ok (.slice (some ⟨gd', 0, none⟩) (qs.length + 1) cd') W') ∧ Hid (BwS w l wb (I + 1) gd' cd' (qs.length + 1) W') := by
  obtain ⟨og', V', n', e, hM⟩ := hF
  obtain ⟨gd', cd', W', k1, k2⟩ := hM.push ⟨t, ba, bc⟩ (by omega)
  refine ⟨gd', cd', W', k1, og', V', n', qs ++ [⟨t, ba, bc⟩], by simp, k2, ?_, ?_, ?_, by simp; omega⟩
  · rw [List.map_append, List.map_singleton, runT_snoc, hrun]; exact e.symm
  · intro q hq
    rcases List.mem_append.1 hq with h | h
    · exact hok q h
    · simp at h; subst h; exact ⟨hto, hv, htn, hold, htb⟩
  · have hw := wgt_take l I t ht
    have e2 : n' = (stp (V, n) t).2 := by rw [← e]
    have hu := up8_ge n
    rw [e2, stp]
    split
    · rename_i h0
      obtain ⟨m, hm, hm32, _⟩ := puts_yes (hto h0)
      rw [hm, Int.toNat_natCast]; simp only; omega
    · split
      · simp only; omega
      · split
        · simp only; omega
        · simp only; omega
set_option maxHeartbeats 16000000 in
set_option maxRecDepth 100000 in
/-- BitsBack. -/
theorem bk_walk (w : World) (vo : Value) (l : List Opn) (hl : OldO w vo l) (hll : wgt l ≤ 100000000) : Calls Try.prog 7 #[vo] w fun e w' => e = .returned (.bool true) ∧ Nw w w' := by
  obtain ⟨P, hP⟩ : ∃ P : Ending → World → Prop, P = fun e w' => e = .returned (.bool true) ∧ Nw w w' := ⟨_, rfl⟩
  rw [← hP]
  have HL : Hid (OldO w vo l) := hl
  have HF : Hid (∀ W, Nw w W → P (.returned (.bool true)) W) := fun W hW => by rw [hP]; exact ⟨rfl, hW⟩
  obtain ⟨ao, co, rfl, hco, hco2, _⟩ := hl
  have hlen := wgt_len l
  have hM9 : l.length ≤ 100000000 := by omega
  have HWL : Hid (∀ i, wgt (l.take i) ≤ 100000000) := fun i => by have := wgt_le l i; omega
  have HI0 : Hid (BwS w l w.heap.size 0 (w.heap.size + 1) 0 0 ((w.alloc (.cells #[.slice none 0 0, .int .i64 0] 46)).alloc (.cells #[] 34))) := bs_start w l
  have hnil : ∀ (g : Nat) (w : World), (binOp BinOp.eql 26 (.pointer (some ⟨g, 0, none⟩)) (.pointer none)).run Try.prog w = .ok (.bool false) w := fun _ _ => by kernel_rfl
  clear hP hlen hll
  generalize hM : l.length = M at *
  have hM' : Hid (l.length = M) := hM
  clear hM
  go_enter Try.func7, Try.ntmps7
  go_upto_region 3 with fail
  generalize (w.alloc (.cells #[.slice none 0 0, .int .i64 0] 46)).alloc (.cells #[] 34) = w4 at *
  obtain ⟨gd0, hgd0⟩ : ∃ g, g = w.heap.size + 1 := ⟨_, rfl⟩
  obtain ⟨wb, hwb⟩ : ∃ wb, wb = w.heap.size := ⟨_, rfl⟩
  rw [← hgd0, ← hwb] at HI0
  rw [← hgd0, ← hwb]
  clear hgd0 hwb
  go_wp2_with fail
  go_loopg [4, 5] M (fun kx v i wr => ∃ (I gd cd ln : Nat), I ≤ M ∧ M - I ≤ kx ∧ v = .slice (some ⟨gd, 0, none⟩) ln cd ∧ i = .int .i64 I ∧ Hid (BwS w l wb I gd cd ln wr))
  case atStart => exact ⟨0, gd0, 0, 0, by omega, by omega, rfl, rfl, HI0⟩
  case round =>
    obtain ⟨I, gd, cd, ln, hI, hkx, rfl, rfl, HI⟩ := hrel
    clear HI0
    obtain ⟨og, V, n, qs, hlnq, hR, hrun, hok, hnw, hqI⟩ := HI.out
    have hN0 := hR.nw
    have hn7 : n ≤ 700000000000 := by have := HWL.out I; omega
    by_cases hlt : I < M
    · obtain ⟨go, oo, t, rfl, ht, _, hop⟩ := HL.out.at I hlt
      have htb : t.b.length ≤ 1000000000 := by have := HWL.out (I + 1); have := wgt_take l I t ht; omega
      obtain ⟨ba, bc, hc3, hold⟩ := hop.c3
      have y0 := (hop.nw hN0).c0
      have y1 := (hop.nw hN0).c1
      have y2 := (hop.nw hN0).c2
      have y3 := hN0.cell hc3
      have hvhi := hop.vhi
      have hnhi := hop.nhi
      have hz : (I : Int) < (M : Int) := by omega
      have HPU : Hid (∀ W, Fin w wb gd cd qs (stp (V, n) t) W → okT t → ∃ gd' cd' W', Hid (∀ ty, (Builtin.append_ #[23, 23] ty #[.slice (some ⟨gd, 0, none⟩) ln cd, .slice (some ⟨W.heap.size, 0, none⟩) 1 1]).run Try.prog (W.alloc (.cells (oc t ba bc) 34)) = .ok (.slice (some ⟨gd', 0, none⟩) (ln + 1) cd') W') ∧ Hid (BwS w l wb (I + 1) gd' cd' (ln + 1) W')) := fun W hF hto => by
        rw [hlnq]
        exact bs_push t ba bc (by omega) ht hrun hok hnw hqI hF hto hvhi hnhi hold htb
      have hlnb : ln ≤ 100000000 := by omega
      have HN : Hid (∀ W, BwM w wb og V n gd cd qs W → BwS w l wb (I + 1) gd cd ln W) := fun W hW => ⟨og, V, n, qs, hlnq, hW, hrun, hok, by have := wgt_take l I t ht; omega, by omega⟩
      clear ht HI hnw hqI hrun hok HL HWL HF hM' hlnq
      by_cases hk0 : t.kind = 0
      · obtain ⟨er, her, HC⟩ := hR.put hn7 t hvhi ba bc hk0
        cases hpu : puts t.v t.n with
        | false =>
          rw [hpu] at her HC
          obtain rfl : er = 1 := by simpa using her
          unfold oc at HC
          clear her hR hop HPU hc3 hold
          rw [hk0] at y0 HC
          generalize t.n = tn at *
          generalize t.v = tv at *
          generalize t.b.length = B at *
          go_wp2_with (first | (go_at_call 23; (with_reducible refine HC.out.mono ?_); rintro e w5 ⟨rfl, q0, q1, q2, q3, H5⟩))
          go_roundg (M - (I + 1))
          case measure => omega
          case rel => exact ⟨I + 1, gd, cd, ln, by omega, by omega, rfl, by first | rfl | (congr 1), HN.out _ (by have := H5.out; first | (rw [if_neg (by decide)] at this; exact this) | (rw [if_neg (fun h => h)] at this; exact this))⟩
        | true =>
          rw [hpu] at her HC
          obtain rfl : er = 0 := by simpa using her
          have HPU2 : Hid (∀ W, Fin w wb gd cd qs (stp (V, n) t) W → ∃ gd' cd' W', Hid (∀ ty, (Builtin.append_ #[23, 23] ty #[.slice (some ⟨gd, 0, none⟩) ln cd, .slice (some ⟨W.heap.size, 0, none⟩) 1 1]).run Try.prog (W.alloc (.cells (oc t ba bc) 34)) = .ok (.slice (some ⟨gd', 0, none⟩) (ln + 1) cd') W') ∧ Hid (BwS w l wb (I + 1) gd' cd' (ln + 1) W')) := fun W hF => HPU.out W hF (fun _ => hpu)
          unfold oc at HPU2 HC
          clear her hR hop HPU hc3 hold hpu
          rw [hk0] at y0 HC HPU2
          generalize stp (V, n) t = st at *
          generalize t.n = tn at *
          generalize t.v = tv at *
          generalize t.b.length = B at *
          go_upto_region 12 with (first | (go_at_call 23; (with_reducible refine HC.out.mono ?_); rintro e w5 ⟨rfl, q0, q1, q2, q3, H5⟩))
          have hFin : Fin w wb gd cd qs st w5 := by have := H5.out; first | (rw [if_pos rfl] at this; exact this) | (rw [if_pos trivial] at this; exact this)
          obtain ⟨gd', cd', W', HAP, HN'⟩ := HPU2.out _ hFin
          clear HC HPU2 H5 hFin HN
          go_wp2_with (first | (at_builtin; refine Lib.wpList_append_run _ rfl _ _ 23 23 rfl (.slice (some ⟨gd, 0, none⟩) ln cd) (.slice (some ⟨_, 0, none⟩) 1 1) (by simp [Act.eval]) (by simp [Act.eval]) _ _ (HAP.out _) ?_))
          go_roundg (M - (I + 1))
          case measure => omega
          case rel => exact ⟨I + 1, gd', cd', ln + 1, by omega, by omega, rfl, by first | rfl | (congr 1), HN'⟩
      by_cases hk1 : t.kind = 1
      · have HC := hR.align hn7 t ba bc hk1
        have HPU2 : Hid (∀ W, Fin w wb gd cd qs (stp (V, n) t) W → ∃ gd' cd' W', Hid (∀ ty, (Builtin.append_ #[23, 23] ty #[.slice (some ⟨gd, 0, none⟩) ln cd, .slice (some ⟨W.heap.size, 0, none⟩) 1 1]).run Try.prog (W.alloc (.cells (oc t ba bc) 34)) = .ok (.slice (some ⟨gd', 0, none⟩) (ln + 1) cd') W') ∧ Hid (BwS w l wb (I + 1) gd' cd' (ln + 1) W')) := fun W hF => HPU.out W hF (fun h => absurd h hk0)
        unfold oc at HPU2 HC
        clear hR hop HPU hc3 hold hk0
        rw [hk1] at y0 HC HPU2
        generalize stp (V, n) t = st at *
        generalize t.n = tn at *
        generalize t.v = tv at *
        generalize t.b.length = B at *
        go_upto_region 12 with (first | (go_at_call 25; (with_reducible refine HC.out.mono ?_); rintro e w5 ⟨⟨r5, rfl⟩, q0, q1, q2, q3, H5⟩))
        obtain ⟨gd', cd', W', HAP, HN'⟩ := HPU2.out _ H5.out
        clear HC HPU2 H5 HN
        go_wp2_with (first | (at_builtin; refine Lib.wpList_append_run _ rfl _ _ 23 23 rfl (.slice (some ⟨gd, 0, none⟩) ln cd) (.slice (some ⟨_, 0, none⟩) 1 1) (by simp [Act.eval]) (by simp [Act.eval]) _ _ (HAP.out _) ?_))
        go_roundg (M - (I + 1))
        case measure => omega
        case rel => exact ⟨I + 1, gd', cd', ln + 1, by omega, by omega, rfl, by first | rfl | (congr 1), HN'⟩
      by_cases hk2 : t.kind = 2
      · obtain ⟨a2, c2, W2, HAB, HC⟩ := hR.add hn7 t ba bc hk2 hold htb
        have HPU2 : Hid (∀ W, Fin w wb gd cd qs (stp (V, n) t) W → ∃ gd' cd' W', Hid (∀ ty, (Builtin.append_ #[23, 23] ty #[.slice (some ⟨gd, 0, none⟩) ln cd, .slice (some ⟨W.heap.size, 0, none⟩) 1 1]).run Try.prog (W.alloc (.cells (oc t ba bc) 34)) = .ok (.slice (some ⟨gd', 0, none⟩) (ln + 1) cd') W') ∧ Hid (BwS w l wb (I + 1) gd' cd' (ln + 1) W')) := fun W hF => HPU.out W hF (fun h => absurd h hk0)
        unfold oc at HPU2 HAB
        clear hR hop HPU hc3 hold hk0 hk1
        rw [hk2] at y0 HC HPU2 HAB
        generalize stp (V, n) t = st at *
        generalize t.n = tn at *
        generalize t.v = tv at *
        generalize t.b.length = B at *
        go_upto_region 12 with (first | (at_builtin; refine Lib.wpList_append_run _ rfl _ _ 22 22 rfl (.slice (some ⟨wr.heap.size + 1, 0, none⟩) 0 0) (.slice ba B bc) (by simp [Act.eval]) (by simp [Act.eval]) _ _ (HAB.out _) ?_) | (go_at_call 27; (with_reducible refine HC.out.mono ?_); rintro e w5 ⟨⟨r5, rfl⟩, q0, q1, q2, q3, H5⟩))
        obtain ⟨gd', cd', W', HAP, HN'⟩ := HPU2.out _ H5.out
        clear HC HPU2 H5 HN HAB
        go_wp2_with (first | (at_builtin; refine Lib.wpList_append_run _ rfl _ _ 23 23 rfl (.slice (some ⟨gd, 0, none⟩) ln cd) (.slice (some ⟨_, 0, none⟩) 1 1) (by simp [Act.eval]) (by simp [Act.eval]) _ _ (HAP.out _) ?_))
        go_roundg (M - (I + 1))
        case measure => omega
        case rel => exact ⟨I + 1, gd', cd', ln + 1, by omega, by omega, rfl, by first | rfl | (congr 1), HN'⟩
      · have hFin : Fin w wb gd cd qs (stp (V, n) t) (wr.alloc (.cells (oc t ba bc) 34)) := ⟨og, V, n, by rw [stp, if_neg hk0, if_neg hk1, if_neg hk2], hR.keep ((Fr.refl _ _).alloc _)⟩
        obtain ⟨gd', cd', W', HAP, HN'⟩ := HPU.out _ hFin (fun h => absurd h hk0)
        unfold oc at HAP
        clear hR hop HPU hc3 hold HN hFin
        generalize t.kind = kd at *
        generalize t.n = tn at *
        generalize t.v = tv at *
        generalize t.b.length = B at *
        go_upto_region 12 with fail
        go_wp2_with (first | (at_builtin; refine Lib.wpList_append_run _ rfl _ _ 23 23 rfl (.slice (some ⟨gd, 0, none⟩) ln cd) (.slice (some ⟨_, 0, none⟩) 1 1) (by simp [Act.eval]) (by simp [Act.eval]) _ _ (HAP.out _) ?_))
        go_roundg (M - (I + 1))
        case measure => omega
        case rel => exact ⟨I + 1, gd', cd', ln + 1, by omega, by omega, rfl, by first | rfl | (congr 1), HN'⟩
    · have HT := hR.turn hrun hok
      have hz : ¬ (I : Int) < (M : Int) := by omega
      have HQ : Hid (ln = qs.length) := hlnq
      have hlnb : ln ≤ 100000000 := by omega
      clear HI hR hrun hok HL HWL hM' hlnq hnw hqI hN0
      go_upto_region 16 with (first | (go_at_call 29; (with_reducible refine HT.out.mono ?_); rintro e w5 ⟨x, rfl, H5⟩) | (go_at_call 10; (with_reducible refine H5.out.mono ?_); rintro e w6 ⟨rb, rfl, H6⟩))
      have HI1 : Hid (∃ K p, p = (runT ((qs.take 0).map Opm.t)).2 ∧ BrI w wb og V n gd cd qs K rb x p w6) := by
        obtain ⟨K, hK⟩ := H6.out
        exact ⟨K, 0, rfl, hK⟩
      clear HT H5 H6
      go_wp2_with fail
      go_loopg [8] ln (fun kx i wr => ∃ (J : Nat), J ≤ ln ∧ ln - J ≤ kx ∧ i = .int .i64 J ∧ Hid (∃ K p, p = (runT ((qs.take J).map Opm.t)).2 ∧ BrI w wb og V n gd cd qs K rb x p wr))
      case atStart => exact ⟨0, by omega, by omega, rfl, HI1⟩
      case round =>
        obtain ⟨J, hJ, hkx2, rfl, HJ⟩ := hrel
        clear HI1
        obtain ⟨K, p, hp, hB⟩ := HJ.out
        by_cases hlt2 : J < ln
        · obtain ⟨q, hq, hqm, y0, y1, y2, y3⟩ := hB.at J (by rw [← HQ.out]; exact hlt2)
          have hqb := (hB.ok q hqm).2.2.2.2
          have hqn := (hB.ok q hqm).2.2.1
          have hqv := (hB.ok q hqm).2.1
          have hcd : ln ≤ cd ∧ cd < 9223372036854775808 := by
            obtain ⟨c', e, h1, h2⟩ := hB.m.d.form
            injection e with _ _ e
            rw [HQ.out]; omega
          obtain ⟨hcd1, hcd2⟩ := hcd
          have hz2 : (J : Int) < (ln : Int) := by omega
          clear HF
          by_cases hk0 : q.t.kind = 0
          · have HT := hB.take J q hq hp hk0 q.a q.c
            unfold oc at HT
            clear hB HJ hp hq
            rw [hk0] at y0 HT
            generalize q.t.n = tn at *
            generalize q.t.v = tv at *
            generalize q.t.b.length = B at *
            go_wp2_with (first | (go_at_call 12; (with_reducible refine HT.out.mono ?_); rintro e w7 ⟨rfl, z0, z2, H7⟩))
            go_roundg (ln - (J + 1))
            case measure => omega
            case rel => exact ⟨J + 1, by omega, by omega, by first | rfl | (congr 1), by obtain ⟨p', h1, h2⟩ := H7.out; exact ⟨K, p', h1, h2⟩⟩
          by_cases hk1 : q.t.kind = 1
          · have HT := hB.align J q hq hp hk1 q.a q.c
            unfold oc at HT
            clear hB HJ hp hq
            rw [hk1] at y0 HT
            generalize q.t.n = tn at *
            generalize q.t.v = tv at *
            generalize q.t.b.length = B at *
            go_wp2_with (first | (go_at_call 14; (with_reducible refine HT.out.mono ?_); rintro e w7 ⟨⟨r7, rfl⟩, z0, H7⟩))
            go_roundg (ln - (J + 1))
            case measure => omega
            case rel => exact ⟨J + 1, by omega, by omega, by first | rfl | (congr 1), by obtain ⟨p', h1, h2⟩ := H7.out; exact ⟨K, p', h1, h2⟩⟩
          by_cases hk2 : q.t.kind = 2
          · have HT := hB.bytes J q hq hp hk2
            unfold oc at HT
            clear hB HJ hp hq
            rw [hk2] at y0 HT
            generalize q.t.n = tn at *
            generalize q.t.v = tv at *
            generalize q.t.b.length = B at *
            go_wp2_with (first | (go_at_call 16; (with_reducible refine HT.out.mono ?_); rintro e w7 ⟨x7, rfl, z3, H7⟩) | (go_at_call 18; (with_reducible refine H7.out.mono ?_); rintro e w8 ⟨rfl, H8⟩))
            go_roundg (ln - (J + 1))
            case measure => omega
            case rel => exact ⟨J + 1, by omega, by omega, by first | rfl | (congr 1), by obtain ⟨p', h1, h2⟩ := H8.out; exact ⟨K, p', h1, h2⟩⟩
          · have hp' := hB.other J q hq hp hk0 hk1 hk2
            have HN : Hid (∀ W, Nw wr W → ∃ K p, p = (runT ((qs.take (J + 1)).map Opm.t)).2 ∧ BrI w wb og V n gd cd qs K rb x p W) := fun W hW => ⟨K, p, hp', hB.keep hW⟩
            clear hB HJ hp hq hp'
            generalize q.t.kind = kd at *
            generalize q.t.n = tn at *
            generalize q.t.v = tv at *
            generalize q.t.b.length = B at *
            go_wp2_with fail
            go_roundg (ln - (J + 1))
            case measure => omega
            case rel => exact ⟨J + 1, by omega, by omega, by first | rfl | (congr 1), HN.out _ ((Fr.refl _ _).alloc _)⟩
        · obtain rfl : J = ln := by omega
          obtain ⟨q, hq8, HT⟩ := hB.last (by rw [← HQ.out]; exact hp) hn7
          have hz2 : ¬ (J : Int) < (J : Int) := by omega
          have hz3 : (q : Int) < 8 := by omega
          have hz4 : (0 : Int) < ((n + 1 : Nat) : Int) := by omega
          have hz5 : decide (0 < n + 1) = true := decide_eq_true (by omega)
          clear HJ hB hp HQ
          generalize n + 1 = n1 at *
          go_wp2_with (first | (go_at_call 20; (with_reducible refine HT.out.mono ?_); rintro e w7 ⟨rfl, H7⟩) | (go_at_call 23; (with_reducible refine H7.out.mono ?_); rintro e w8 ⟨rfl, H8⟩) | (go_at_call 31; (with_reducible refine H8.out.mono ?_); rintro e w9 ⟨rfl, H9⟩))
          exact HF.out _ H9.out
end Go.Proofs.Ytkpkiajehclbhaa

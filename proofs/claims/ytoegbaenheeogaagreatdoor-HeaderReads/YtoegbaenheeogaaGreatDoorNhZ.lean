import Derived.Test.YtoegbaenheeogaaGreatDoorNhY
namespace Go.Proofs.YtoegbaenheeogaaGreatDoor
open Go.RowKit
set_option linter.unusedVariables false
theorem mgOf_le (b : List By) : mgOf b ≤ 3 := by
  unfold mgOf
  split
  · omega
  · split
    · omega
    · split <;> omega
theorem mgOf_iff (b : List By) (k : Nat) (hk : isF k) : (fd b 257 8 = mg k) ↔ mgOf b = k := by
  constructor
  · exact mgOf_eq b k hk
  · intro h
    unfold mgOf at h
    split at h
    · next q => rw [← h]; exact q
    · split at h
      · next q => rw [← h]; exact q
      · split at h
        · next q => rw [← h]; exact q
        · rcases hk with rfl | rfl | rfl <;> cases h
theorem nF_has (f I o n : Nat) (bl : Bool) (hf : isF f) (h : nF[I]? = some (o, n, bl)) (hI : I < (if f = 1 then 5 else 7)) : o < fE f := by
  have h5 : I < 7 := (List.getElem?_eq_some_iff.1 h).1
  rcases hf with rfl | rfl | rfl <;> rcases seven h5 with rfl | rfl | rfl | rfl | rfl | rfl | rfl <;>
  · simp only [nF, List.getElem?_cons_zero, List.getElem?_cons_succ, Option.some.injEq, Prod.mk.injEq] at h
    obtain ⟨rfl, rfl, rfl⟩ := h
    revert hI
    decide
theorem scN_last (b : List By) (f N : Nat) (hf : isF f) (hN : (if f = 1 then 5 else 7) = N) : scN b f (nF.drop N) = (0, 0) := by
  subst hN
  rcases hf with rfl | rfl | rfl
  · show scN b 1 [(329, 8, false), (337, 8, false)] = (0, 0)
    simp only [scN]
    rw [if_neg (fun q => absurd q.1 (by decide)), if_neg (fun q => absurd q.1 (by decide))]
  · rfl
  · rfl
theorem xN_last (b : List By) (f N : Nat) (hf : isF f) (hN : (if f = 1 then 5 else 7) = N) : xN b f N = xN b f 7 := by
  subst hN
  rcases hf with rfl | rfl | rfl
  · have e5 := xN_nset b 1 5 329 8 false rfl (by decide)
    have e6 := xN_nset b 1 6 337 8 false rfl (by decide)
    show xN b 1 5 = xN b 1 7
    rw [e6, e5]
  · rfl
  · rfl
def hV (f : Nat) (m0 m1 m2 m3 m4 m5 m6 : Int) : Hr := { hZ with form := f, mode := m0, uid := m1, gid := m2, size := m3, time := m4, major := m5, minor := m6 }
def hQ (f : Nat) (m0 m1 m2 m3 m4 m5 m6 : Int) (nm pf : ByteArray) (ty : By) (lk us gr : ByteArray) : Hr := ⟨f, nm, pf, m0, m1, m2, m3, m4, ty, lk, us, gr, m5, m6⟩
theorem dH_q1 (b : List By) : dH b 1 5 7 = hQ (1 : Nat) (dN b 1 7 0 100 8) (dN b 1 7 1 108 8) (dN b 1 7 2 116 8) (dN b 1 7 3 124 12) (dN b 1 7 4 136 12) (dN b 1 7 5 329 8) (dN b 1 7 6 337 8) (str (txt (fd b 0 100))) eS (tyOf b) (str (txt (fd b 157 100))) eS eS := by
  simp [dH, hQ, dT, fE]
theorem dH_q2 (b : List By) : dH b 2 5 7 = hQ (2 : Nat) (dN b 2 7 0 100 8) (dN b 2 7 1 108 8) (dN b 2 7 2 116 8) (dN b 2 7 3 124 12) (dN b 2 7 4 136 12) (dN b 2 7 5 329 8) (dN b 2 7 6 337 8) (str (txt (fd b 0 100))) (str (txt (fd b 345 155))) (tyOf b) (str (txt (fd b 157 100))) (str (txt (fd b 265 32))) (str (txt (fd b 297 32))) := by
  simp [dH, hQ, dT, fE]
theorem dH_q3 (b : List By) : dH b 3 5 7 = hQ (3 : Nat) (dN b 3 7 0 100 8) (dN b 3 7 1 108 8) (dN b 3 7 2 116 8) (dN b 3 7 3 124 12) (dN b 3 7 4 136 12) (dN b 3 7 5 329 8) (dN b 3 7 6 337 8) (str (txt (fd b 0 100))) eS (tyOf b) (str (txt (fd b 157 100))) (str (txt (fd b 265 32))) (str (txt (fd b 297 32))) := by
  simp [dH, hQ, dT, fE]
theorem strB (a b : ByteArray) : (a.toList == b.toList) = decide (a = b) := by
  rw [ByteArray.toList_eq, ByteArray.toList_eq]
  by_cases h : a = b
  · subst h; simp
  · rw [decide_eq_false h, beq_eq_false_iff_ne]
    intro e
    apply h
    apply ByteArray.ext
    exact Array.toList_inj.1 e
set_option maxHeartbeats 16000000 in
set_option maxRecDepth 100000 in
theorem rdecode_any (b : List By) (hbl : b.length = 512) (w : World) : Calls Tryz.prog 6 #[.agg (rc b)] w fun e w' => e = .returned (.tuple #[.agg (decH b).C, .int .i64 (decP b : Nat), .int .i64 (decE b : Nat)]) ∧ Nw w w' := by
  obtain ⟨P, hP⟩ : ∃ P : Ending → World → Prop, P = fun e w' => e = .returned (.tuple #[.agg (decH b).C, .int .i64 (decP b : Nat), .int .i64 (decE b : Nat)]) ∧ Nw w w' := ⟨_, rfl⟩
  rw [← hP]
  have HF : Hid (∀ W m p E, Nw w W → decH b = m → decP b = p → decE b = E → P (.returned (.tuple #[.agg m.C, .int .i64 (p : Nat), .int .i64 (E : Nat)])) W) := fun W m p E hW h1 h2 h3 => by rw [hP, ← h1, ← h2, ← h3]; exact ⟨rfl, hW⟩
  clear hP
  obtain ⟨rb, hrb⟩ : ∃ rb, w.heap.size = rb := ⟨_, rfl⟩
  obtain ⟨qb, hqb⟩ : ∃ qb, rb + 1 = qb := ⟨_, rfl⟩
  obtain ⟨W1, hW1⟩ : ∃ W1, (w.alloc (.cells (rc b) 28)).alloc (.cells #[.int .i64 0, .string ⟨#[]⟩, .string ⟨#[]⟩, .int .i64 0, .int .i64 0, .int .i64 0, .int .i64 0, .int .i64 0, .int .u8 0, .string ⟨#[]⟩, .string ⟨#[]⟩, .string ⟨#[]⟩, .int .i64 0, .int .i64 0] 24) = W1 := ⟨_, rfl⟩
  have s1 : (w.alloc (.cells (rc b) 28)).heap.size = w.heap.size + 1 := by simp
  have hN1 : Nw w W1 := by rw [← hW1]; exact ((Fr.refl _ _).alloc _).alloc _
  have hR1 : RcH rb b W1 := by rw [← hW1, ← hrb]; exact Nw.heap ((Fr.refl _ _).alloc _) (newHeap _ _)
  have hQ1 : HcH qb hZ W1 := by rw [← hW1, ← hqb, ← hrb, ← s1]; exact newHeap _ _
  have HEN0 : Hid (∀ (W : World) (m : Hr) (p E : Nat), Nw w W → HcH qb m W → decH b = m → decP b = p → decE b = E → ∀ tmps : Array Value, tmps.getD 2 undef = .pointer (some ⟨qb, 0, none⟩) → tmps.getD 3 undef = .int .i64 (p : Nat) → tmps.getD 4 undef = .int .i64 (E : Nat) → bodyPost Tryz.prog Tryz.f6 P .ret ⟨tmps, []⟩ W) := fun W m p E hW hq h1 h2 h3 tmps g2 g3 g4 => by
    refine bodyPost_ret (v := .tuple #[.agg m.C, .int .i64 (p : Nat), .int .i64 (E : Nat)]) ?_ rfl (HF.out _ m p E hW h1 h2 h3)
    rw [results_c3 rfl]
    show ((asAddr (tmps.getD 2 undef)).run Tryz.prog _).andThen _ = _
    rw [g2]
    simp only [asAddr, Sem.run_pure, Result.andThen_ok, run_loadVar_row _ qb 24 24 m.C (0, 0) _ hq Tryz.underlying24 rfl (hcSize m), g3, g4]
  have HEND : Hid (∀ (W : World) (m : Hr) (p E : Nat), Nw w W → HcH qb hZ W → decH b = m → decP b = p → decE b = E → ∃ W5, W.setRow qb m.C = W5 ∧ W.heap[qb]? = some (.cells hZ.C 24) ∧ Hid (∀ tmps : Array Value, tmps.getD 2 undef = .pointer (some ⟨qb, 0, none⟩) → tmps.getD 3 undef = .int .i64 (p : Nat) → tmps.getD 4 undef = .int .i64 (E : Nat) → bodyPost Tryz.prog Tryz.f6 P .ret ⟨tmps, []⟩ W5)) := fun W m p E hW hq h1 h2 h3 => by
    refine ⟨_, rfl, hq, HEN0.out _ m p E ?_ (setRow_heap _ _ _ _ 24 _ hq) h1 h2 h3⟩
    exact Fr.then hW ((Fr.refl _ _).setRow qb _ (.inl rfl) : Fr (fun k => k = qb) W _) (fun i hi => .inr (by omega))
  have HSZ := tHid hcSize
  have HON := tHid hc_one
  have HCK : Hid (Calls Tryz.prog 18 #[.agg (rc b)] W1 fun e w2 => e = .returned (.bool (chk b)) ∧ Hid (Nw W1 w2)) := rcheck_any b hbl W1
  have HW1 := tHid hW1
  have HN1 := tHid hN1
  have HR1 := tHid hR1
  have HQ1 := tHid hQ1
  have HIR := tHid (rc_info b hbl)
  clear hW1 hN1 hR1 hQ1 s1
  generalize hD : rc b = D at *
  have HD := tHid hD
  clear hD
  by_cases hck : chk b = true
  case neg =>
    rw [Bool.eq_false_iff.2 hck] at HCK
    go_enter Tryz.func6, Tryz.ntmps6
    go_upto_region 1 with fail
    rw [HW1.out]
    have HR1D : Hid (W1.heap[rb]? = some (.cells D 28)) := by rw [← HD.out]; exact HR1.out
    go_upto_region 2 with (first
      | (refine wpList_load_row rfl 28 _ rfl rb (by first | rfl | simp [Act.eval]) 28 _ (0, 0) _ HR1D.out Tryz.underlying28 rfl HIR.out ?_)
      | (go_at_call 18; with_reducible refine HCK.out.mono ?_; rintro e w2 ⟨rfl, K2⟩))
    have hE : decE b = 131 := by unfold decE; rw [if_neg hck]
    obtain ⟨W5, e5, y3, HE⟩ := HEND.out w2 hZ 148 131 (HN1.out.trans K2.out) (Nw.heap K2.out HQ1.out) (by unfold decH; rw [if_neg (by rw [hE]; decide)]) (by unfold decP; rw [if_neg hck]) hE
    have Y3 := tHid y3
    clear HEND HEN0 y3 HF
    go_wp2_with (first
      | (refine wpList_store_row rfl 24 _ _ rfl qb hZ.C (by first | rfl | simp [Act.eval]) (by first | rfl | simp [Act.eval]) 24 _ Y3.out (HSZ.out hZ) rfl (HON.out hZ) ?_; rw [e5]))
    (try simp only [Exit.inBlock, Exit.then])
    exact HE.out _ rfl rfl rfl
  case pos =>
  rw [hck] at HCK
  have HCKT := tHid hck
  clear hck
  go_enter Tryz.func6, Tryz.ntmps6
  go_upto_region 1 with fail
  rw [HW1.out]
  have HR1D : Hid (W1.heap[rb]? = some (.cells D 28)) := by rw [← HD.out]; exact HR1.out
  go_upto_region 3 with (first
    | (refine wpList_load_row rfl 28 _ rfl rb (by first | rfl | simp [Act.eval]) 28 _ (0, 0) _ HR1D.out Tryz.underlying28 rfl HIR.out ?_)
    | (go_at_call 18; with_reducible refine HCK.out.mono ?_; rintro e w2 ⟨rfl, K2⟩))
  obtain ⟨U0, hU0⟩ : ∃ U0, w2.alloc (.cells #[.int .i64 0, .string ⟨#[]⟩, .string ⟨#[]⟩, .int .i64 0, .int .i64 0, .int .i64 0, .int .i64 0, .int .i64 0, .int .u8 0, .string ⟨#[]⟩, .string ⟨#[]⟩, .string ⟨#[]⟩, .int .i64 0, .int .i64 0] 24) = U0 := ⟨_, rfl⟩
  have HU0 := tHid hU0
  clear hU0
  go_upto_region 5 with fail
  have hU0 := HU0.out
  rw [hU0]
  have hNU : Nw W1 U0 := by rw [← hU0]; exact K2.out.alloc _
  have hH0 : HcH w2.heap.size (hM 0) U0 := by rw [← hU0]; exact newHeap _ _
  have l1 := (Array.getElem?_eq_some_iff.1 (Nw.heap K2.out HR1.out)).1
  have l2 := (Array.getElem?_eq_some_iff.1 (Nw.heap K2.out HQ1.out)).1
  have Hhw : Hid (w.heap.size ≤ w2.heap.size) := by
    show w.heap.size ≤ w2.heap.size
    have := HN1.out.size
    have := K2.out.size
    omega
  have Hrb : Hid (rb ≠ w2.heap.size) := by show rb ≠ _; omega
  have Hqb : Hid (qb ≠ w2.heap.size) := by show qb ≠ _; omega
  generalize w2.heap.size = hb at *
  have HRB : Hid (RcH rb b U0) := Nw.heap hNU HR1.out
  have HQB : Hid (HcH qb hZ U0) := Nw.heap hNU HQ1.out
  have HNU : Hid (Nw w U0) := HN1.out.trans hNU
  have HH0 := tHid hH0
  obtain ⟨kx, hkx⟩ : ∃ kx, str (fd b 257 8) = kx := ⟨_, rfl⟩
  have HCV : Hid (∀ V, RcH rb b V → (convert 22 9 (.slice (some ⟨rb, 257, none⟩) 8 255)).run Tryz.prog V = .ok (.string kx) V) := fun V hV => by rw [← hkx]; exact conv_any (fd_sl V rb 257 8 b hbl (by decide) hV)
  have HKX := tHid hkx
  clear hkx hU0 HU0 hNU hH0 l1 l2 HR1 HQ1 HN1 HR1D HCK K2
  go_loopg [6] 4 (fun kx v wr => ∃ k : Nat, 1 ≤ k ∧ k ≤ 4 ∧ 4 ≤ k + kx ∧ v = .int .i64 (k : Int) ∧ Hid (HcH hb (hM (if mgOf b < k then mgOf b else 0)) wr ∧ Fr (fun i => i = hb) U0 wr))
  case atStart => exact ⟨1, by omega, by omega, by omega, rfl, by
    have e : (if mgOf b < 1 then mgOf b else 0) = 0 := by split <;> omega
    show HcH hb (hM (if mgOf b < 1 then mgOf b else 0)) U0 ∧ _
    rw [e]
    exact ⟨HH0.out, Fr.refl _ _⟩⟩
  case round =>
    obtain ⟨k, hk1, hk4, hkx, rfl, HI⟩ := hrel
    by_cases hlt : k ≤ 3
    · have hltI : (k : Int) ≤ 3 := by omega
      have hr := cell_kept HI.out.2 HRB.out Hrb.out
      have hcv := HCV.out wr.drew hr
      have HMG : Hid (Calls Tryz.prog 19 #[.int .i64 (k : Nat)] wr.drew fun e w' => e = .returned (.string (str (mg k))) ∧ w' = wr.drew) := rmagic_any k wr.drew
      have hmk : (fd b 257 8 = mg k) ↔ mgOf b = k := mgOf_iff b k (by unfold isF; omega)
      have heq : (kx.toList == (str (mg k)).toList) = decide (mgOf b = k) := by
        rw [strB, ← HKX.out]
        apply decide_eq_decide.2
        rw [← hmk]
        exact str_inj
      have hcell := cell_of HI.out.1 0 _ rfl
      have hfrz := frz_of HI.out.1 0
      have HNE : Hid (¬ mgOf b = k → ∀ V, Nw wr V → HcH hb (hM (if mgOf b < k + 1 then mgOf b else 0)) V ∧ Fr (fun i => i = hb) U0 V) := fun hn V hV => by
        have e : (if mgOf b < k + 1 then mgOf b else 0) = (if mgOf b < k then mgOf b else 0) := by
          by_cases h1 : mgOf b < k
          · rw [if_pos h1, if_pos (by omega)]
          · rw [if_neg h1, if_neg (by omega)]
        rw [e]
        exact ⟨Nw.heap hV HI.out.1, Fr.then HI.out.2 hV (fun i hi => hi.elim)⟩
      have HEQ : Hid (mgOf b = k → ∀ V, Nw wr V → HcH hb (hM (if mgOf b < k + 1 then mgOf b else 0)) (V.setCell ⟨hb, 0, none⟩ (.int .i64 (k : Nat))) ∧ Fr (fun i => i = hb) U0 (V.setCell ⟨hb, 0, none⟩ (.int .i64 (k : Nat)))) := fun he V hV => by
        have e : (if mgOf b < k + 1 then mgOf b else 0) = k := by rw [if_pos (by omega), he]
        rw [e]
        exact ⟨hc_set (Nw.heap hV HI.out.1) 0 _ rfl, (Fr.then HI.out.2 hV (fun i hi => hi.elim)).setCell ⟨hb, 0, none⟩ _ (.inl rfl)⟩
      generalize (if mgOf b < k then mgOf b else 0) = M at *
      have hcell2 : wr.drew.cell? ⟨hb, 0, none⟩ = some (.int .i64 (M : Nat)) := hcell
      have hfrz2 : wr.drew.frozen? ⟨hb, 0, none⟩ = false := hfrz
      clear hr HI hmk hcell hfrz
      generalize str (mg k) = mk9 at *
      by_cases hm : mgOf b = k
      · rw [decide_eq_true hm] at heq
        have HX := tHid (HEQ.out hm wr.drew ((Fr.refl _ _).drew))
        clear HNE HEQ
        go_upto_region 7 with fail
        go_region_held3 (fun w' => w' = wr.drew)
          (first | rfl | assumption)
          (first | (go_at_call 19; with_reducible refine HMG.out.mono ?_; rintro e w3 ⟨rfl, rfl⟩))
        go_wp2_with fail
        go_roundg (4 - (k + 1))
        case measure => omega
        case rel => exact ⟨k + 1, by omega, by omega, by omega, by first | rfl | (congr 1), HX⟩
      · rw [decide_eq_false hm] at heq
        have HX := tHid (HNE.out hm wr.drew ((Fr.refl _ _).drew))
        clear HNE HEQ
        go_upto_region 7 with fail
        go_region_held3 (fun w' => w' = wr.drew)
          (first | rfl | assumption)
          (first | (go_at_call 19; with_reducible refine HMG.out.mono ?_; rintro e w3 ⟨rfl, rfl⟩))
        go_wp2_with fail
        go_roundg (4 - (k + 1))
        case measure => omega
        case rel => exact ⟨k + 1, by omega, by omega, by omega, by first | rfl | (congr 1), HX⟩
    · have hltI : ¬ (k : Int) ≤ 3 := by omega
      have eM : (if mgOf b < k then mgOf b else 0) = mgOf b := if_pos (by have := mgOf_le b; omega)
      rw [eM] at HI
      by_cases hz0 : mgOf b = 0
      case pos =>
        have hE : decE b = 130 := by unfold decE; rw [if_pos HCKT.out, if_pos hz0]
        have hq7 : HcH qb hZ wr := cell_kept HI.out.2 HQB.out Hqb.out
        have hn7 : Nw w wr := Fr.then HNU.out HI.out.2 (fun i hi => .inr (by have := Hhw.out; omega))
        obtain ⟨W5, e5, y3, HE⟩ := HEND.out wr hZ 257 130 hn7 hq7 (by unfold decH; rw [if_neg (by rw [hE]; decide)]) (by unfold decP; rw [if_pos HCKT.out, if_pos hz0]) hE
        have Y3 := tHid y3
        have c0 : wr.cell? ⟨hb, 0, none⟩ = some (.int .i64 (mgOf b : Nat)) := cell_of HI.out.1 0 _ rfl
        rw [hz0] at c0
        clear HI HEND HEN0 y3 HF hq7 hn7
        go_wp2_with (first
          | (refine wpList_store_row rfl 24 _ _ rfl qb hZ.C (by first | rfl | simp [Act.eval]) (by first | rfl | simp [Act.eval]) 24 _ Y3.out (HSZ.out hZ) rfl (HON.out hZ) ?_; rw [e5]))
        (try simp only [Exit.inBlock, Exit.then])
        exact HE.out _ rfl rfl rfl
      case neg =>
      obtain ⟨f, hf⟩ : ∃ f, mgOf b = f := ⟨_, rfl⟩
      rw [hf] at HI hz0
      have HMG := tHid hf
      have hF : isF f := by unfold isF; have := mgOf_le b; omega
      have HFZ := tHid hz0
      have c0 : wr.cell? ⟨hb, 0, none⟩ = some (.int .i64 (f : Nat)) := cell_of HI.out.1 0 _ rfl
      have hq0 : ((f : Int) == 0) = false := by rw [beq_eq_false_iff_ne]; omega
      have HHB := tHid HI.out.1
      have HSF := tHid (hcSize (hM f))
      have HNM : Hid (Calls Tryz.prog 20 #[.agg (hM f).C] wr fun e w3 => e = .returned (.slice (some ⟨wr.heap.size + 1, 0, none⟩) 7 7) ∧ Hid (w3.heap[wr.heap.size + 1]? = some (.cells (xN b f 0) 70) ∧ HcH hb (hM f) w3 ∧ RcH rb b w3 ∧ HcH qb hZ w3 ∧ Nw w w3 ∧ hb ≠ wr.heap.size + 1 ∧ rb ≠ wr.heap.size + 1 ∧ qb ≠ wr.heap.size + 1 ∧ w.heap.size ≤ wr.heap.size + 1)) := by
        refine (rnumbers_any f wr).mono ?_
        rintro e w3 ⟨rfl, rfl⟩
        have k : Nw wr ((wr.alloc (.cells (hM f).C 24)).alloc (.cells xN0 70)) := ((Fr.refl _ _).alloc _).alloc _
        have s1 : (wr.alloc (.cells (hM f).C 24)).heap.size = wr.heap.size + 1 := by simp
        have hr := cell_kept HI.out.2 HRB.out Hrb.out
        have hq := cell_kept HI.out.2 HQB.out Hqb.out
        have l0 := (Array.getElem?_eq_some_iff.1 HI.out.1).1
        have l1 := (Array.getElem?_eq_some_iff.1 hr).1
        have l2 := (Array.getElem?_eq_some_iff.1 hq).1
        have hn7 : Nw w wr := Fr.then HNU.out HI.out.2 (fun i hi => .inr (by have := Hhw.out; omega))
        have hn8 := hn7.size
        exact ⟨rfl, by rw [xN_zero, ← s1]; exact newHeap _ _, Nw.heap k HI.out.1, Nw.heap k hr, Nw.heap k hq, hn7.trans k, by omega, by omega, by omega, by omega⟩
      have Hrhb := Hrb
      have Hqhb := Hqb
      clear HI hf hz0 HCV HH0 HKX eM HRB HQB HNU Hrb Hqb
      go_upto_region 13 with (first
        | (refine wpList_load_row rfl 24 _ rfl hb (by first | rfl | simp [Act.eval]) 24 _ (0, 0) _ HHB.out Tryz.underlying24 rfl HSF.out ?_)
        | (go_at_call 20; with_reducible refine HNM.out.mono ?_; rintro e U1 ⟨rfl, K1⟩))
      generalize wr.heap.size + 1 = nb at *
      obtain ⟨t0, t1, t2, t3, t4, t5, t6, t7, t8⟩ := K1.out
      have HNB := tHid t0
      have HHB1 := tHid t1
      have HRB := tHid t2
      have HQB := tHid t3
      have HNU := tHid t4
      have Hhb := tHid t5
      have Hrb := tHid t6
      have Hqb := tHid t7
      have Hnw := tHid t8
      clear t0 t1 t2 t3 t4 t5 t6 t7 t8 K1 HNM HHB HSF c0 hq0
      obtain ⟨N, hN⟩ : ∃ N : Nat, (if f = 1 then 5 else 7) = N := ⟨_, rfl⟩
      have hN7 : N ≤ 7 := by rw [← hN]; split <;> omega
      have HN9 := tHid hN
      have HHAS : Hid (∀ V, Calls Tryz.prog 21 #[.int .i64 (f : Nat)] V fun e w' => e = .returned (.int .i64 (N : Nat)) ∧ w' = V) := fun V => by
        have t := rhas_any f V
        rw [hN] at t
        exact t
      clear hN
      go_loopg [8] 7 (fun kx v wr => ∃ I : Nat, I ≤ N ∧ N ≤ I + kx ∧ v = .int .i64 (I : Int) ∧ Hid (wr.heap[nb]? = some (.cells (xN b f I) 70) ∧ Fr (fun i => i = nb) U1 wr ∧ scN b f nF = scN b f (nF.drop I)))
      case atStart => exact ⟨0, by omega, by omega, rfl, HNB.out, Fr.refl _ _, rfl⟩
      case round =>
        obtain ⟨I, hI, hkx, rfl, HI⟩ := hrel
        have hHw := cell_kept HI.out.2.1 HHB1.out Hhb.out
        have c0 : wr.cell? ⟨hb, 0, none⟩ = some (.int .i64 (f : Nat)) := cell_of hHw 0 _ rfl
        have HHS := tHid (HHAS.out wr)
        by_cases hlt : I < N
        · have hltI : (I : Int) < (N : Int) := by omega
          have hI7 : (I : Int) < 7 := by omega
          obtain ⟨o, n, bl, hnf⟩ : ∃ o n bl, nF[I]? = some (o, n, bl) := ⟨_, _, _, List.getElem?_eq_getElem (show I < nF.length from by show I < 7; omega)⟩
          obtain ⟨o9, n9, sl9, k9, φ9, x9, bl9, R9⟩ := nrow hZ I (by omega)
          have hRR := R9.t
          rw [hnf] at hRR
          injection hRR with hRR
          injection hRR with h1 h2
          injection h2 with h2 h3
          subst h1 h2 h3
          have hn0 := R9.n0
          have hon := R9.on
          have hsl := R9.hsl
          clear R9
          have hoE : o < fE f := nF_has f I o n bl hF hnf (by rw [HN9.out]; exact hlt)
          obtain ⟨x0, x1, x3, z9, x2⟩ := xN_at b f I I o n bl hnf
          have hb0 := HI.out.1
          have y0 := cell_of hb0 (I * 4) _ x0
          have y1 := cell_of hb0 (I * 4 + 1) _ x1
          have hr := cell_kept HI.out.2.1 HRB.out Hrb.out
          have hst := scN_step b f I o n bl hnf
          have hsc := HI.out.2.2
          obtain ⟨xb, hxb0⟩ : ∃ xb, wr.heap.size = xb := ⟨_, rfl⟩
          obtain ⟨V, hV⟩ : ∃ V, wr.alloc (.cells #[.int .i64 (o : Nat), .int .i64 (n : Nat)] 68) = V := ⟨_, rfl⟩
          have kV : Nw wr V := by rw [← hV]; exact (Fr.refl _ _).alloc _
          have hxb : V.heap[xb]? = some (.cells #[.int .i64 (o : Nat), .int .i64 (n : Nat)] 68) := by rw [← hV, ← hxb0]; exact newHeap _ _
          have v0 := cell_of hxb 0 _ rfl
          have v1 := cell_of hxb 1 _ rfl
          have HNR : Hid (Calls Tryz.prog 22 #[.slice (some ⟨rb, o, none⟩) n (512 - o)] V fun e w4 => e = .returned (.tuple #[.int .i64 (nmN (fd b o n)), .int .i64 (nmE (fd b o n) : Nat)]) ∧ Hid (Nw V w4)) := by
            have t := rnumber_any V _ n (512 - o) (fd b o n) (fd_old V rb o n b hbl hon (Nw.heap kV hr)) (by omega)
            rw [numA_eq] at t
            exact t
          have z1 : (o : Int) ≤ (o : Int) + (n : Int) := by omega
          have z2 : (o : Int) + (n : Int) ≤ 512 := by omega
          have z3 : ¬ 512 - o = 0 := by omega
          have z4 : ¬ o = 512 := by omega
          have z5 : ¬ 512 ≤ o := by omega
          have z6 : o + n - o = n := by omega
          have HV := tHid hV
          have hnb : nbE b o n bl = if nmE (fd b o n) = 0 then (if 0 ≤ nmN (fd b o n) ∨ bl = true then 0 else 121) else nmE (fd b o n) := rfl
          have hnl := (Array.getElem?_eq_some_iff.1 hb0).1
          have HAF : Hid (∀ w4, Nw V w4 → w4.cell? ⟨nb, I * 4 + 3, none⟩ = some (.bool bl) ∧ w4.cell? ⟨nb, I * 4 + 2, none⟩ = some (.int .i64 z9) ∧ w4.frozen? ⟨nb, I * 4 + 2, none⟩ = false ∧ w4.cell? ⟨xb, 0, none⟩ = some (.int .i64 (o : Nat)) ∧ Hid (HcH qb hZ w4.drew ∧ Nw w w4.drew)) := fun w4 k4 => by
            have hb4 := Nw.heap (kV.trans k4) hb0
            have hq := cell_kept HI.out.2.1 HQB.out Hqb.out
            exact ⟨cell_of hb4 _ _ x3, cell_of hb4 _ _ x2, frz_of hb4 _, cell_of (Nw.heap k4 hxb) 0 _ rfl, Nw.heap ((kV.trans k4).drew) hq, Fr.then (Fr.then HNU.out HI.out.2.1 (fun i hi => .inr (by have := Hnw.out; omega))) ((kV.trans k4).drew) (fun i hi => hi.elim)⟩
          have HNXT : Hid (nbE b o n bl = 0 → ∀ w4, Nw V w4 → (w4.setCell ⟨nb, I * 4 + 2, none⟩ (.int .i64 (nmN (fd b o n)))).heap[nb]? = some (.cells (xN b f (I + 1)) 70) ∧ Fr (fun i => i = nb) U1 (w4.setCell ⟨nb, I * 4 + 2, none⟩ (.int .i64 (nmN (fd b o n)))) ∧ scN b f nF = scN b f (nF.drop (I + 1))) := fun hz w4 k4 => by
            have hb4 := Nw.heap (kV.trans k4) hb0
            refine ⟨?_, (Fr.then HI.out.2.1 (kV.trans k4) (fun i hi => hi.elim)).setCell ⟨nb, I * 4 + 2, none⟩ _ (.inl rfl), by rw [hsc, hst, if_neg (fun q => q.2 hz)]⟩
            rw [xN_set b f I o n bl hnf hoE]
            simp only [World.setCell, Array.getElem?_modify, hb4]
            simp
          have HBAD : Hid (nbE b o n bl ≠ 0 → ∀ W, Nw w W → HcH qb hZ W → ∀ tmps : Array Value, tmps.getD 2 undef = .pointer (some ⟨qb, 0, none⟩) → tmps.getD 3 undef = .int .i64 (o : Nat) → tmps.getD 4 undef = .int .i64 (nbE b o n bl : Nat) → bodyPost Tryz.prog Tryz.f6 P .ret ⟨tmps, []⟩ W) := fun hE W hW hq => by
            have hsE : scN b f nF = (o, nbE b o n bl) := by rw [hsc, hst, if_pos ⟨hoE, hE⟩]
            have hdE : decE b = nbE b o n bl := by unfold decE; rw [if_pos HCKT.out, HMG.out, if_neg HFZ.out, hsE]
            have hdP : decP b = o := by unfold decP; rw [if_pos HCKT.out, HMG.out, if_neg HFZ.out, hsE]
            have hdH : decH b = hZ := by unfold decH; rw [if_neg (by rw [hdE]; exact hE)]
            exact HEN0.out W hZ o _ hW hq hdH hdP hdE
          rw [← hxb0] at *
          clear hxb hV HI hst hsc x0 x1 x2 x3 hb0 hr kV hHw hoE hnl HEN0 HEND HF
          generalize nmN (fd b o n) = NN at *
          generalize nmE (fd b o n) = EE at *
          generalize nbE b o n bl = BB at *
          by_cases hE : EE = 0
          · subst hE
            rw [if_pos rfl] at hnb
            by_cases hm : 0 ≤ NN ∨ bl = true
            · rw [if_pos hm] at hnb
              have HX := tHid (HNXT.out hnb)
              clear HNXT HBAD hnb
              go_upto_region 16 with (first | (go_at_call 21; with_reducible refine HHS.out.mono ?_; rintro e w3 ⟨rfl, rfl⟩))
              rw [HV.out]
              go_upto_region 17 with (first | (go_at_call 22; with_reducible refine HNR.out.mono ?_; rintro e w4 ⟨rfl, K4⟩))
              obtain ⟨a3, a2, g2, ax, HQ⟩ := HAF.out w4 K4.out
              have HX4 := tHid (HX.out w4 K4.out)
              clear HAF HX HNR v0 v1 y0 y1
              by_cases hp : 0 ≤ NN
              · have hp' : ¬ NN < 0 := by omega
                go_wp2_with fail
                go_roundg (N - (I + 1))
                case measure => omega
                case rel => exact ⟨I + 1, by omega, by omega, by first | rfl | (congr 1), HX4⟩
              · have hp' : NN < 0 := by omega
                obtain rfl : bl = true := by rcases hm with q | q; exact absurd q hp; exact q
                go_wp2_with fail
                go_roundg (N - (I + 1))
                case measure => omega
                case rel => exact ⟨I + 1, by omega, by omega, by first | rfl | (congr 1), HX4⟩

            · rw [if_neg hm] at hnb
              have hp' : NN < 0 := by omega
              obtain rfl : bl = false := by cases bl; rfl; exact absurd (.inr rfl) hm
              subst hnb
              have HB2 := tHid (HBAD.out (by decide))
              clear HNXT HBAD hm
              go_upto_region 16 with (first | (go_at_call 21; with_reducible refine HHS.out.mono ?_; rintro e w3 ⟨rfl, rfl⟩))
              rw [HV.out]
              go_upto_region 17 with (first | (go_at_call 22; with_reducible refine HNR.out.mono ?_; rintro e w4 ⟨rfl, K4⟩))
              obtain ⟨a3, a2, g2, ax, HQ⟩ := HAF.out w4 K4.out
              obtain ⟨hq2, hn2⟩ := HQ.out
              have ax' : w4.drew.cell? ⟨w3.heap.size, 0, none⟩ = some (.int .i64 (o : Nat)) := ax
              have qc0 : w4.drew.cell? ⟨qb, 0, none⟩ = some (.int .i64 0) := cell_of hq2 0 _ rfl
              have qf0 : w4.drew.frozen? ⟨qb, 0, none⟩ = false := frz_of hq2 0
              have qs0 : w4.drew.setCell ⟨qb, 0, none⟩ (.int .i64 0) = w4.drew := set_idH hq2 rfl
              have qc1 : w4.drew.cell? ⟨qb, 1, none⟩ = some (.string ⟨#[]⟩) := cell_of hq2 1 _ rfl
              have qf1 : w4.drew.frozen? ⟨qb, 1, none⟩ = false := frz_of hq2 1
              have qs1 : w4.drew.setCell ⟨qb, 1, none⟩ (.string ⟨#[]⟩) = w4.drew := set_idH hq2 rfl
              have qc2 : w4.drew.cell? ⟨qb, 2, none⟩ = some (.string ⟨#[]⟩) := cell_of hq2 2 _ rfl
              have qf2 : w4.drew.frozen? ⟨qb, 2, none⟩ = false := frz_of hq2 2
              have qs2 : w4.drew.setCell ⟨qb, 2, none⟩ (.string ⟨#[]⟩) = w4.drew := set_idH hq2 rfl
              have qc3 : w4.drew.cell? ⟨qb, 3, none⟩ = some (.int .i64 0) := cell_of hq2 3 _ rfl
              have qf3 : w4.drew.frozen? ⟨qb, 3, none⟩ = false := frz_of hq2 3
              have qs3 : w4.drew.setCell ⟨qb, 3, none⟩ (.int .i64 0) = w4.drew := set_idH hq2 rfl
              have qc4 : w4.drew.cell? ⟨qb, 4, none⟩ = some (.int .i64 0) := cell_of hq2 4 _ rfl
              have qf4 : w4.drew.frozen? ⟨qb, 4, none⟩ = false := frz_of hq2 4
              have qs4 : w4.drew.setCell ⟨qb, 4, none⟩ (.int .i64 0) = w4.drew := set_idH hq2 rfl
              have qc5 : w4.drew.cell? ⟨qb, 5, none⟩ = some (.int .i64 0) := cell_of hq2 5 _ rfl
              have qf5 : w4.drew.frozen? ⟨qb, 5, none⟩ = false := frz_of hq2 5
              have qs5 : w4.drew.setCell ⟨qb, 5, none⟩ (.int .i64 0) = w4.drew := set_idH hq2 rfl
              have qc6 : w4.drew.cell? ⟨qb, 6, none⟩ = some (.int .i64 0) := cell_of hq2 6 _ rfl
              have qf6 : w4.drew.frozen? ⟨qb, 6, none⟩ = false := frz_of hq2 6
              have qs6 : w4.drew.setCell ⟨qb, 6, none⟩ (.int .i64 0) = w4.drew := set_idH hq2 rfl
              have qc7 : w4.drew.cell? ⟨qb, 7, none⟩ = some (.int .i64 0) := cell_of hq2 7 _ rfl
              have qf7 : w4.drew.frozen? ⟨qb, 7, none⟩ = false := frz_of hq2 7
              have qs7 : w4.drew.setCell ⟨qb, 7, none⟩ (.int .i64 0) = w4.drew := set_idH hq2 rfl
              have qc8 : w4.drew.cell? ⟨qb, 8, none⟩ = some (.int .u8 0) := cell_of hq2 8 _ rfl
              have qf8 : w4.drew.frozen? ⟨qb, 8, none⟩ = false := frz_of hq2 8
              have qs8 : w4.drew.setCell ⟨qb, 8, none⟩ (.int .u8 0) = w4.drew := set_idH hq2 rfl
              have qc9 : w4.drew.cell? ⟨qb, 9, none⟩ = some (.string ⟨#[]⟩) := cell_of hq2 9 _ rfl
              have qf9 : w4.drew.frozen? ⟨qb, 9, none⟩ = false := frz_of hq2 9
              have qs9 : w4.drew.setCell ⟨qb, 9, none⟩ (.string ⟨#[]⟩) = w4.drew := set_idH hq2 rfl
              have qc10 : w4.drew.cell? ⟨qb, 10, none⟩ = some (.string ⟨#[]⟩) := cell_of hq2 10 _ rfl
              have qf10 : w4.drew.frozen? ⟨qb, 10, none⟩ = false := frz_of hq2 10
              have qs10 : w4.drew.setCell ⟨qb, 10, none⟩ (.string ⟨#[]⟩) = w4.drew := set_idH hq2 rfl
              have qc11 : w4.drew.cell? ⟨qb, 11, none⟩ = some (.string ⟨#[]⟩) := cell_of hq2 11 _ rfl
              have qf11 : w4.drew.frozen? ⟨qb, 11, none⟩ = false := frz_of hq2 11
              have qs11 : w4.drew.setCell ⟨qb, 11, none⟩ (.string ⟨#[]⟩) = w4.drew := set_idH hq2 rfl
              have qc12 : w4.drew.cell? ⟨qb, 12, none⟩ = some (.int .i64 0) := cell_of hq2 12 _ rfl
              have qf12 : w4.drew.frozen? ⟨qb, 12, none⟩ = false := frz_of hq2 12
              have qs12 : w4.drew.setCell ⟨qb, 12, none⟩ (.int .i64 0) = w4.drew := set_idH hq2 rfl
              have qc13 : w4.drew.cell? ⟨qb, 13, none⟩ = some (.int .i64 0) := cell_of hq2 13 _ rfl
              have qf13 : w4.drew.frozen? ⟨qb, 13, none⟩ = false := frz_of hq2 13
              have qs13 : w4.drew.setCell ⟨qb, 13, none⟩ (.int .i64 0) = w4.drew := set_idH hq2 rfl
              have HE3 := tHid (HB2.out w4.drew hn2 hq2)
              clear HAF HNR v0 v1 y0 y1 hq2 hn2 HB2
              go_upto_region 20 with fail
              go_region_held3 (fun w' => w'.cell? ⟨w3.heap.size, 0, none⟩ = some (.int .i64 (o : Nat)))
                (first | assumption)
                (fail)
              all_goals
                go_wp2_with fail
                (try simp only [Exit.inBlock, Exit.then])
                exact HE3.out _ rfl rfl rfl

          · rw [if_neg hE] at hnb
            subst hnb
            have HB2 := tHid (HBAD.out hE)
            have hq9 : ((BB : Int) == 0) = false := by rw [beq_eq_false_iff_ne]; omega
            clear HNXT HBAD
            go_upto_region 16 with (first | (go_at_call 21; with_reducible refine HHS.out.mono ?_; rintro e w3 ⟨rfl, rfl⟩))
            rw [HV.out]
            go_upto_region 17 with (first | (go_at_call 22; with_reducible refine HNR.out.mono ?_; rintro e w4 ⟨rfl, K4⟩))
            obtain ⟨a3, a2, g2, ax, HQ⟩ := HAF.out w4 K4.out
            obtain ⟨hq2, hn2⟩ := HQ.out
            have ax' : w4.drew.cell? ⟨w3.heap.size, 0, none⟩ = some (.int .i64 (o : Nat)) := ax
            have qc0 : w4.drew.cell? ⟨qb, 0, none⟩ = some (.int .i64 0) := cell_of hq2 0 _ rfl
            have qf0 : w4.drew.frozen? ⟨qb, 0, none⟩ = false := frz_of hq2 0
            have qs0 : w4.drew.setCell ⟨qb, 0, none⟩ (.int .i64 0) = w4.drew := set_idH hq2 rfl
            have qc1 : w4.drew.cell? ⟨qb, 1, none⟩ = some (.string ⟨#[]⟩) := cell_of hq2 1 _ rfl
            have qf1 : w4.drew.frozen? ⟨qb, 1, none⟩ = false := frz_of hq2 1
            have qs1 : w4.drew.setCell ⟨qb, 1, none⟩ (.string ⟨#[]⟩) = w4.drew := set_idH hq2 rfl
            have qc2 : w4.drew.cell? ⟨qb, 2, none⟩ = some (.string ⟨#[]⟩) := cell_of hq2 2 _ rfl
            have qf2 : w4.drew.frozen? ⟨qb, 2, none⟩ = false := frz_of hq2 2
            have qs2 : w4.drew.setCell ⟨qb, 2, none⟩ (.string ⟨#[]⟩) = w4.drew := set_idH hq2 rfl
            have qc3 : w4.drew.cell? ⟨qb, 3, none⟩ = some (.int .i64 0) := cell_of hq2 3 _ rfl
            have qf3 : w4.drew.frozen? ⟨qb, 3, none⟩ = false := frz_of hq2 3
            have qs3 : w4.drew.setCell ⟨qb, 3, none⟩ (.int .i64 0) = w4.drew := set_idH hq2 rfl
            have qc4 : w4.drew.cell? ⟨qb, 4, none⟩ = some (.int .i64 0) := cell_of hq2 4 _ rfl
            have qf4 : w4.drew.frozen? ⟨qb, 4, none⟩ = false := frz_of hq2 4
            have qs4 : w4.drew.setCell ⟨qb, 4, none⟩ (.int .i64 0) = w4.drew := set_idH hq2 rfl
            have qc5 : w4.drew.cell? ⟨qb, 5, none⟩ = some (.int .i64 0) := cell_of hq2 5 _ rfl
            have qf5 : w4.drew.frozen? ⟨qb, 5, none⟩ = false := frz_of hq2 5
            have qs5 : w4.drew.setCell ⟨qb, 5, none⟩ (.int .i64 0) = w4.drew := set_idH hq2 rfl
            have qc6 : w4.drew.cell? ⟨qb, 6, none⟩ = some (.int .i64 0) := cell_of hq2 6 _ rfl
            have qf6 : w4.drew.frozen? ⟨qb, 6, none⟩ = false := frz_of hq2 6
            have qs6 : w4.drew.setCell ⟨qb, 6, none⟩ (.int .i64 0) = w4.drew := set_idH hq2 rfl
            have qc7 : w4.drew.cell? ⟨qb, 7, none⟩ = some (.int .i64 0) := cell_of hq2 7 _ rfl
            have qf7 : w4.drew.frozen? ⟨qb, 7, none⟩ = false := frz_of hq2 7
            have qs7 : w4.drew.setCell ⟨qb, 7, none⟩ (.int .i64 0) = w4.drew := set_idH hq2 rfl
            have qc8 : w4.drew.cell? ⟨qb, 8, none⟩ = some (.int .u8 0) := cell_of hq2 8 _ rfl
            have qf8 : w4.drew.frozen? ⟨qb, 8, none⟩ = false := frz_of hq2 8
            have qs8 : w4.drew.setCell ⟨qb, 8, none⟩ (.int .u8 0) = w4.drew := set_idH hq2 rfl
            have qc9 : w4.drew.cell? ⟨qb, 9, none⟩ = some (.string ⟨#[]⟩) := cell_of hq2 9 _ rfl
            have qf9 : w4.drew.frozen? ⟨qb, 9, none⟩ = false := frz_of hq2 9
            have qs9 : w4.drew.setCell ⟨qb, 9, none⟩ (.string ⟨#[]⟩) = w4.drew := set_idH hq2 rfl
            have qc10 : w4.drew.cell? ⟨qb, 10, none⟩ = some (.string ⟨#[]⟩) := cell_of hq2 10 _ rfl
            have qf10 : w4.drew.frozen? ⟨qb, 10, none⟩ = false := frz_of hq2 10
            have qs10 : w4.drew.setCell ⟨qb, 10, none⟩ (.string ⟨#[]⟩) = w4.drew := set_idH hq2 rfl
            have qc11 : w4.drew.cell? ⟨qb, 11, none⟩ = some (.string ⟨#[]⟩) := cell_of hq2 11 _ rfl
            have qf11 : w4.drew.frozen? ⟨qb, 11, none⟩ = false := frz_of hq2 11
            have qs11 : w4.drew.setCell ⟨qb, 11, none⟩ (.string ⟨#[]⟩) = w4.drew := set_idH hq2 rfl
            have qc12 : w4.drew.cell? ⟨qb, 12, none⟩ = some (.int .i64 0) := cell_of hq2 12 _ rfl
            have qf12 : w4.drew.frozen? ⟨qb, 12, none⟩ = false := frz_of hq2 12
            have qs12 : w4.drew.setCell ⟨qb, 12, none⟩ (.int .i64 0) = w4.drew := set_idH hq2 rfl
            have qc13 : w4.drew.cell? ⟨qb, 13, none⟩ = some (.int .i64 0) := cell_of hq2 13 _ rfl
            have qf13 : w4.drew.frozen? ⟨qb, 13, none⟩ = false := frz_of hq2 13
            have qs13 : w4.drew.setCell ⟨qb, 13, none⟩ (.int .i64 0) = w4.drew := set_idH hq2 rfl
            have HE3 := tHid (HB2.out w4.drew hn2 hq2)
            clear HAF HNR v0 v1 y0 y1 hq2 hn2 HB2
            go_upto_region 18 with fail
            go_region_held3 (fun w' => w'.cell? ⟨w3.heap.size, 0, none⟩ = some (.int .i64 (o : Nat)))
              (first | assumption)
              (fail)
            all_goals
              go_wp2_with fail
              (try simp only [Exit.inBlock, Exit.then])
              exact HE3.out _ rfl rfl rfl

        · have hltI : ¬ (I : Int) < (N : Int) := by omega
          obtain rfl : I = N := by omega
          have hsE : scN b f nF = (0, 0) := by rw [HI.out.2.2]; exact scN_last b f I hF HN9.out
          have hdE : decE b = 0 := by unfold decE; rw [if_pos HCKT.out, HMG.out, if_neg HFZ.out, hsE]
          have hdP : decP b = 0 := by unfold decP; rw [if_pos HCKT.out, HMG.out, if_neg HFZ.out, hsE]
          have hdH : decH b = dH b f 5 7 := by unfold decH; rw [if_pos hdE, HMG.out]
          have hx7 : xN b f I = xN b f 7 := xN_last b f I hF HN9.out
          have hq7 : HcH qb hZ wr := cell_kept HI.out.2.1 HQB.out Hqb.out
          have hr7 : RcH rb b wr := cell_kept HI.out.2.1 HRB.out Hrb.out
          have hn7 : Nw w wr := Fr.then HNU.out HI.out.2.1 (fun i hi => .inr (by have := Hnw.out; omega))
          have hb7 := HI.out.1
          rw [hx7] at hb7
          have hb0 : wr.drew.heap[nb]? = some (.cells (xN b f 7) 70) := by exact hb7
          have hN0 : HcH hb (hV f 0 0 0 0 0 0 0) wr.drew := by exact hHw
          have f0 : Fr (fun k => k = hb) wr wr.drew := by exact (Fr.refl _ _).drew
          obtain ⟨m0, hm0⟩ : ∃ m, dN b f 7 0 100 8 = m := ⟨_, rfl⟩
          obtain ⟨m1, hm1⟩ : ∃ m, dN b f 7 1 108 8 = m := ⟨_, rfl⟩
          obtain ⟨m2, hm2⟩ : ∃ m, dN b f 7 2 116 8 = m := ⟨_, rfl⟩
          obtain ⟨m3, hm3⟩ : ∃ m, dN b f 7 3 124 12 = m := ⟨_, rfl⟩
          obtain ⟨m4, hm4⟩ : ∃ m, dN b f 7 4 136 12 = m := ⟨_, rfl⟩
          obtain ⟨m5, hm5⟩ : ∃ m, dN b f 7 5 329 8 = m := ⟨_, rfl⟩
          obtain ⟨m6, hm6⟩ : ∃ m, dN b f 7 6 337 8 = m := ⟨_, rfl⟩
          have hxc : xN b f 7 = #[.int .i64 100, .int .i64 8, .int .i64 m0, .bool false, .int .i64 108, .int .i64 8, .int .i64 m1, .bool false, .int .i64 116, .int .i64 8, .int .i64 m2, .bool false, .int .i64 124, .int .i64 12, .int .i64 m3, .bool false, .int .i64 136, .int .i64 12, .int .i64 m4, .bool true, .int .i64 329, .int .i64 8, .int .i64 m5, .bool false, .int .i64 337, .int .i64 8, .int .i64 m6, .bool false] := by rw [← hm0, ← hm1, ← hm2, ← hm3, ← hm4, ← hm5, ← hm6]; rfl
          have HSN : Hid (∀ U : World, U.heap[nb]? = some (.cells (xN b f 7) 70) → U.cell? ⟨nb, 2, none⟩ = some (.int .i64 m0) ∧ U.cell? ⟨nb, 6, none⟩ = some (.int .i64 m1) ∧ U.cell? ⟨nb, 10, none⟩ = some (.int .i64 m2) ∧ U.cell? ⟨nb, 14, none⟩ = some (.int .i64 m3) ∧ U.cell? ⟨nb, 18, none⟩ = some (.int .i64 m4) ∧ U.cell? ⟨nb, 22, none⟩ = some (.int .i64 m5) ∧ U.cell? ⟨nb, 26, none⟩ = some (.int .i64 m6)) := fun U hU => by
            rw [hxc] at hU
            exact ⟨cell_of hU 2 _ rfl, cell_of hU 6 _ rfl, cell_of hU 10 _ rfl, cell_of hU 14 _ rfl, cell_of hU 18 _ rfl, cell_of hU 22 _ rfl, cell_of hU 26 _ rfl⟩
          have sS0 := HSN.out wr.drew hb0
          have hc0 := cell_of hN0 3 _ rfl
          have hg0 := frz_of hN0 3
          obtain ⟨V1, hV1⟩ : ∃ V, wr.drew.setCell ⟨hb, 3, none⟩ (.int .i64 m0) = V := ⟨_, rfl⟩
          have hN1 : HcH hb (hV f m0 0 0 0 0 0 0) V1 := by rw [← hV1]; exact hc_set hN0 3 _ rfl
          have f1 : Fr (fun k => k = hb) wr V1 := by rw [← hV1]; exact f0.setCell ⟨hb, 3, none⟩ _ (.inl rfl)
          have sS1 := HSN.out V1 (cell_kept f1 hb7 (fun e => Hhb.out e.symm))
          have hc1 := cell_of hN1 4 _ rfl
          have hg1 := frz_of hN1 4
          obtain ⟨V2, hV2⟩ : ∃ V, V1.setCell ⟨hb, 4, none⟩ (.int .i64 m1) = V := ⟨_, rfl⟩
          have hN2 : HcH hb (hV f m0 m1 0 0 0 0 0) V2 := by rw [← hV2]; exact hc_set hN1 4 _ rfl
          have f2 : Fr (fun k => k = hb) wr V2 := by rw [← hV2]; exact f1.setCell ⟨hb, 4, none⟩ _ (.inl rfl)
          have sS2 := HSN.out V2 (cell_kept f2 hb7 (fun e => Hhb.out e.symm))
          have hc2 := cell_of hN2 5 _ rfl
          have hg2 := frz_of hN2 5
          obtain ⟨V3, hV3⟩ : ∃ V, V2.setCell ⟨hb, 5, none⟩ (.int .i64 m2) = V := ⟨_, rfl⟩
          have hN3 : HcH hb (hV f m0 m1 m2 0 0 0 0) V3 := by rw [← hV3]; exact hc_set hN2 5 _ rfl
          have f3 : Fr (fun k => k = hb) wr V3 := by rw [← hV3]; exact f2.setCell ⟨hb, 5, none⟩ _ (.inl rfl)
          have sS3 := HSN.out V3 (cell_kept f3 hb7 (fun e => Hhb.out e.symm))
          have hc3 := cell_of hN3 6 _ rfl
          have hg3 := frz_of hN3 6
          obtain ⟨V4, hV4⟩ : ∃ V, V3.setCell ⟨hb, 6, none⟩ (.int .i64 m3) = V := ⟨_, rfl⟩
          have hN4 : HcH hb (hV f m0 m1 m2 m3 0 0 0) V4 := by rw [← hV4]; exact hc_set hN3 6 _ rfl
          have f4 : Fr (fun k => k = hb) wr V4 := by rw [← hV4]; exact f3.setCell ⟨hb, 6, none⟩ _ (.inl rfl)
          have sS4 := HSN.out V4 (cell_kept f4 hb7 (fun e => Hhb.out e.symm))
          have hc4 := cell_of hN4 7 _ rfl
          have hg4 := frz_of hN4 7
          obtain ⟨V5, hV5⟩ : ∃ V, V4.setCell ⟨hb, 7, none⟩ (.int .i64 m4) = V := ⟨_, rfl⟩
          have hN5 : HcH hb (hV f m0 m1 m2 m3 m4 0 0) V5 := by rw [← hV5]; exact hc_set hN4 7 _ rfl
          have f5 : Fr (fun k => k = hb) wr V5 := by rw [← hV5]; exact f4.setCell ⟨hb, 7, none⟩ _ (.inl rfl)
          have sS5 := HSN.out V5 (cell_kept f5 hb7 (fun e => Hhb.out e.symm))
          have hc5 := cell_of hN5 12 _ rfl
          have hg5 := frz_of hN5 12
          obtain ⟨V6, hV6⟩ : ∃ V, V5.setCell ⟨hb, 12, none⟩ (.int .i64 m5) = V := ⟨_, rfl⟩
          have hN6 : HcH hb (hV f m0 m1 m2 m3 m4 m5 0) V6 := by rw [← hV6]; exact hc_set hN5 12 _ rfl
          have f6 : Fr (fun k => k = hb) wr V6 := by rw [← hV6]; exact f5.setCell ⟨hb, 12, none⟩ _ (.inl rfl)
          have sS6 := HSN.out V6 (cell_kept f6 hb7 (fun e => Hhb.out e.symm))
          have hc6 := cell_of hN6 13 _ rfl
          have hg6 := frz_of hN6 13
          obtain ⟨V7, hV7⟩ : ∃ V, V6.setCell ⟨hb, 13, none⟩ (.int .i64 m6) = V := ⟨_, rfl⟩
          have hN7 : HcH hb (hV f m0 m1 m2 m3 m4 m5 m6) V7 := by rw [← hV7]; exact hc_set hN6 13 _ rfl
          have f7 : Fr (fun k => k = hb) wr V7 := by rw [← hV7]; exact f6.setCell ⟨hb, 13, none⟩ _ (.inl rfl)
          have sS7 := HSN.out V7 (cell_kept f7 hb7 (fun e => Hhb.out e.symm))
          have HM7 := tHid hN7
          have HF7 := tHid f7
          have HR7 := tHid (cell_kept f7 hr7 (fun e => Hrhb.out e))
          have HQ7 := tHid (cell_kept f7 hq7 (fun e => Hqhb.out e))
          have HN7 : Hid (Nw w V7) := Fr.then hn7 f7 (fun i hi => .inr (by have := Hhw.out; omega))
          have HDE := tHid hdE
          have HDP := tHid hdP
          have HDH := tHid hdH
          have HMM := tHid (And.intro hm0 (And.intro hm1 (And.intro hm2 (And.intro hm3 (And.intro hm4 (And.intro hm5 hm6))))))
          clear HSN hxc hm0 hm1 hm2 hm3 hm4 hm5 hm6 hdE hdP hdH hsE hx7 hq7 hr7 hn7 hb7 hb0 HI hHw HEN0 HF hN0 hN1 hN2 hN3 hN4 hN5 hN6 hN7 f0 f1 f2 f3 f4 f5 f6 f7
          go_upto_region 22 with (first | (go_at_call 21; with_reducible refine HHS.out.mono ?_; rintro e w3 ⟨rfl, rfl⟩))
          go_region_held3 (fun w' => w'.cell? ⟨nb, 2, none⟩ = some (.int .i64 m0) ∧ w'.cell? ⟨nb, 6, none⟩ = some (.int .i64 m1) ∧ w'.cell? ⟨nb, 10, none⟩ = some (.int .i64 m2) ∧ w'.cell? ⟨nb, 14, none⟩ = some (.int .i64 m3) ∧ w'.cell? ⟨nb, 18, none⟩ = some (.int .i64 m4) ∧ w'.cell? ⟨nb, 22, none⟩ = some (.int .i64 m5) ∧ w'.cell? ⟨nb, 26, none⟩ = some (.int .i64 m6))
            (first | assumption)
            (fail)
          clear sS0 sS1 sS2 sS3 sS4 sS5 sS6 sS7 hc0 hc1 hc2 hc3 hc4 hc5 hc6 hg0 hg1 hg2 hg3 hg4 hg5 hg6 hV1 hV2 hV3 hV4 hV5 hV6 hV7 HHS HHAS c0
          have hR0 : RcH rb b V7.drew := HR7.out
          obtain ⟨x, hx⟩ : ∃ x, b[156]'(by omega) = x := ⟨_, rfl⟩
          have cx : V7.drew.cell? ⟨rb, 156, none⟩ = some (.int .u8 x.toNat) := by rw [← hx]; exact (hR0.cell 156 (by omega)).1
          obtain ⟨T0, hT0⟩ : ∃ T, str (txt (fd b 0 100)) = T := ⟨_, rfl⟩
          obtain ⟨T1, hT1⟩ : ∃ T, str (txt (fd b 157 100)) = T := ⟨_, rfl⟩
          have HTA : Hid (Calls Tryz.prog 23 #[.slice (some ⟨rb, 0, none⟩) 100 512] V7.drew fun e w' => e = .returned (.string T0) ∧ w' = V7.drew) := by
            have t := rtext_any V7.drew _ 100 512 (fd b 0 100) (fd_sl V7.drew rb 0 100 b hbl (by decide) hR0)
            rw [hT0] at t
            exact t.mono (fun e w' q => ⟨q.1, q.2.symm⟩)
          have HTB : Hid (Calls Tryz.prog 23 #[.slice (some ⟨rb, 157, none⟩) 100 355] V7.drew fun e w' => e = .returned (.string T1) ∧ w' = V7.drew) := by
            have t := rtext_any V7.drew _ 100 355 (fd b 157 100) (fd_sl V7.drew rb 157 100 b hbl (by decide) hR0)
            rw [hT1] at t
            exact t.mono (fun e w' q => ⟨q.1, q.2.symm⟩)
          have hA0 : HcH hb (hQ f m0 m1 m2 m3 m4 m5 m6 eS eS 0#8 eS eS eS) V7.drew := HM7.out
          have d0 := cell_of hA0 1 _ rfl
          have e0 := frz_of hA0 1
          obtain ⟨X1, hX1⟩ : ∃ X, V7.drew.setCell ⟨hb, 1, none⟩ (.string T0) = X := ⟨_, rfl⟩
          have hA1 : HcH hb (hQ f m0 m1 m2 m3 m4 m5 m6 T0 eS 0#8 eS eS eS) X1 := by rw [← hX1]; exact hc_set hA0 1 _ rfl
          have d1 := cell_of hA1 9 _ rfl
          have e1 := frz_of hA1 9
          obtain ⟨X2, hX2⟩ : ∃ X, X1.setCell ⟨hb, 9, none⟩ (.string T1) = X := ⟨_, rfl⟩
          have hA2 : HcH hb (hQ f m0 m1 m2 m3 m4 m5 m6 T0 eS 0#8 T1 eS eS) X2 := by rw [← hX2]; exact hc_set hA1 9 _ rfl
          have d2 := cell_of hA2 8 _ rfl
          have e2 := frz_of hA2 8
          obtain ⟨X3, hX3⟩ : ∃ X, X2.setCell ⟨hb, 8, none⟩ (.int .u8 (x.toNat : Nat)) = X := ⟨_, rfl⟩
          have hA3 : HcH hb (hQ f m0 m1 m2 m3 m4 m5 m6 T0 eS x T1 eS eS) X3 := by rw [← hX3]; exact hc_set hA2 8 _ rfl
          have e3 := frz_of hA3 8
          have f1 : Fr (fun k => k = hb) V7.drew X1 := by rw [← hX1]; exact (Fr.refl _ _).setCell ⟨hb, 1, none⟩ _ (.inl rfl)
          have f2 : Fr (fun k => k = hb) V7.drew X2 := by rw [← hX2]; exact f1.setCell ⟨hb, 9, none⟩ _ (.inl rfl)
          have f3 : Fr (fun k => k = hb) V7.drew X3 := by rw [← hX3]; exact f2.setCell ⟨hb, 8, none⟩ _ (.inl rfl)
          have cx1 : X1.cell? ⟨rb, 156, none⟩ = some (.int .u8 x.toNat) := by rw [← hx]; exact (RcH.cell (hR0.kept f1 (fun e => Hrhb.out e)) 156 (by omega)).1
          have cx2 : X2.cell? ⟨rb, 156, none⟩ = some (.int .u8 x.toNat) := by rw [← hx]; exact (RcH.cell (hR0.kept f2 (fun e => Hrhb.out e)) 156 (by omega)).1
          have cx3 : X3.cell? ⟨rb, 156, none⟩ = some (.int .u8 x.toNat) := by rw [← hx]; exact (RcH.cell (hR0.kept f3 (fun e => Hrhb.out e)) 156 (by omega)).1
          have HA3 := tHid hA3
          have HG3 := tHid f3
          clear hA0 hA1 hA2 hA3 f1 f2 f3
          go_upto_region 23 with fail
          go_region_held3 (fun w' => w'.cell? ⟨rb, 156, none⟩ = some (.int .u8 x.toNat))
            (first | assumption)
            (first
              | (go_at_call 23; with_reducible refine HTA.out.mono ?_; rintro e w8 ⟨rfl, rfl⟩)
              | (go_at_call 23; with_reducible refine HTB.out.mono ?_; rintro e w9 ⟨rfl, rfl⟩))
          all_goals
            have d3 : X3.cell? ⟨hb, 8, none⟩ = some (.int .u8 (x.toNat : Nat)) := cell_of HA3.out 8 _ rfl
            have htyx : tyOf b = if x = 0#8 then 48#8 else x := by
              unfold tyOf
              rw [show b.getD 156 0 = x from by rw [List.getD_eq_getElem?_getD, List.getElem?_eq_getElem (by omega)]; exact hx]
            have HTX : Hid (∀ V o n, Fr (fun k => k = hb) V7.drew V → o + n ≤ 512 → Calls Tryz.prog 23 #[.slice (some ⟨rb, o, none⟩) n (512 - o)] V fun e w' => e = .returned (.string (str (txt (fd b o n)))) ∧ w' = V) := fun V o n hV hon => (rtext_any V _ n (512 - o) (fd b o n) (fd_sl V rb o n b hbl hon (hR0.kept hV (fun e => Hrhb.out e)))).mono (fun e w' q => ⟨q.1, q.2.symm⟩)
            have HFIN : Hid (∀ (X : World) (M : Hr), Fr (fun k => k = hb) V7.drew X → HcH hb M X → dH b f 5 7 = M → ∃ W5, X.setRow qb M.C = W5 ∧ X.heap[hb]? = some (.cells M.C 24) ∧ X.heap[qb]? = some (.cells hZ.C 24) ∧ Hid (∀ tmps : Array Value, tmps.getD 2 undef = .pointer (some ⟨qb, 0, none⟩) → tmps.getD 3 undef = .int .i64 ((0 : Nat) : Int) → tmps.getD 4 undef = .int .i64 ((0 : Nat) : Int) → bodyPost Tryz.prog Tryz.f6 P .ret ⟨tmps, []⟩ W5)) := fun X M hX hM he => by
              obtain ⟨W5, e5, y3, HE⟩ := HEND.out X M 0 0 (Fr.then HN7.out.drew hX (fun i hi => .inr (by have := Hhw.out; omega))) (cell_kept hX HQ7.out (fun e => Hqhb.out e)) (by rw [HDH.out]; exact he) HDP.out HDE.out
              exact ⟨W5, e5, hM, y3, HE⟩
            clear d0 d1 d2 e0 e1 e2 hX1 hX2 hX3 cx cx1 cx2 cx3 HTA HTB HEND hR0
            by_cases hx0 : x = 0#8
            case pos =>
              rw [if_pos hx0] at htyx
              obtain ⟨X4, hX4⟩ : ∃ X, X3.setCell ⟨hb, 8, none⟩ (.int .u8 48) = X := ⟨_, rfl⟩
              have hA4 : HcH hb (hQ f m0 m1 m2 m3 m4 m5 m6 T0 eS (tyOf b) T1 eS eS) X4 := by rw [← hX4, htyx]; exact hc_set HA3.out 8 _ rfl
              have hG4 : Fr (fun k => k = hb) V7.drew X4 := by rw [← hX4]; exact HG3.out.setCell ⟨hb, 8, none⟩ _ (.inl rfl)
              have q0 : X4.cell? ⟨hb, 0, none⟩ = some (.int .i64 (f : Nat)) := cell_of hA4 0 _ rfl
              have hxn : x.toNat = 0 := by rw [hx0]; rfl
              rw [hxn] at d3
              clear HA3 HG3 hx hx0 hxn
              go_upto_region 26 with fail
              rcases hF with rfl | rfl | rfl
              case inl =>
                obtain ⟨W5, e5, y1, y3, HE⟩ := HFIN.out X4 _ hG4 hA4 (by rw [dH_q1, HMM.out.1, HMM.out.2.1, HMM.out.2.2.1, HMM.out.2.2.2.1, HMM.out.2.2.2.2.1, HMM.out.2.2.2.2.2.1, HMM.out.2.2.2.2.2.2, hT0, hT1])
                clear HFIN HTX hA4 hG4
                have Y1 := tHid y1
                have Y3 := tHid y3
                clear y1 y3
                go_wp2_with (first
                  | (refine wpList_load_row rfl 24 _ rfl hb (by first | rfl | simp [Act.eval]) 24 _ (0, 0) _ Y1.out Tryz.underlying24 rfl (HSZ.out _) ?_)
                  | (refine wpList_store_row rfl 24 _ _ rfl qb (hQ 1 m0 m1 m2 m3 m4 m5 m6 T0 eS (tyOf b) T1 eS eS).C (by first | rfl | simp [Act.eval]) (by first | rfl | simp [Act.eval]) 24 _ Y3.out (HSZ.out _) rfl (HON.out _) ?_; rw [e5]))
                (try simp only [Exit.inBlock, Exit.then])
                exact HE.out _ rfl rfl rfl

              case inr.inl =>
                obtain ⟨T2, hT2⟩ : ∃ T, str (txt (fd b 265 32)) = T := ⟨_, rfl⟩
                obtain ⟨T3, hT3⟩ : ∃ T, str (txt (fd b 297 32)) = T := ⟨_, rfl⟩
                have HT2 : Hid (Calls Tryz.prog 23 #[.slice (some ⟨rb, 265, none⟩) 32 247] X4.drew fun e w' => e = .returned (.string T2) ∧ w' = X4.drew) := by rw [← hT2]; exact HTX.out X4.drew 265 32 hG4.drew (by decide)
                have HT3 : Hid (Calls Tryz.prog 23 #[.slice (some ⟨rb, 297, none⟩) 32 215] X4.drew fun e w' => e = .returned (.string T3) ∧ w' = X4.drew) := by rw [← hT3]; exact HTX.out X4.drew 297 32 hG4.drew (by decide)
                have hB0 : HcH hb (hQ 2 m0 m1 m2 m3 m4 m5 m6 T0 eS (tyOf b) T1 eS eS) X4.drew := hA4
                have p0 : X4.drew.cell? ⟨hb, 10, none⟩ = some (.string eS) := cell_of hB0 10 _ rfl
                have p0f : X4.drew.frozen? ⟨hb, 10, none⟩ = false := frz_of hB0 10
                obtain ⟨Y1', hY1⟩ : ∃ X, X4.drew.setCell ⟨hb, 10, none⟩ (.string T2) = X := ⟨_, rfl⟩
                have hB1 : HcH hb (hQ 2 m0 m1 m2 m3 m4 m5 m6 T0 eS (tyOf b) T1 T2 eS) Y1' := by rw [← hY1]; exact hc_set hB0 10 _ rfl
                have p1 : Y1'.cell? ⟨hb, 11, none⟩ = some (.string eS) := cell_of hB1 11 _ rfl
                have p1f : Y1'.frozen? ⟨hb, 11, none⟩ = false := frz_of hB1 11
                obtain ⟨Y2', hY2⟩ : ∃ X, Y1'.setCell ⟨hb, 11, none⟩ (.string T3) = X := ⟨_, rfl⟩
                have hB2 : HcH hb (hQ 2 m0 m1 m2 m3 m4 m5 m6 T0 eS (tyOf b) T1 T2 T3) Y2' := by rw [← hY2]; exact hc_set hB1 11 _ rfl
                have hH1 : Fr (fun k => k = hb) V7.drew Y1' := by rw [← hY1]; exact hG4.drew.setCell ⟨hb, 10, none⟩ _ (.inl rfl)
                have hH2 : Fr (fun k => k = hb) V7.drew Y2' := by rw [← hY2]; exact hH1.setCell ⟨hb, 11, none⟩ _ (.inl rfl)
                have p2 : Y2'.cell? ⟨hb, 0, none⟩ = some (.int .i64 ((2 : Nat) : Int)) := cell_of hB2 0 _ rfl
                obtain ⟨T4, hT4⟩ : ∃ T, str (txt (fd b 345 155)) = T := ⟨_, rfl⟩
                have HT4 : Hid (Calls Tryz.prog 23 #[.slice (some ⟨rb, 345, none⟩) 155 167] Y2' fun e w' => e = .returned (.string T4) ∧ w' = Y2') := by rw [← hT4]; exact HTX.out Y2' 345 155 hH2 (by decide)
                have p3 : Y2'.cell? ⟨hb, 2, none⟩ = some (.string eS) := cell_of hB2 2 _ rfl
                have p3f : Y2'.frozen? ⟨hb, 2, none⟩ = false := frz_of hB2 2
                obtain ⟨Y3', hY3⟩ : ∃ X, Y2'.setCell ⟨hb, 2, none⟩ (.string T4) = X := ⟨_, rfl⟩
                have hB3 : HcH hb (hQ 2 m0 m1 m2 m3 m4 m5 m6 T0 T4 (tyOf b) T1 T2 T3) Y3' := by rw [← hY3]; exact hc_set hB2 2 _ rfl
                have hH3 : Fr (fun k => k = hb) V7.drew Y3' := by rw [← hY3]; exact hH2.setCell ⟨hb, 2, none⟩ _ (.inl rfl)
                obtain ⟨W5, e5, y1, y3, HE⟩ := HFIN.out Y3' _ hH3 hB3 (by rw [dH_q2, HMM.out.1, HMM.out.2.1, HMM.out.2.2.1, HMM.out.2.2.2.1, HMM.out.2.2.2.2.1, HMM.out.2.2.2.2.2.1, HMM.out.2.2.2.2.2.2, hT0, hT1, hT2, hT3, hT4])
                clear HFIN HTX hA4 hG4 hB0 hB1 hB2 hB3 hH1 hH2 hH3
                go_upto_region 27 with fail
                go_region_held3 (fun w' => True)
                  (first | trivial)
                  (first
                    | (go_at_call 23; with_reducible refine HT2.out.mono ?_; rintro e w8 ⟨rfl, rfl⟩)
                    | (go_at_call 23; with_reducible refine HT3.out.mono ?_; rintro e w9 ⟨rfl, rfl⟩))
                go_upto_region 30 with (first | (go_at_call 23; with_reducible refine HT4.out.mono ?_; rintro e w9 ⟨rfl, rfl⟩))
                have Y1 := tHid y1
                have Y3 := tHid y3
                clear y1 y3
                go_wp2_with (first
                  | (refine wpList_load_row rfl 24 _ rfl hb (by first | rfl | simp [Act.eval]) 24 _ (0, 0) _ Y1.out Tryz.underlying24 rfl (HSZ.out _) ?_)
                  | (refine wpList_store_row rfl 24 _ _ rfl qb (hQ 2 m0 m1 m2 m3 m4 m5 m6 T0 T4 (tyOf b) T1 T2 T3).C (by first | rfl | simp [Act.eval]) (by first | rfl | simp [Act.eval]) 24 _ Y3.out (HSZ.out _) rfl (HON.out _) ?_; rw [e5]))
                (try simp only [Exit.inBlock, Exit.then])
                exact HE.out _ rfl rfl rfl

              case inr.inr =>
                obtain ⟨T2, hT2⟩ : ∃ T, str (txt (fd b 265 32)) = T := ⟨_, rfl⟩
                obtain ⟨T3, hT3⟩ : ∃ T, str (txt (fd b 297 32)) = T := ⟨_, rfl⟩
                have HT2 : Hid (Calls Tryz.prog 23 #[.slice (some ⟨rb, 265, none⟩) 32 247] X4.drew fun e w' => e = .returned (.string T2) ∧ w' = X4.drew) := by rw [← hT2]; exact HTX.out X4.drew 265 32 hG4.drew (by decide)
                have HT3 : Hid (Calls Tryz.prog 23 #[.slice (some ⟨rb, 297, none⟩) 32 215] X4.drew fun e w' => e = .returned (.string T3) ∧ w' = X4.drew) := by rw [← hT3]; exact HTX.out X4.drew 297 32 hG4.drew (by decide)
                have hB0 : HcH hb (hQ 3 m0 m1 m2 m3 m4 m5 m6 T0 eS (tyOf b) T1 eS eS) X4.drew := hA4
                have p0 : X4.drew.cell? ⟨hb, 10, none⟩ = some (.string eS) := cell_of hB0 10 _ rfl
                have p0f : X4.drew.frozen? ⟨hb, 10, none⟩ = false := frz_of hB0 10
                obtain ⟨Y1', hY1⟩ : ∃ X, X4.drew.setCell ⟨hb, 10, none⟩ (.string T2) = X := ⟨_, rfl⟩
                have hB1 : HcH hb (hQ 3 m0 m1 m2 m3 m4 m5 m6 T0 eS (tyOf b) T1 T2 eS) Y1' := by rw [← hY1]; exact hc_set hB0 10 _ rfl
                have p1 : Y1'.cell? ⟨hb, 11, none⟩ = some (.string eS) := cell_of hB1 11 _ rfl
                have p1f : Y1'.frozen? ⟨hb, 11, none⟩ = false := frz_of hB1 11
                obtain ⟨Y2', hY2⟩ : ∃ X, Y1'.setCell ⟨hb, 11, none⟩ (.string T3) = X := ⟨_, rfl⟩
                have hB2 : HcH hb (hQ 3 m0 m1 m2 m3 m4 m5 m6 T0 eS (tyOf b) T1 T2 T3) Y2' := by rw [← hY2]; exact hc_set hB1 11 _ rfl
                have hH1 : Fr (fun k => k = hb) V7.drew Y1' := by rw [← hY1]; exact hG4.drew.setCell ⟨hb, 10, none⟩ _ (.inl rfl)
                have hH2 : Fr (fun k => k = hb) V7.drew Y2' := by rw [← hY2]; exact hH1.setCell ⟨hb, 11, none⟩ _ (.inl rfl)
                have p2 : Y2'.cell? ⟨hb, 0, none⟩ = some (.int .i64 ((3 : Nat) : Int)) := cell_of hB2 0 _ rfl
                obtain ⟨W5, e5, y1, y3, HE⟩ := HFIN.out Y2' _ hH2 hB2 (by rw [dH_q3, HMM.out.1, HMM.out.2.1, HMM.out.2.2.1, HMM.out.2.2.2.1, HMM.out.2.2.2.2.1, HMM.out.2.2.2.2.2.1, HMM.out.2.2.2.2.2.2, hT0, hT1, hT2, hT3])
                clear HFIN HTX hA4 hG4 hB0 hB1 hB2 hH1 hH2
                go_upto_region 27 with fail
                go_region_held3 (fun w' => True)
                  (first | trivial)
                  (first
                    | (go_at_call 23; with_reducible refine HT2.out.mono ?_; rintro e w8 ⟨rfl, rfl⟩)
                    | (go_at_call 23; with_reducible refine HT3.out.mono ?_; rintro e w9 ⟨rfl, rfl⟩))
                have Y1 := tHid y1
                have Y3 := tHid y3
                clear y1 y3
                go_wp2_with (first
                  | (refine wpList_load_row rfl 24 _ rfl hb (by first | rfl | simp [Act.eval]) 24 _ (0, 0) _ Y1.out Tryz.underlying24 rfl (HSZ.out _) ?_)
                  | (refine wpList_store_row rfl 24 _ _ rfl qb (hQ 3 m0 m1 m2 m3 m4 m5 m6 T0 eS (tyOf b) T1 T2 T3).C (by first | rfl | simp [Act.eval]) (by first | rfl | simp [Act.eval]) 24 _ Y3.out (HSZ.out _) rfl (HON.out _) ?_; rw [e5]))
                (try simp only [Exit.inBlock, Exit.then])
                exact HE.out _ rfl rfl rfl

            case neg =>
              rw [if_neg hx0] at htyx
              have hxq : ((x.toNat : Int) == 0) = false := by
                rw [beq_eq_false_iff_ne]
                intro e
                apply hx0
                apply BitVec.eq_of_toNat_eq
                show x.toNat = 0
                omega
              have hxn : ¬ x.toNat = 0 := fun e => by rw [beq_eq_false_iff_ne] at hxq; omega
              have hA4 : HcH hb (hQ f m0 m1 m2 m3 m4 m5 m6 T0 eS (tyOf b) T1 eS eS) X3 := by rw [htyx]; exact HA3.out
              have hG4 := HG3.out
              clear HA3 HG3 hx hx0
              generalize hX4 : X3 = X4 at *
              have q0 : X4.cell? ⟨hb, 0, none⟩ = some (.int .i64 (f : Nat)) := cell_of hA4 0 _ rfl
              go_upto_region 26 with fail
              rcases hF with rfl | rfl | rfl
              case inl =>
                obtain ⟨W5, e5, y1, y3, HE⟩ := HFIN.out X4 _ hG4 hA4 (by rw [dH_q1, HMM.out.1, HMM.out.2.1, HMM.out.2.2.1, HMM.out.2.2.2.1, HMM.out.2.2.2.2.1, HMM.out.2.2.2.2.2.1, HMM.out.2.2.2.2.2.2, hT0, hT1])
                clear HFIN HTX hA4 hG4
                have Y1 := tHid y1
                have Y3 := tHid y3
                clear y1 y3
                go_wp2_with (first
                  | (refine wpList_load_row rfl 24 _ rfl hb (by first | rfl | simp [Act.eval]) 24 _ (0, 0) _ Y1.out Tryz.underlying24 rfl (HSZ.out _) ?_)
                  | (refine wpList_store_row rfl 24 _ _ rfl qb (hQ 1 m0 m1 m2 m3 m4 m5 m6 T0 eS (tyOf b) T1 eS eS).C (by first | rfl | simp [Act.eval]) (by first | rfl | simp [Act.eval]) 24 _ Y3.out (HSZ.out _) rfl (HON.out _) ?_; rw [e5]))
                (try simp only [Exit.inBlock, Exit.then])
                exact HE.out _ rfl rfl rfl

              case inr.inl =>
                obtain ⟨T2, hT2⟩ : ∃ T, str (txt (fd b 265 32)) = T := ⟨_, rfl⟩
                obtain ⟨T3, hT3⟩ : ∃ T, str (txt (fd b 297 32)) = T := ⟨_, rfl⟩
                have HT2 : Hid (Calls Tryz.prog 23 #[.slice (some ⟨rb, 265, none⟩) 32 247] X4.drew fun e w' => e = .returned (.string T2) ∧ w' = X4.drew) := by rw [← hT2]; exact HTX.out X4.drew 265 32 hG4.drew (by decide)
                have HT3 : Hid (Calls Tryz.prog 23 #[.slice (some ⟨rb, 297, none⟩) 32 215] X4.drew fun e w' => e = .returned (.string T3) ∧ w' = X4.drew) := by rw [← hT3]; exact HTX.out X4.drew 297 32 hG4.drew (by decide)
                have hB0 : HcH hb (hQ 2 m0 m1 m2 m3 m4 m5 m6 T0 eS (tyOf b) T1 eS eS) X4.drew := hA4
                have p0 : X4.drew.cell? ⟨hb, 10, none⟩ = some (.string eS) := cell_of hB0 10 _ rfl
                have p0f : X4.drew.frozen? ⟨hb, 10, none⟩ = false := frz_of hB0 10
                obtain ⟨Y1', hY1⟩ : ∃ X, X4.drew.setCell ⟨hb, 10, none⟩ (.string T2) = X := ⟨_, rfl⟩
                have hB1 : HcH hb (hQ 2 m0 m1 m2 m3 m4 m5 m6 T0 eS (tyOf b) T1 T2 eS) Y1' := by rw [← hY1]; exact hc_set hB0 10 _ rfl
                have p1 : Y1'.cell? ⟨hb, 11, none⟩ = some (.string eS) := cell_of hB1 11 _ rfl
                have p1f : Y1'.frozen? ⟨hb, 11, none⟩ = false := frz_of hB1 11
                obtain ⟨Y2', hY2⟩ : ∃ X, Y1'.setCell ⟨hb, 11, none⟩ (.string T3) = X := ⟨_, rfl⟩
                have hB2 : HcH hb (hQ 2 m0 m1 m2 m3 m4 m5 m6 T0 eS (tyOf b) T1 T2 T3) Y2' := by rw [← hY2]; exact hc_set hB1 11 _ rfl
                have hH1 : Fr (fun k => k = hb) V7.drew Y1' := by rw [← hY1]; exact hG4.drew.setCell ⟨hb, 10, none⟩ _ (.inl rfl)
                have hH2 : Fr (fun k => k = hb) V7.drew Y2' := by rw [← hY2]; exact hH1.setCell ⟨hb, 11, none⟩ _ (.inl rfl)
                have p2 : Y2'.cell? ⟨hb, 0, none⟩ = some (.int .i64 ((2 : Nat) : Int)) := cell_of hB2 0 _ rfl
                obtain ⟨T4, hT4⟩ : ∃ T, str (txt (fd b 345 155)) = T := ⟨_, rfl⟩
                have HT4 : Hid (Calls Tryz.prog 23 #[.slice (some ⟨rb, 345, none⟩) 155 167] Y2' fun e w' => e = .returned (.string T4) ∧ w' = Y2') := by rw [← hT4]; exact HTX.out Y2' 345 155 hH2 (by decide)
                have p3 : Y2'.cell? ⟨hb, 2, none⟩ = some (.string eS) := cell_of hB2 2 _ rfl
                have p3f : Y2'.frozen? ⟨hb, 2, none⟩ = false := frz_of hB2 2
                obtain ⟨Y3', hY3⟩ : ∃ X, Y2'.setCell ⟨hb, 2, none⟩ (.string T4) = X := ⟨_, rfl⟩
                have hB3 : HcH hb (hQ 2 m0 m1 m2 m3 m4 m5 m6 T0 T4 (tyOf b) T1 T2 T3) Y3' := by rw [← hY3]; exact hc_set hB2 2 _ rfl
                have hH3 : Fr (fun k => k = hb) V7.drew Y3' := by rw [← hY3]; exact hH2.setCell ⟨hb, 2, none⟩ _ (.inl rfl)
                obtain ⟨W5, e5, y1, y3, HE⟩ := HFIN.out Y3' _ hH3 hB3 (by rw [dH_q2, HMM.out.1, HMM.out.2.1, HMM.out.2.2.1, HMM.out.2.2.2.1, HMM.out.2.2.2.2.1, HMM.out.2.2.2.2.2.1, HMM.out.2.2.2.2.2.2, hT0, hT1, hT2, hT3, hT4])
                clear HFIN HTX hA4 hG4 hB0 hB1 hB2 hB3 hH1 hH2 hH3
                go_upto_region 27 with fail
                go_region_held3 (fun w' => True)
                  (first | trivial)
                  (first
                    | (go_at_call 23; with_reducible refine HT2.out.mono ?_; rintro e w8 ⟨rfl, rfl⟩)
                    | (go_at_call 23; with_reducible refine HT3.out.mono ?_; rintro e w9 ⟨rfl, rfl⟩))
                go_upto_region 30 with (first | (go_at_call 23; with_reducible refine HT4.out.mono ?_; rintro e w9 ⟨rfl, rfl⟩))
                have Y1 := tHid y1
                have Y3 := tHid y3
                clear y1 y3
                go_wp2_with (first
                  | (refine wpList_load_row rfl 24 _ rfl hb (by first | rfl | simp [Act.eval]) 24 _ (0, 0) _ Y1.out Tryz.underlying24 rfl (HSZ.out _) ?_)
                  | (refine wpList_store_row rfl 24 _ _ rfl qb (hQ 2 m0 m1 m2 m3 m4 m5 m6 T0 T4 (tyOf b) T1 T2 T3).C (by first | rfl | simp [Act.eval]) (by first | rfl | simp [Act.eval]) 24 _ Y3.out (HSZ.out _) rfl (HON.out _) ?_; rw [e5]))
                (try simp only [Exit.inBlock, Exit.then])
                exact HE.out _ rfl rfl rfl

              case inr.inr =>
                obtain ⟨T2, hT2⟩ : ∃ T, str (txt (fd b 265 32)) = T := ⟨_, rfl⟩
                obtain ⟨T3, hT3⟩ : ∃ T, str (txt (fd b 297 32)) = T := ⟨_, rfl⟩
                have HT2 : Hid (Calls Tryz.prog 23 #[.slice (some ⟨rb, 265, none⟩) 32 247] X4.drew fun e w' => e = .returned (.string T2) ∧ w' = X4.drew) := by rw [← hT2]; exact HTX.out X4.drew 265 32 hG4.drew (by decide)
                have HT3 : Hid (Calls Tryz.prog 23 #[.slice (some ⟨rb, 297, none⟩) 32 215] X4.drew fun e w' => e = .returned (.string T3) ∧ w' = X4.drew) := by rw [← hT3]; exact HTX.out X4.drew 297 32 hG4.drew (by decide)
                have hB0 : HcH hb (hQ 3 m0 m1 m2 m3 m4 m5 m6 T0 eS (tyOf b) T1 eS eS) X4.drew := hA4
                have p0 : X4.drew.cell? ⟨hb, 10, none⟩ = some (.string eS) := cell_of hB0 10 _ rfl
                have p0f : X4.drew.frozen? ⟨hb, 10, none⟩ = false := frz_of hB0 10
                obtain ⟨Y1', hY1⟩ : ∃ X, X4.drew.setCell ⟨hb, 10, none⟩ (.string T2) = X := ⟨_, rfl⟩
                have hB1 : HcH hb (hQ 3 m0 m1 m2 m3 m4 m5 m6 T0 eS (tyOf b) T1 T2 eS) Y1' := by rw [← hY1]; exact hc_set hB0 10 _ rfl
                have p1 : Y1'.cell? ⟨hb, 11, none⟩ = some (.string eS) := cell_of hB1 11 _ rfl
                have p1f : Y1'.frozen? ⟨hb, 11, none⟩ = false := frz_of hB1 11
                obtain ⟨Y2', hY2⟩ : ∃ X, Y1'.setCell ⟨hb, 11, none⟩ (.string T3) = X := ⟨_, rfl⟩
                have hB2 : HcH hb (hQ 3 m0 m1 m2 m3 m4 m5 m6 T0 eS (tyOf b) T1 T2 T3) Y2' := by rw [← hY2]; exact hc_set hB1 11 _ rfl
                have hH1 : Fr (fun k => k = hb) V7.drew Y1' := by rw [← hY1]; exact hG4.drew.setCell ⟨hb, 10, none⟩ _ (.inl rfl)
                have hH2 : Fr (fun k => k = hb) V7.drew Y2' := by rw [← hY2]; exact hH1.setCell ⟨hb, 11, none⟩ _ (.inl rfl)
                have p2 : Y2'.cell? ⟨hb, 0, none⟩ = some (.int .i64 ((3 : Nat) : Int)) := cell_of hB2 0 _ rfl
                obtain ⟨W5, e5, y1, y3, HE⟩ := HFIN.out Y2' _ hH2 hB2 (by rw [dH_q3, HMM.out.1, HMM.out.2.1, HMM.out.2.2.1, HMM.out.2.2.2.1, HMM.out.2.2.2.2.1, HMM.out.2.2.2.2.2.1, HMM.out.2.2.2.2.2.2, hT0, hT1, hT2, hT3])
                clear HFIN HTX hA4 hG4 hB0 hB1 hB2 hH1 hH2
                go_upto_region 27 with fail
                go_region_held3 (fun w' => True)
                  (first | trivial)
                  (first
                    | (go_at_call 23; with_reducible refine HT2.out.mono ?_; rintro e w8 ⟨rfl, rfl⟩)
                    | (go_at_call 23; with_reducible refine HT3.out.mono ?_; rintro e w9 ⟨rfl, rfl⟩))
                have Y1 := tHid y1
                have Y3 := tHid y3
                clear y1 y3
                go_wp2_with (first
                  | (refine wpList_load_row rfl 24 _ rfl hb (by first | rfl | simp [Act.eval]) 24 _ (0, 0) _ Y1.out Tryz.underlying24 rfl (HSZ.out _) ?_)
                  | (refine wpList_store_row rfl 24 _ _ rfl qb (hQ 3 m0 m1 m2 m3 m4 m5 m6 T0 eS (tyOf b) T1 T2 T3).C (by first | rfl | simp [Act.eval]) (by first | rfl | simp [Act.eval]) 24 _ Y3.out (HSZ.out _) rfl (HON.out _) ?_; rw [e5]))
                (try simp only [Exit.inBlock, Exit.then])
                exact HE.out _ rfl rfl rfl

end Go.Proofs.YtoegbaenheeogaaGreatDoor

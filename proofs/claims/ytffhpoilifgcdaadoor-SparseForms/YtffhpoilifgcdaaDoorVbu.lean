import Derived.Test.YtffhpoilifgcdaaDoorVbq
import Derived.Test.YtffhpoilifgcdaaDoorVbt
namespace Go.Proofs.YtffhpoilifgcdaaDoor
open Go.RowKit
set_option linter.unusedVariables false
/-! ### SparseForms -/
theorem copy7 (V : World) (v : Value) (x : List By) (hx : Sl (fun _ => False) v x V) (hn : x.length ≤ 140737488355328) : ∃ v1 W1 a2 c2 W2, Hid (∀ ty, (Builtin.append_ #[23, 23] ty #[.slice (some ⟨V.heap.size, 0, none⟩) 0 0, v]).run Tryd.prog (V.alloc (.cells #[] 5)) = .ok v1 W1) ∧ Hid (∀ ty, (Builtin.append_ #[23, 23] ty #[v1, .slice (some ⟨W1.heap.size, 0, none⟩) 1 1]).run Tryd.prog (W1.alloc (.cells #[.int .u8 7] 5)) = .ok (.slice a2 (x.length + 1) c2) W2) ∧ Nw V W2 ∧ Old W2 (.slice a2 (x.length + 1) c2) (x ++ [7#8]) := by
  have hN0 : Nw V (V.alloc (.cells #[] 5)) := (Fr.refl _ _).alloc _
  obtain ⟨v1, g1, W1, a1, o1, f1, d1⟩ := app_any _ _ _ [] (Ow.empty V) v x (hx.nw hN0) (by simp; omega)
  have hs0 : (V.alloc (.cells #[] 5)).heap.size = V.heap.size + 1 := by simp
  have hN1 : Nw V W1 := hN0.then f1 (fun i hi => .inr (by omega))
  have hg1 : V.heap.size ≤ g1 := by rcases d1 with e | e <;> omega
  rw [List.nil_append] at o1
  have hNa : Nw W1 (W1.alloc (.cells #[.int .u8 7] 5)) := (Fr.refl _ _).alloc _
  have hs1 : (W1.alloc (.cells #[.int .u8 7] 5)).heap.size = W1.heap.size + 1 := by simp
  have h7 : Sl (fun _ => False) (.slice (some ⟨W1.heap.size, 0, none⟩) 1 1) [7#8] (W1.alloc (.cells #[.int .u8 7] 5)) := by
    refine .inr ⟨W1.heap.size, fun h => h, 0, 1, rfl, by decide, by decide, fun j hj => ?_⟩
    have hh := nHeap W1 (.cells #[.int .u8 7] 5)
    have hj0 : j = 0 := by simp at hj; exact hj
    subst hj0
    unfold World.cell?
    rw [hh]
    rfl
  obtain ⟨v2, g2, W2, a2, o2, f2, d2⟩ := app_any _ g1 v1 x (o1.kept hNa (fun h => h)) _ [7#8] h7 (by simp; omega)
  have hN2 : Nw V W2 := (hN1.trans hNa).then f2 (fun i hi => .inr (by omega))
  obtain ⟨xs, e, h3, h4, h5, h6⟩ := id o2
  rw [List.length_append, List.length_singleton] at e
  subst e
  refine ⟨v1, W1, _, _, W2, a1, a2, hN2, ?_⟩
  exact .inr ⟨g2, (by have := o2.lt; omega), o2.slb⟩
theorem furs_get (n : Nat) (l : List Rg) (i : Nat) : (furs n l)[i]? = if l.drop (i * 21) ≠ [] ∧ i < n then some (mk512 (furR (l.drop (i * 21)))) else none := by
  induction n generalizing l i with
  | zero => simp [furs]
  | succ n ih =>
    rw [furs]
    by_cases hl : l = []
    · rw [if_pos hl, hl]; simp
    · rw [if_neg hl]
      cases i with
      | zero => simp [hl]
      | succ i =>
        rw [List.getElem?_cons_succ, ih, List.drop_drop, show 21 + i * 21 = (i + 1) * 21 by omega]
        simp only [Nat.add_lt_add_iff_right]
theorem furs_lt (l : List Rg) (i : Nat) : i < (furs l.length l).length ↔ i * 21 < l.length := by
  have h := furs_get l.length l i
  constructor
  · intro hi
    rw [List.getElem?_eq_getElem hi] at h
    split at h
    · rename_i hc
      rcases Nat.lt_or_ge (i * 21) l.length with h1 | h1
      · exact h1
      · exact absurd (List.drop_eq_nil_of_le h1) hc.1
    · cases h
  · intro hi
    rw [if_pos ⟨fun e => by have := congrArg List.length e; rw [List.length_drop, List.length_nil] at this; omega, by omega⟩] at h
    exact (List.getElem?_eq_some_iff.1 h).1
theorem one494 : (fstR zrec [] 0)[494]? = some 0#8 := by
  have hl : (pto zrec 386 (tabI 4 [] (min ([] : List Rg).length 4))).length = 512 := by
    rw [pto_len _ _ _ (by rw [tabI_len 4 [] (fun x hx => by cases hx) _ (by omega) (by omega), zrec_length]; decide)]
    exact zrec_length
  have ln := (pn12 0 (by omega) (by omega)).2.1
  unfold fstR
  rw [pto_at _ _ _ (by rw [hl, ln]; decide), if_pos (by rw [ln]; decide)]
  decide +kernel
theorem mine_sl {K : Nat → Prop} {v : Value} {x : List By} {V : World} (h : Mine K v x V) : Sl (fun _ => False) v x V := by
  rcases h with ⟨rfl, rfl⟩ | ⟨g, h1, h2⟩
  · exact .inl ⟨none, rfl, rfl⟩
  · exact .inr ⟨g, fun h => h, h2.slb⟩
theorem copyB1 (V : World) (v : Value) (x : List By) (hx : Sl (fun _ => False) v x V) (hn : x.length ≤ 140737488355328) : ∃ a2 c2 W2, Hid (∀ ty, (Builtin.append_ #[23, 23] ty #[.slice (some ⟨V.heap.size, 0, none⟩) 0 0, v]).run Tryd.prog (V.alloc (.cells #[] 5)) = .ok (.slice a2 x.length c2) W2) ∧ Nw V W2 ∧ Old W2 (.slice a2 x.length c2) x := by
  have hN0 : Nw V (V.alloc (.cells #[] 5)) := (Fr.refl _ _).alloc _
  obtain ⟨v1, g1, W1, a1, o1, f1, d1⟩ := app_any _ _ _ [] (Ow.empty V) v x (hx.nw hN0) (by simp; omega)
  have hs0 : (V.alloc (.cells #[] 5)).heap.size = V.heap.size + 1 := by simp
  have hN1 : Nw V W1 := hN0.then f1 (fun i hi => .inr (by omega))
  rw [List.nil_append] at o1
  obtain ⟨xs, e, h3, h4, h5, h6⟩ := id o1
  subst e
  exact ⟨_, _, W1, a1, hN1, .inr ⟨g1, (by have := o1.lt; omega), o1.slb⟩⟩
set_option maxHeartbeats 16000000 in
set_option maxRecDepth 100000 in
theorem forms_walk (w : World) (hEv : Ev15 w) (a2 : Option Addr) (n2 c2 : Nat) (l : List Rg) (hl : SlR RG (fun k => w.heap.size ≤ k) (.slice a2 n2 c2) l w) (hn2 : n2 ≤ 8796093022208) (z : Int) (hz : z ≤ 9223372036854775807) (a : Option Addr) (n c : Nat) (b : List By) (hb : Old w (.slice a n c) b) (hn : n ≤ 140737488351232) :
    Calls Tryd.prog 5 #[.slice a2 n2 c2, .int .i64 z, .slice a n c] w fun e w' => e = .returned (.bool true) ∧ Nw w w' := by
  obtain ⟨P, hP⟩ : ∃ P : Ending → World → Prop, P = fun e w' => e = .returned (.bool true) ∧ Nw w w' := ⟨_, rfl⟩
  rw [← hP]
  have HF : Hid (∀ V, Nw w V → P (.returned (.bool true)) V) := fun V hV => by rw [hP]; exact ⟨rfl, hV⟩
  clear hP
  obtain ⟨hbn, k1, k2⟩ := slx_len hb
  obtain ⟨hln, k3, k4⟩ := slg_len hl
  subst hbn hln
  have HB : Hid (∀ V, Nw w V → Sl (fun _ => False) (.slice a b.length c) b V) := fun V hV => (hb.nw hV).mono (fun _ h => h.elim)
  have HL : Hid (∀ V, Nw w V → SlR RG (fun _ => False) (.slice a2 l.length c2) l V) := fun V hV => (hl.nw hV).mono (fun _ h => h.elim)
  have HEV := tHid hEv
  have HRG : Hid (∀ V va (m : List Rg), m = l → Nw w V → SlR RG (fun _ => False) va m V → Calls Tryd.prog 12 #[va, .slice a2 l.length c2] V fun e w' => e = .returned (.bool true) ∧ Hid (Nw V w')) := fun V va m hm hV h => by
    have := ranges_any V va (.slice a2 l.length c2) m l h (HL.out V hV)
    rw [decide_eq_true hm] at this
    exact this
  clear hb hl hEv
  obtain ⟨gm, cm, W1, HA1, om, nm, hgm⟩ := copyG1 w (.slice a2 l.length c2) l (HL.out w (Fr.refl _ _)) (by omega)
  have HN1 := tHid nm
  obtain ⟨E1, hE1⟩ : ∃ E1 : Int, (if vld l 9223372036854775807 then (0 : Int) else 1) = E1 := ⟨_, rfl⟩
  have HPu : Hid (Calls Tryd.prog 6 #[.slice (some ⟨gm, 0, none⟩) l.length cm] W1 fun e V' => ∃ a k c, e = .returned (.tuple #[.slice a k c, .int .i64 E1]) ∧ Hid (Nw W1 V' ∧ NewB W1 (.slice a k c) (ptX l) V' ∧ k = (ptX l).length)) := by
    have := put_any W1 (HEV.out.nw nm) _ _ _ l (om.slr rgOk)
    unfold PtA at this
    rw [hE1] at this
    refine this.mono ?_
    rintro e V' ⟨a', k', c', e1, h1⟩
    obtain ⟨q1, _, _⟩ := Mine.len h1.out.2
    exact ⟨a', k', c', e1, h1.out.1, h1.out.2, q1⟩
  clear om nm hgm
  have HXL := tHid (ptX_len l)
  go_enter Tryd.func5, Tryd.ntmps5
  go_upto_if 39 with (first
    | (at_builtin; refine Lib.wpList_append_run _ rfl _ _ 22 22 rfl (.slice (some ⟨w.heap.size, 0, none⟩) 0 0) (.slice a2 l.length c2) (by first | rfl | simp [Act.eval]) (by first | rfl | simp [Act.eval]) _ _ (HA1.out _) ?_)
    | (go_at_call 6; with_reducible refine HPu.out.mono ?_; rintro e w2 ⟨ax, kx, cx, rfl, H2⟩))
  have HN2 := tHid (HN1.out.trans H2.out.1)
  clear HPu HA1
  go_cut [9, 10, 11, 39] from 40 to 63 (fun x y u v wx => Hid (Nw w wx))
  case first =>
    by_cases hv : vld l 9223372036854775807 = true
    · rw [if_pos hv] at hE1
      subst hE1
      obtain ⟨m, hm, hch, hml⟩ := vld_m hv
      have hpt : ptX l = ptT m := by unfold ptX; rw [if_pos hv, hm, natL_rgL]
      have hxs : Sl (fun _ => False) (.slice ax kx cx) (ptX l) w2 := mine_sl H2.out.2.1
      have hkx := H2.out.2.2
      obtain ⟨v1, V1, a5, c5, V2, HA5, HA6, hN5, hO5⟩ := copy7 w2 _ (ptX l) hxs (by have := HXL.out; omega)
      have hrd : rdT (ptX l ++ [7#8]) = (m, (ptX l).length, 0) := by rw [hpt]; exact rdT_ptT m [7#8] hml hch
      have HRd := read_any15 V2 _ _ _ _ hO5 (by have := HXL.out; omega)
      unfold RdA at HRd
      rw [hrd] at HRd
      simp only at HRd
      have HRd := tHid HRd
      have HN5 := tHid (HN2.out.trans hN5)
      have HM := tHid hm.symm
      rw [← hkx] at HRd HA6
      clear hxs hO5 hrd hpt hN5 hm hch H2 hv hkx
      have q1 : (0 : Int) ≤ (kx : Int) := by omega
      go_wp2_with (first
        | (at_builtin; refine Lib.wpList_append_run _ rfl _ _ 23 23 rfl (.slice (some ⟨w2.heap.size, 0, none⟩) 0 0) (.slice ax kx cx) (by first | rfl | simp [Act.eval]) (by first | rfl | simp [Act.eval]) _ _ (HA5.out _) ?_)
        | (at_builtin; refine Lib.wpList_append_run _ rfl _ _ 23 23 rfl v1 (.slice (some ⟨V1.heap.size, 0, none⟩) 1 1) (by first | rfl | simp [Act.eval]) (by first | rfl | simp [Act.eval]) _ _ (HA6.out _) ?_)
        | (go_at_call 9; with_reducible refine HRd.out.mono ?_; rintro e w6 ⟨a6, n6, c6, rfl, H6⟩; have HN6 := tHid (HN5.out.trans H6.out.1))
        | (go_at_call 12; with_reducible refine (HRG.out _ _ _ HM.out HN6.out H6.out.2.slr).mono ?_; rintro e w7 ⟨rfl, H7⟩))
      have HN7 := tHid (HN6.out.trans H7.out)
      go_meet
      exact HN7
    · rw [if_neg hv] at hE1
      subst hE1
      clear hv
      go_wp2_with fail
      go_meet
      exact HN2
  case rest =>
  have HNA : Hid (Nw w wc) := hcut
  clear hcut HN2 H2 HXL HN1
  obtain ⟨wA, hwA⟩ : ∃ z, z = wc := ⟨_, rfl⟩
  subst hwA
  obtain ⟨aB, cB, WB, HAB, nB, oB⟩ := copyB1 wA _ b (HB.out wA HNA.out) (by omega)
  have HRb := read_any15 WB _ _ _ _ oB (by omega)
  unfold RdA at HRb
  have hinv := rdT_inv b
  generalize rdT b = RT at *
  obtain ⟨mB, qB, eB⟩ := RT
  simp only at HRb
  have HRB := tHid HRb
  have HNB := tHid (HNA.out.trans nB)
  clear oB nB HRb
  go_upto_if 73 with (first
    | (at_builtin; refine Lib.wpList_append_run _ rfl _ _ 23 23 rfl (.slice (some ⟨wA.heap.size, 0, none⟩) 0 0) (.slice a b.length c) (by first | rfl | simp [Act.eval]) (by first | rfl | simp [Act.eval]) _ _ (HAB.out _) ?_)
    | (go_at_call 9; with_reducible refine HRB.out.mono ?_; rintro e w3 ⟨a3, n3, c3, rfl, H3⟩))
  have HN3 := tHid (HNB.out.trans H3.out.1)
  clear HAB HRB HNB HNA
  go_cut [15, 16, 73] from 74 to 94 (fun x y u wx => Hid (Nw w wx))
  case first =>
    by_cases he : eB = 0
    · subst he
      obtain ⟨i1, i2, i3, i4⟩ := hinv mB qB rfl
      have hvl : vld (rgL mB) 9223372036854775807 = true := by
        unfold vld
        rw [Bool.and_eq_true, Bool.and_eq_true, decide_eq_true_iff, decide_eq_true_iff]
        exact ⟨by omega, by rw [rgL_len]; exact i1, (chn_vlE 0 mB).1 i2⟩
      have hpx : ptX (rgL mB) = b.take qB := by unfold ptX; rw [if_pos hvl, natL_rgL, i4]
      have hg3 := H3.out.2.slr
      have HPu := put_any w3 (HEV.out.nw HN3.out) _ _ _ (rgL mB) hg3
      unfold PtA at HPu
      rw [if_pos hvl, hpx] at HPu
      have HPu := tHid HPu
      have HSM : Hid (∀ V v, Mine (fun k => k < w3.heap.size) v (b.take qB) V → Nw w3 V → Calls Tryd.prog 11 #[v, .slice a qB c] V fun e w' => e = .returned (.bool true) ∧ Hid (Nw V w')) := fun V v h1 h2 => by
        have hb2 := HB.out V (HN3.out.trans h2)
        have hbt : Sl (fun _ => False) (.slice a qB c) (b.take qB) V := by
          rcases hb2 with ⟨a', e, hn⟩ | ⟨g', hg', o', c', e, q1, q2, q3⟩
          · injection e with e1 e2 e3
            subst e1 e3
            rw [hn] at i3 ⊢
            have : qB = 0 := by simpa using i3
            subst this
            exact .inl ⟨_, rfl, rfl⟩
          · injection e with e1 e2 e3
            subst e1 e3
            have hlt : (b.take qB).length = qB := by rw [List.length_take]; omega
            exact .inr ⟨g', fun h => h, o', c, by rw [hlt], by omega, by omega, q3.take qB⟩
        have := same_any V v (.slice a qB c) (b.take qB) (b.take qB) (mine_sl h1) hbt
        rw [decide_eq_true rfl] at this
        exact this (by rw [List.length_take]; omega) (by rw [List.length_take]; omega)
      have hqi : (qB : Int) ≤ (b.length : Int) := by omega
      have hqc : (qB : Int) ≤ (c : Int) := by omega
      have hqn : ¬ (b.length : Int) < (qB : Int) := by omega
      clear hinv i1 i2 i4 hvl hpx hg3
      go_wp2_with (first
        | (go_at_call 6; with_reducible refine HPu.out.mono ?_; rintro e w4 ⟨a4, n4, c4, rfl, H4⟩)
        | (go_at_call 11; with_reducible refine (HSM.out _ _ H4.out.2 H4.out.1).mono ?_; rintro e w5 ⟨rfl, H5⟩))
      have HN5 := tHid (HN3.out.trans (H4.out.1.trans H5.out))
      go_meet
      exact HN5
    · have hei : ¬ ((eB : Int) = 0) := by omega
      go_wp2_with fail
      go_meet
      exact HN3
  case rest =>
  have HNC : Hid (Nw w wc) := hcut
  clear hcut HN3 H3 hinv
  obtain ⟨wD, hwD⟩ : ∃ z, z = wc := ⟨_, rfl⟩
  subst hwD
  obtain ⟨gC, cC, WC, HAC, oC, nC, hgC⟩ := copyG1 wD (.slice a2 l.length c2) l (HL.out wD HNC.out) (by omega)
  have HPO : Hid (Calls Tryd.prog 16 #[.agg Tryd.zeroCells36, .slice (some ⟨gC, 0, none⟩) l.length cC, .int .i64 z] WC (PoA WC zrec l z)) := by
    have hlt := oC.lt
    have := putOld_any WC zrec zrec_length l z hz _ _ _ ((oC.slr rgOk).mono (fun k hk => by omega))
    rw [← zrec_rc] at this
    exact this
  have HPZ : Hid (∀ V, Calls Tryd.prog 16 #[.agg Tryd.zeroCells36, .slice none 0 0, .int .i64 0] V (PoA V zrec [] 0)) := fun V => by
    have := putOld_any V zrec zrec_length [] 0 (by omega) none 0 0 (.inl ⟨none, rfl, rfl⟩)
    rw [← zrec_rc] at this
    exact this
  have HND := tHid (HNC.out.trans nC)
  have HZC : Hid ((Tryd.zeroCells36 : Array Value) = rc zrec) := zrec_rc
  have HI : Hid (∀ x : List By, x.length = 512 → (Tryd.prog.info? 36).map (·.size) = some (rc x).size ∧ (Tryd.zeroCells36 : Array Value).size = (rc x).size ∧ (rc x).all (·.oneCell') = true) := fun x hx => ⟨rc_info x hx, by rw [HZC.out, rc_size, rc_size, zrec_length, hx], rc_one x⟩
  have HST : Hid (∀ (V : World) (x : List By), ∃ W, (V.alloc (.cells Tryd.zeroCells36 36)).setRow V.heap.size (rc x) = W ∧ (V.alloc (.cells Tryd.zeroCells36 36)).heap[V.heap.size]? = some (.cells Tryd.zeroCells36 36) ∧ Hid (Nw V W ∧ W.heap[V.heap.size]? = some (.cells (rc x) 36))) := fun V x => by
    have h0 := nHeap V (.cells Tryd.zeroCells36 36)
    exact ⟨_, rfl, h0, ((Fr.refl _ _).alloc _).setRow _ _ (.inr (Nat.le_refl _)), setRow_heap _ _ _ _ 36 _ h0⟩
  clear nC hgC oC
  cases hv : vld l z with
  | false =>
    have HPO1 : Hid (Calls Tryd.prog 16 #[.agg Tryd.zeroCells36, .slice (some ⟨gC, 0, none⟩) l.length cC, .int .i64 z] WC fun e V => e = .returned (.tuple #[.agg (rc zrec), .slice none 0 0, .int .i64 1]) ∧ Hid (Nw WC V)) := HPO.out.mono (fun e V h => by
      rcases h with ⟨_, h2, h3⟩ | ⟨h1, _⟩
      · exact ⟨h2, h3⟩
      · rw [hv] at h1; cases h1)
    have HPZ1 : Hid (∀ V, Calls Tryd.prog 16 #[.agg Tryd.zeroCells36, .slice none 0 0, .int .i64 0] V fun e W => ∃ a n c, e = .returned (.tuple #[.agg (rc (fstR zrec [] 0)), .slice a n c, .int .i64 0]) ∧ Hid (Nw V W)) := fun V => (HPZ.out V).mono (fun e W h => by
      rcases h with ⟨h1, _⟩ | ⟨_, a', n', c', h2, h3⟩
      · exact absurd h1 (by decide)
      · exact ⟨a', n', c', h2, h3.out.1⟩)
    have hF1 := fstR_len zrec zrec_length [] (fun x hx => by cases hx) 0 (by omega) (by omega)
    clear hv HPO HPZ
    have HI1 := tHid (HI.out zrec zrec_length)
    have HI2 := tHid (HI.out (fstR zrec [] 0) hF1)
    have h494 := one494
    go_upto_region 12 with (first
      | (at_builtin; refine Lib.wpList_append_run _ rfl _ _ 22 22 rfl (.slice (some ⟨wD.heap.size, 0, none⟩) 0 0) (.slice a2 l.length c2) (by first | rfl | simp [Act.eval]) (by first | rfl | simp [Act.eval]) _ _ (HAC.out _) ?_)
      | (go_at_call 16; with_reducible refine HPO1.out.mono ?_; rintro e w4 ⟨rfl, H4⟩; obtain ⟨W5, e5, h5, H5⟩ := HST.out w4 zrec; have HR5 := tHid h5)
      | (refine wpList_store_row rfl 36 _ _ rfl w4.heap.size (rc zrec) (by first | rfl | simp [Act.eval]) (by first | rfl | simp [Act.eval]) 36 _ HR5.out HI1.out.1 HI1.out.2.1 HI1.out.2.2 ?_; rw [e5]))
    have HN5 := tHid (HND.out.trans (H4.out.trans H5.out.1))
    clear HAC HPO1 H4 H5 HR5 e5 h5 HND
    go_upto_region 14 with (first
      | (go_at_call 16; with_reducible refine (HPZ1.out _).mono ?_; rintro e w6 ⟨a6, n6, c6, rfl, H6⟩; obtain ⟨W7, e7, h7, H7⟩ := HST.out w6 (fstR zrec [] 0); have HR7 := tHid h7)
      | (refine wpList_store_row rfl 36 _ _ rfl w6.heap.size (rc (fstR zrec [] 0)) (by first | rfl | simp [Act.eval]) (by first | rfl | simp [Act.eval]) 36 _ HR7.out HI2.out.1 HI2.out.2.1 HI2.out.2.2 ?_; rw [e7]))
    have c7 : W7.cell? ⟨w6.heap.size, 494, none⟩ = some (.int .u8 0) := by
      have := RcO.at (R := fstR zrec [] 0) H7.out.2 494 (by omega)
      rw [this]
      obtain ⟨h1, h2⟩ := List.getElem?_eq_some_iff.1 h494
      rw [h2]
      rfl
    have HE := tHid (HF.out _ (HN5.out.trans (H6.out.trans H7.out.1)))
    clear HPZ1 HR7 e7 h7 H7 H6
    go_wp2_with fail
    first | exact HE.out | (go_ret; exact HE.out)
  | true =>
    obtain ⟨hz0, hln, hok⟩ := vld_ok hv hz
    obtain ⟨r1, r2, r3⟩ := fst_read zrec zrec_length l hok z hz0 hz
    have hFL := fstR_len zrec zrec_length l hok z hz0 hz
    obtain ⟨F, hF⟩ : ∃ F, fstR zrec l z = F := ⟨_, rfl⟩
    rw [hF] at r1 r2 r3 hFL
    obtain ⟨L4, hL4⟩ : ∃ L4, l.drop 4 = L4 := ⟨_, rfl⟩
    obtain ⟨FS, hFS⟩ : ∃ FS, furs L4.length L4 = FS := ⟨_, rfl⟩
    have hroE : roE F = 0 := by
      unfold roE
      rw [r1, if_neg (by simp), r2]
    have HPO1 : Hid (Calls Tryd.prog 16 #[.agg Tryd.zeroCells36, .slice (some ⟨gC, 0, none⟩) l.length cC, .int .i64 z] WC fun e V => ∃ a c, e = .returned (.tuple #[.agg (rc F), .slice a FS.length c, .int .i64 0]) ∧ Hid (Nw WC V ∧ SlR RR (fun _ => False) (.slice a FS.length c) FS V)) := HPO.out.mono (fun e V h => by
      rcases h with ⟨h1, _⟩ | ⟨_, a', n', c', h2, h3⟩
      · rw [hv] at h1; cases h1
      · obtain ⟨h4, og, h5, h6⟩ := h3.out
        rw [hL4, hFS] at h5
        obtain ⟨a9, c9, e9, _, _⟩ := h5.form
        injection e9 with e1 e2 e3
        subst e1 e2 e3
        rw [hF] at h2
        exact ⟨_, _, h2, h4, (h5.slr rrOk).mono (fun _ h => h.elim)⟩)
    have HRO : Hid (∀ V, Calls Tryd.prog 19 #[.agg (rc F)] V fun e W => ∃ a m c, e = .returned (.tuple #[.slice a m c, .int .i64 z, .bool (decide (4 < l.length)), .int .i64 0]) ∧ Hid (Nw V W ∧ NewG V (.slice a m c) (l.take 4) W)) := fun V => (readOld_any V F hFL).mono (fun e W h => by
      obtain ⟨a', m', c', B, N, h1, h2⟩ := h
      rw [hroE] at h1 h2
      obtain ⟨h3, h4, h5⟩ := h2.out.2.1 rfl
      rw [r1] at h3
      rw [r2] at h5
      rw [r3, flg_ne] at h4
      simp only at h3 h5
      rw [nt_rg _ (take_ok hok 4)] at h3
      have : N = z := by rw [h5]; omega
      subst this h4
      exact ⟨a', m', c', h1, h2.out.1, h3⟩)
    have hbig : decide (4 < l.length) = decide (0 < FS.length) := by
      have : 0 < FS.length ↔ 4 < l.length := by
        rw [← hFS, furs_lt, ← hL4, List.length_drop]
        omega
      exact decide_eq_decide.2 this.symm
    obtain ⟨B6, hB6⟩ : ∃ B6, decide (0 < FS.length) = B6 := ⟨_, rfl⟩
    rw [hbig, hB6] at HRO
    have HI1 := tHid (HI.out F hFL)
    have hFSl : FS.length ≤ 65536 := by rw [← hFS]; have := furs_len L4.length L4; have : L4.length ≤ l.length := by rw [← hL4, List.length_drop]; omega
                                        omega
    have HHF := tHid hF
    clear HPO HPZ r1 r2 r3 hroE hbig hv hF
    go_upto_region 15 with (first
      | (at_builtin; refine Lib.wpList_append_run _ rfl _ _ 22 22 rfl (.slice (some ⟨wD.heap.size, 0, none⟩) 0 0) (.slice a2 l.length c2) (by first | rfl | simp [Act.eval]) (by first | rfl | simp [Act.eval]) _ _ (HAC.out _) ?_)
      | (go_at_call 16; with_reducible refine HPO1.out.mono ?_; rintro e w4 ⟨aP, cP, rfl, H4⟩; obtain ⟨W5, e5, h5, H5⟩ := HST.out w4 F; have HR5 := tHid h5)
      | (refine wpList_store_row rfl 36 _ _ rfl w4.heap.size (rc F) (by first | rfl | simp [Act.eval]) (by first | rfl | simp [Act.eval]) 36 _ HR5.out HI1.out.1 HI1.out.2.1 HI1.out.2.2 ?_; rw [e5]))
    have HN5 := tHid (HND.out.trans (H4.out.1.trans H5.out.1))
    have HS5 := tHid (H4.out.2.nw H5.out.1)
    have HR5 := tHid H5.out.2
    have HW5 := tHid (Fr.refl (fun _ => False) W5)
    clear HAC HPO1 H4 e5 h5 H5 HND HST
    obtain ⟨fk, hfk⟩ : ∃ fk, w4.heap.size = fk := ⟨_, rfl⟩
    rw [hfk] at HR5
    go_upto_region 16 with (first
      | (refine wpList_load_row rfl 36 _ rfl fk (by first | rfl | simp [Act.eval]) 36 _ (0, 0) _ HR5.out Tryd.underlying36 rfl HI1.out.1 ?_)
      | (go_at_call 19; with_reducible refine (HRO.out _).mono ?_; rintro e w6 ⟨a6, n6, c6, rfl, H6⟩))
    obtain ⟨og6, ho6, hf6⟩ := H6.out.2
    have HJ0 : Hid (OgR RG og6 (.slice a6 n6 c6) (l.take (4 + 0 * 21)) w6 ∧ (∀ g, og6 = some g → W5.heap.size ≤ g) ∧ Nw W5 w6) := ⟨ho6, hf6, H6.out.1⟩
    clear ho6 hf6 H6 HRO HR5
    have HGET : Hid (∀ I, (h : I < FS.length) → ∃ g o, aP = some ⟨g, o, none⟩ ∧ ∀ V, Nw W5 V → V.rangeAt g (o + I * 512) ((furR (L4.drop (I * 21))).map bv)) := fun I h => by
      have hI21 : I * 21 < L4.length := (furs_lt L4 I).1 (by rw [hFS]; exact h)
      have hg := furs_get L4.length L4 I
      rw [hFS, if_pos ⟨fun e => by have := congrArg List.length e; rw [List.length_drop, List.length_nil] at this; omega, by omega⟩] at hg
      obtain ⟨g, o, e, _, hc⟩ := HS5.out.at I _ hg
      refine ⟨g, o, e, fun V hV j v hj => ?_⟩
      have hokj : ∀ x ∈ L4.drop (I * 21), OkG x := fun x hx => hok x (List.mem_of_mem_drop (by rw [hL4]; exact List.mem_of_mem_drop hx))
      have := hc j v (by simp only [RR]; rw [mk512_val _ (furR_len _ hokj)]; exact hj)
      exact Nw.cell hV this
    have HRM : Hid (∀ V I, I < FS.length → Calls Tryd.prog 21 #[.agg (rc (furR (L4.drop (I * 21))))] V fun e W => ∃ a m c, e = .returned (.tuple #[.slice a m c, .bool (decide (I + 1 < FS.length)), .int .i64 0]) ∧ Hid (Nw V W ∧ SlR RG (fun _ => False) (.slice a m c) ((L4.drop (I * 21)).take 21) W)) := fun V I h => by
      have hokj : ∀ x ∈ L4.drop (I * 21), OkG x := fun x hx => hok x (List.mem_of_mem_drop (by rw [hL4]; exact List.mem_of_mem_drop hx))
      obtain ⟨q1, q2⟩ := fur_read _ hokj
      refine (readMore_any V _ (furR_len _ hokj)).mono ?_
      rintro e W ⟨a', m', c', B, h1, h2⟩
      rw [q1] at h1 h2
      obtain ⟨h3, h4⟩ := h2.out.2.1 rfl
      rw [q2, flg_ne] at h4
      simp only at h3
      rw [nt_rg _ (take_ok hokj 21)] at h3
      have : decide (21 < (L4.drop (I * 21)).length) = decide (I + 1 < FS.length) := by
        apply decide_eq_decide.2
        rw [← hFS, furs_lt, List.length_drop]
        omega
      rw [this] at h4
      subst h4
      exact ⟨a', m', c', h1, h2.out.1, h3.slr⟩
    have HINF : Hid (∀ I, I < FS.length → (Tryd.prog.info? 36).map (·.size) = some ((furR (L4.drop (I * 21))).map bv).length) := fun I h => by
      have hokj : ∀ x ∈ L4.drop (I * 21), OkG x := fun x hx => hok x (List.mem_of_mem_drop (by rw [hL4]; exact List.mem_of_mem_drop hx))
      have := (HI.out _ (furR_len _ hokj)).1
      rw [rc_size] at this
      rw [List.length_map]
      exact this
    have HCAT : Hid (∀ I, l.take (4 + I * 21) ++ (L4.drop (I * 21)).take 21 = l.take (4 + (I + 1) * 21)) := fun I => by
      rw [← hL4, List.drop_drop, show 4 + (I + 1) * 21 = (4 + I * 21) + 21 by omega]
      exact List.take_add.symm
    have HALL : Hid (l.take (4 + FS.length * 21) = l) := by
      have h1 : ¬ FS.length < (furs L4.length L4).length := by rw [hFS]; omega
      rw [furs_lt, ← hL4, List.length_drop] at h1
      have : l.take (4 + FS.length * 21) = l := List.take_of_length_le (by omega)
      exact this
    clear hFS hL4 hok
    go_wp2_with fail
    go_loopg [23, 27] FS.length (fun kx v i wr => ∃ (I : Nat) (og : Option Nat) (a9 : Option Addr) (n9 c9 : Nat), I ≤ FS.length ∧ FS.length - I ≤ kx ∧ i = .int .i64 (I : Int) ∧ v = .slice a9 n9 c9 ∧ Hid (OgR RG og (.slice a9 n9 c9) (l.take (4 + I * 21)) wr ∧ (∀ g, og = some g → W5.heap.size ≤ g) ∧ Nw W5 wr))
    case atStart => exact ⟨0, og6, a6, n6, c6, by omega, by omega, rfl, rfl, HJ0⟩
    case round =>
      obtain ⟨I, og, a9, n9, c9, hI, hkx, rfl, rfl, HJ⟩ := hrel
      by_cases hlt : I < FS.length
      · have hlti : (I : Int) < (FS.length : Int) := by omega
        obtain ⟨gP, oP, rfl, hrng⟩ := HGET.out I hlt
        have HRN := tHid (hrng wr HJ.out.2.2)
        have HRM1 := tHid (fun V => HRM.out V I hlt)
        have HIN1 := tHid (HINF.out I hlt)
        have HAP : Hid (∀ V vk, Nw wr V → SlR RG (fun _ => False) vk ((L4.drop (I * 21)).take 21) V → ∃ og' a8 n8 c8 W7, Hid (∀ ty, (Builtin.append_ #[22, 22] ty #[.slice a9 n9 c9, vk]).run Tryd.prog V = .ok (.slice a8 n8 c8) W7) ∧ Hid (OgR RG og' (.slice a8 n8 c8) (l.take (4 + (I + 1) * 21)) W7 ∧ (∀ g, og' = some g → W5.heap.size ≤ g) ∧ Nw W5 W7)) := fun V vk hV hk => by
          have hl1 : (l.take (4 + I * 21)).length ≤ 65536 := by rw [List.length_take]; omega
          have hl2 : ((L4.drop (I * 21)).take 21).length ≤ 21 := by rw [List.length_take]; omega
          obtain ⟨v', og', W7, k1, k2, k3, k4⟩ := ogR_app rgOk V og _ _ (HJ.out.1.nw hV) vk _ hk (by simp only [RG]; omega) (by omega)
          rw [HCAT.out I] at k2
          obtain ⟨a8, c8, rfl, _, _⟩ := k2.form
          have hfr := HJ.out.2.1
          refine ⟨og', _, _, _, W7, k1, k2, fun g e => ?_, (HJ.out.2.2.trans hV).then k3 (fun i hi => .inr (hfr i hi))⟩
          rcases k4 with h | ⟨g', e', hg'⟩
          · exact hfr g (by rw [← h]; exact e)
          · rw [e'] at e
            injection e with e
            have := (HJ.out.2.2.trans hV).size; omega
        have hfl : ((furR (L4.drop (I * 21))).map bv).toArray = rc (furR (L4.drop (I * 21))) := rfl
        rw [← hfl] at HRM1
        clear HJ HGET HRM HINF HCAT HALL HJ0 hrng hfl
        generalize (furR (L4.drop (I * 21))).map bv = CS at *
        by_cases hla : I + 1 < FS.length
        · rw [decide_eq_true hla] at HRM1
          have hlai : (I : Int) < (FS.length : Int) - 1 := by omega
          go_upto_region 22 with (first
            | (refine wpList_load_mid rfl 36 _ rfl gP (oP + I * 512) (by first | rfl | simp [Act.eval]) CS _ HRN.out Tryd.underlying36 rfl HIN1.out ?_)
            | (go_at_call 21; with_reducible refine (HRM1.out _).mono ?_; rintro e w8 ⟨a7, n7, c7, rfl, H8⟩))
          obtain ⟨og', a8, n8, c8, W7, HA8, HNX⟩ := HAP.out w8 _ H8.out.1 H8.out.2
          clear HAP HRM1 H8 HRN
          go_wp2_with (first
            | (at_builtin; refine Lib.wpList_append_run _ rfl _ _ 22 22 rfl (.slice a9 n9 c9) (.slice a7 n7 c7) (by first | rfl | simp [Act.eval]) (by first | rfl | simp [Act.eval]) _ _ (HA8.out _) ?_))
          go_roundg (FS.length - (I + 1))
          case measure => omega
          case rel => exact ⟨I + 1, og', a8, n8, c8, by omega, by omega, by first | rfl | simp, rfl, HNX⟩
        · rw [decide_eq_false hla] at HRM1
          have hlai : ¬ (I : Int) < (FS.length : Int) - 1 := by omega
          go_upto_region 22 with (first
            | (refine wpList_load_mid rfl 36 _ rfl gP (oP + I * 512) (by first | rfl | simp [Act.eval]) CS _ HRN.out Tryd.underlying36 rfl HIN1.out ?_)
            | (go_at_call 21; with_reducible refine (HRM1.out _).mono ?_; rintro e w8 ⟨a7, n7, c7, rfl, H8⟩))
          obtain ⟨og', a8, n8, c8, W7, HA8, HNX⟩ := HAP.out w8 _ H8.out.1 H8.out.2
          clear HAP HRM1 H8 HRN
          go_wp2_with (first
            | (at_builtin; refine Lib.wpList_append_run _ rfl _ _ 22 22 rfl (.slice a9 n9 c9) (.slice a7 n7 c7) (by first | rfl | simp [Act.eval]) (by first | rfl | simp [Act.eval]) _ _ (HA8.out _) ?_))
          go_roundg (FS.length - (I + 1))
          case measure => omega
          case rel => exact ⟨I + 1, og', a8, n8, c8, by omega, by omega, by first | rfl | simp, rfl, HNX⟩
      · have hlti : ¬ (I : Int) < (FS.length : Int) := by omega
        obtain rfl : I = FS.length := by omega
        have hall := HJ.out.1
        rw [HALL.out] at hall
        have HNE := tHid (HN5.out.trans HJ.out.2.2)
        have HRL := tHid (HRG.out wr _ l rfl HNE.out ((hall.slr rgOk).mono (fun _ h => h.elim)))
        clear hall HJ HGET HRM HINF HCAT HALL HJ0
        go_wp2_with (first
          | (go_at_call 12; with_reducible refine HRL.out.mono ?_; rintro e w7 ⟨rfl, H7⟩))
        have HE := tHid (HF.out _ (HNE.out.trans H7.out))
        first | exact HE.out | (go_ret; exact HE.out)
end Go.Proofs.YtffhpoilifgcdaaDoor

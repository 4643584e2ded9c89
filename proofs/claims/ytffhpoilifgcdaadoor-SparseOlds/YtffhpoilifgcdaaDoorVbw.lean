import Derived.Test.YtffhpoilifgcdaaDoorVbt
import Derived.Test.YtffhpoilifgcdaaDoorVbv
import Derived.Test.YtffhpoilifgcdaaDoorVbq
import Derived.Test.YtffhpoilifgcdaaDoorVbs
namespace Go.Proofs.YtffhpoilifgcdaaDoor
open Go.RowKit
set_option linter.unusedVariables false
/-! ### SparseForms -/
theorem copy7 (V : World) (v : Value) (x : List By) (hx : Sl (fun _ => False) v x V) (hn : x.length ≤ 140737488355328) : ∃ v1 W1 a2 c2 W2, Hid (∀ ty, (Builtin.append_ #[23, 23] ty #[.slice (some ⟨V.heap.size, 0, none⟩) 0 0, v]).run Tryd.prog (V.alloc (.cells #[] 5)) = .ok v1 W1) ∧ Hid (∀ ty, (Builtin.append_ #[23, 23] ty #[v1, .slice (some ⟨W1.heap.size, 0, none⟩) 1 1]).run Tryd.prog (W1.alloc (.cells #[.int .u8 7] 5)) = .ok (.slice a2 (x.length + 1) c2) W2) ∧ Nw V W2 ∧ Old W2 (.slice a2 (x.length + 1) c2) (x ++ [7#8]) := by
  have hN0 : Nw V (V.alloc (.cells #[] 5)) := (Fr.refl _ _).alloc _
  obtain ⟨v1, g1, W1, a1, o1, f1, d1⟩ := app_any _ _ _ [] (Ow.empty V) v x (hx.nw hN0) (by simp; omega)
  have hs0 : (V.alloc (.cells #[] 5)).heap.size = V.heap.size + 1 := by simp
  have hN1 : Nw V W1 := hN0.then f1 (fun i hi => .inr (by omega))
  have hg1 : V.heap.size ≤ g1 := by rcases d1 with e | e <;> omega
  rw [List.nil_append] at o1
  have hNa : Nw W1 (W1.alloc (.cells #[.int .u8 7] 5)) := (Fr.refl _ _).alloc _
  have hs1 : (W1.alloc (.cells #[.int .u8 7] 5)).heap.size = W1.heap.size + 1 := by simp
  have h7 : Sl (fun _ => False) (.slice (some ⟨W1.heap.size, 0, none⟩) 1 1) [7#8] (W1.alloc (.cells #[.int .u8 7] 5)) := by
    refine .inr ⟨W1.heap.size, fun h => h, 0, 1, rfl, by decide, by decide, fun j hj => ?_⟩
    have hh := nHeap W1 (.cells #[.int .u8 7] 5)
    have hj0 : j = 0 := by simp at hj; exact hj
    subst hj0
    unfold World.cell?
    rw [hh]
    rfl
  obtain ⟨v2, g2, W2, a2, o2, f2, d2⟩ := app_any _ g1 v1 x (o1.kept hNa (fun h => h)) _ [7#8] h7 (by simp; omega)
  have hN2 : Nw V W2 := (hN1.trans hNa).then f2 (fun i hi => .inr (by omega))
  obtain ⟨xs, e, h3, h4, h5, h6⟩ := id o2
  rw [List.length_append, List.length_singleton] at e
  subst e
  refine ⟨v1, W1, _, _, W2, a1, a2, hN2, ?_⟩
  exact .inr ⟨g2, (by have := o2.lt; omega), o2.slb⟩
theorem furs_get (n : Nat) (l : List Rg) (i : Nat) : (furs n l)[i]? = if l.drop (i * 21) ≠ [] ∧ i < n then some (mk512 (furR (l.drop (i * 21)))) else none := by
  induction n generalizing l i with
  | zero => simp [furs]
  | succ n ih =>
    rw [furs]
    by_cases hl : l = []
    · rw [if_pos hl, hl]; simp
    · rw [if_neg hl]
      cases i with
      | zero => simp [hl]
      | succ i =>
        rw [List.getElem?_cons_succ, ih, List.drop_drop, show 21 + i * 21 = (i + 1) * 21 by omega]
        simp only [Nat.add_lt_add_iff_right]
theorem furs_lt (l : List Rg) (i : Nat) : i < (furs l.length l).length ↔ i * 21 < l.length := by
  have h := furs_get l.length l i
  constructor
  · intro hi
    rw [List.getElem?_eq_getElem hi] at h
    split at h
    · rename_i hc
      rcases Nat.lt_or_ge (i * 21) l.length with h1 | h1
      · exact h1
      · exact absurd (List.drop_eq_nil_of_le h1) hc.1
    · cases h
  · intro hi
    rw [if_pos ⟨fun e => by have := congrArg List.length e; rw [List.length_drop, List.length_nil] at this; omega, by omega⟩] at h
    exact (List.getElem?_eq_some_iff.1 h).1
theorem one494 : (fstR zrec [] 0)[494]? = some 0#8 := by
  have hl : (pto zrec 386 (tabI 4 [] (min ([] : List Rg).length 4))).length = 512 := by
    rw [pto_len _ _ _ (by rw [tabI_len 4 [] (fun x hx => by cases hx) _ (by omega) (by omega), zrec_length]; decide)]
    exact zrec_length
  have ln := (pn12 0 (by omega) (by omega)).2.1
  unfold fstR
  rw [pto_at _ _ _ (by rw [hl, ln]; decide), if_pos (by rw [ln]; decide)]
  decide +kernel
theorem mine_sl {K : Nat → Prop} {v : Value} {x : List By} {V : World} (h : Mine K v x V) : Sl (fun _ => False) v x V := by
  rcases h with ⟨rfl, rfl⟩ | ⟨g, h1, h2⟩
  · exact .inl ⟨none, rfl, rfl⟩
  · exact .inr ⟨g, fun h => h, h2.slb⟩
theorem copyB1 (V : World) (v : Value) (x : List By) (hx : Sl (fun _ => False) v x V) (hn : x.length ≤ 140737488355328) : ∃ a2 c2 W2, Hid (∀ ty, (Builtin.append_ #[23, 23] ty #[.slice (some ⟨V.heap.size, 0, none⟩) 0 0, v]).run Tryd.prog (V.alloc (.cells #[] 5)) = .ok (.slice a2 x.length c2) W2) ∧ Nw V W2 ∧ Old W2 (.slice a2 x.length c2) x := by
  have hN0 : Nw V (V.alloc (.cells #[] 5)) := (Fr.refl _ _).alloc _
  obtain ⟨v1, g1, W1, a1, o1, f1, d1⟩ := app_any _ _ _ [] (Ow.empty V) v x (hx.nw hN0) (by simp; omega)
  have hs0 : (V.alloc (.cells #[] 5)).heap.size = V.heap.size + 1 := by simp
  have hN1 : Nw V W1 := hN0.then f1 (fun i hi => .inr (by omega))
  rw [List.nil_append] at o1
  obtain ⟨xs, e, h3, h4, h5, h6⟩ := id o1
  subst e
  exact ⟨_, _, W1, a1, hN1, .inr ⟨g1, (by have := o1.lt; omega), o1.slb⟩⟩
set_option maxHeartbeats 16000000 in
set_option maxRecDepth 100000 in
theorem forms_walk (w : World) (hEv : Ev15 w) (a2 : Option Addr) (n2 c2 : Nat) (l : List Rg) (hl : SlR RG (fun k => w.heap.size ≤ k) (.slice a2 n2 c2) l w) (hn2 : n2 ≤ 8796093022208) (z : Int) (hz : z ≤ 9223372036854775807) (a : Option Addr) (n c : Nat) (b : List By) (hb : Old w (.slice a n c) b) (hn : n ≤ 140737488351232) :
    Calls Tryd.prog 5 #[.slice a2 n2 c2, .int .i64 z, .slice a n c] w fun e w' => e = .returned (.bool true) ∧ Nw w w' := by
  obtain ⟨P, hP⟩ : ∃ P : Ending → World → Prop, P = fun e w' => e = .returned (.bool true) ∧ Nw w w' := ⟨_, rfl⟩
  rw [← hP]
  have HF : Hid (∀ V, Nw w V → P (.returned (.bool true)) V) := fun V hV => by rw [hP]; exact ⟨rfl, hV⟩
  clear hP
  obtain ⟨hbn, k1, k2⟩ := slx_len hb
  obtain ⟨hln, k3, k4⟩ := slg_len hl
  subst hbn hln
  have HB : Hid (∀ V, Nw w V → Sl (fun _ => False) (.slice a b.length c) b V) := fun V hV => (hb.nw hV).mono (fun _ h => h.elim)
  have HL : Hid (∀ V, Nw w V → SlR RG (fun _ => False) (.slice a2 l.length c2) l V) := fun V hV => (hl.nw hV).mono (fun _ h => h.elim)
  have HEV := tHid hEv
  have HRG : Hid (∀ V va (m : List Rg), m = l → Nw w V → SlR RG (fun _ => False) va m V → Calls Tryd.prog 12 #[va, .slice a2 l.length c2] V fun e w' => e = .returned (.bool true) ∧ Hid (Nw V w')) := fun V va m hm hV h => by
    have := ranges_any V va (.slice a2 l.length c2) m l h (HL.out V hV)
    rw [decide_eq_true hm] at this
    exact this
  clear hb hl hEv
  obtain ⟨gm, cm, W1, HA1, om, nm, hgm⟩ := copyG1 w (.slice a2 l.length c2) l (HL.out w (Fr.refl _ _)) (by omega)
  have HN1 := tHid nm
  obtain ⟨E1, hE1⟩ : ∃ E1 : Int, (if vld l 9223372036854775807 then (0 : Int) else 1) = E1 := ⟨_, rfl⟩
  have HPu : Hid (Calls Tryd.prog 6 #[.slice (some ⟨gm, 0, none⟩) l.length cm] W1 fun e V' => ∃ a k c, e = .returned (.tuple #[.slice a k c, .int .i64 E1]) ∧ Hid (Nw W1 V' ∧ NewB W1 (.slice a k c) (ptX l) V' ∧ k = (ptX l).length)) := by
    have := put_any W1 (HEV.out.nw nm) _ _ _ l (om.slr rgOk)
    unfold PtA at this
    rw [hE1] at this
    refine this.mono ?_
    rintro e V' ⟨a', k', c', e1, h1⟩
    obtain ⟨q1, _, _⟩ := Mine.len h1.out.2
    exact ⟨a', k', c', e1, h1.out.1, h1.out.2, q1⟩
  clear om nm hgm
  have HXL := tHid (ptX_len l)
  go_enter Tryd.func5, Tryd.ntmps5
  go_upto_if 39 with (first
    | (at_builtin; refine Lib.wpList_append_run _ rfl _ _ 22 22 rfl (.slice (some ⟨w.heap.size, 0, none⟩) 0 0) (.slice a2 l.length c2) (by first | rfl | simp [Act.eval]) (by first | rfl | simp [Act.eval]) _ _ (HA1.out _) ?_)
    | (go_at_call 6; with_reducible refine HPu.out.mono ?_; rintro e w2 ⟨ax, kx, cx, rfl, H2⟩))
  have HN2 := tHid (HN1.out.trans H2.out.1)
  clear HPu HA1
  go_cut [9, 10, 11, 39] from 40 to 63 (fun x y u v wx => Hid (Nw w wx))
  case first =>
    by_cases hv : vld l 9223372036854775807 = true
    · rw [if_pos hv] at hE1
      subst hE1
      obtain ⟨m, hm, hch, hml⟩ := vld_m hv
      have hpt : ptX l = ptT m := by unfold ptX; rw [if_pos hv, hm, natL_rgL]
      have hxs : Sl (fun _ => False) (.slice ax kx cx) (ptX l) w2 := mine_sl H2.out.2.1
      have hkx := H2.out.2.2
      obtain ⟨v1, V1, a5, c5, V2, HA5, HA6, hN5, hO5⟩ := copy7 w2 _ (ptX l) hxs (by have := HXL.out; omega)
      have hrd : rdT (ptX l ++ [7#8]) = (m, (ptX l).length, 0) := by rw [hpt]; exact rdT_ptT m [7#8] hml hch
      have HRd := read_any15 V2 _ _ _ _ hO5 (by have := HXL.out; omega)
      unfold RdA at HRd
      rw [hrd] at HRd
      simp only at HRd
      have HRd := tHid HRd
      have HN5 := tHid (HN2.out.trans hN5)
      have HM := tHid hm.symm
      rw [← hkx] at HRd HA6
      clear hxs hO5 hrd hpt hN5 hm hch H2 hv hkx
      have q1 : (0 : Int) ≤ (kx : Int) := by omega
      go_wp2_with (first
        | (at_builtin; refine Lib.wpList_append_run _ rfl _ _ 23 23 rfl (.slice (some ⟨w2.heap.size, 0, none⟩) 0 0) (.slice ax kx cx) (by first | rfl | simp [Act.eval]) (by first | rfl | simp [Act.eval]) _ _ (HA5.out _) ?_)
        | (at_builtin; refine Lib.wpList_append_run _ rfl _ _ 23 23 rfl v1 (.slice (some ⟨V1.heap.size, 0, none⟩) 1 1) (by first | rfl | simp [Act.eval]) (by first | rfl | simp [Act.eval]) _ _ (HA6.out _) ?_)
        | (go_at_call 9; with_reducible refine HRd.out.mono ?_; rintro e w6 ⟨a6, n6, c6, rfl, H6⟩; have HN6 := tHid (HN5.out.trans H6.out.1))
        | (go_at_call 12; with_reducible refine (HRG.out _ _ _ HM.out HN6.out H6.out.2.slr).mono ?_; rintro e w7 ⟨rfl, H7⟩))
      have HN7 := tHid (HN6.out.trans H7.out)
      go_meet
      exact HN7
    · rw [if_neg hv] at hE1
      subst hE1
      clear hv
      go_wp2_with fail
      go_meet
      exact HN2
  case rest =>
  have HNA : Hid (Nw w wc) := hcut
  clear hcut HN2 H2 HXL HN1
  obtain ⟨wA, hwA⟩ : ∃ z, z = wc := ⟨_, rfl⟩
  subst hwA
  obtain ⟨aB, cB, WB, HAB, nB, oB⟩ := copyB1 wA _ b (HB.out wA HNA.out) (by omega)
  have HRb := read_any15 WB _ _ _ _ oB (by omega)
  unfold RdA at HRb
  have hinv := rdT_inv b
  generalize rdT b = RT at *
  obtain ⟨mB, qB, eB⟩ := RT
  simp only at HRb
  have HRB := tHid HRb
  have HNB := tHid (HNA.out.trans nB)
  clear oB nB HRb
  go_upto_if 73 with (first
    | (at_builtin; refine Lib.wpList_append_run _ rfl _ _ 23 23 rfl (.slice (some ⟨wA.heap.size, 0, none⟩) 0 0) (.slice a b.length c) (by first | rfl | simp [Act.eval]) (by first | rfl | simp [Act.eval]) _ _ (HAB.out _) ?_)
    | (go_at_call 9; with_reducible refine HRB.out.mono ?_; rintro e w3 ⟨a3, n3, c3, rfl, H3⟩))
  have HN3 := tHid (HNB.out.trans H3.out.1)
  clear HAB HRB HNB HNA
  go_cut [15, 16, 73] from 74 to 94 (fun x y u wx => Hid (Nw w wx))
  case first =>
    by_cases he : eB = 0
    · subst he
      obtain ⟨i1, i2, i3, i4⟩ := hinv mB qB rfl
      have hvl : vld (rgL mB) 9223372036854775807 = true := by
        unfold vld
        rw [Bool.and_eq_true, Bool.and_eq_true, decide_eq_true_iff, decide_eq_true_iff]
        exact ⟨by omega, by rw [rgL_len]; exact i1, (chn_vlE 0 mB).1 i2⟩
      have hpx : ptX (rgL mB) = b.take qB := by unfold ptX; rw [if_pos hvl, natL_rgL, i4]
      have hg3 := H3.out.2.slr
      have HPu := put_any w3 (HEV.out.nw HN3.out) _ _ _ (rgL mB) hg3
      unfold PtA at HPu
      rw [if_pos hvl, hpx] at HPu
      have HPu := tHid HPu
      have HSM : Hid (∀ V v, Mine (fun k => k < w3.heap.size) v (b.take qB) V → Nw w3 V → Calls Tryd.prog 11 #[v, .slice a qB c] V fun e w' => e = .returned (.bool true) ∧ Hid (Nw V w')) := fun V v h1 h2 => by
        have hb2 := HB.out V (HN3.out.trans h2)
        have hbt : Sl (fun _ => False) (.slice a qB c) (b.take qB) V := by
          rcases hb2 with ⟨a', e, hn⟩ | ⟨g', hg', o', c', e, q1, q2, q3⟩
          · injection e with e1 e2 e3
            subst e1 e3
            rw [hn] at i3 ⊢
            have : qB = 0 := by simpa using i3
            subst this
            exact .inl ⟨_, rfl, rfl⟩
          · injection e with e1 e2 e3
            subst e1 e3
            have hlt : (b.take qB).length = qB := by rw [List.length_take]; omega
            exact .inr ⟨g', fun h => h, o', c, by rw [hlt], by omega, by omega, q3.take qB⟩
        have := same_any V v (.slice a qB c) (b.take qB) (b.take qB) (mine_sl h1) hbt
        rw [decide_eq_true rfl] at this
        exact this (by rw [List.length_take]; omega) (by rw [List.length_take]; omega)
      have hqi : (qB : Int) ≤ (b.length : Int) := by omega
      have hqc : (qB : Int) ≤ (c : Int) := by omega
      have hqn : ¬ (b.length : Int) < (qB : Int) := by omega
      clear hinv i1 i2 i4 hvl hpx hg3
      go_wp2_with (first
        | (go_at_call 6; with_reducible refine HPu.out.mono ?_; rintro e w4 ⟨a4, n4, c4, rfl, H4⟩)
        | (go_at_call 11; with_reducible refine (HSM.out _ _ H4.out.2 H4.out.1).mono ?_; rintro e w5 ⟨rfl, H5⟩))
      have HN5 := tHid (HN3.out.trans (H4.out.1.trans H5.out))
      go_meet
      exact HN5
    · have hei : ¬ ((eB : Int) = 0) := by omega
      go_wp2_with fail
      go_meet
      exact HN3
  case rest =>
  have HNC : Hid (Nw w wc) := hcut
  clear hcut HN3 H3 hinv
  obtain ⟨wD, hwD⟩ : ∃ z, z = wc := ⟨_, rfl⟩
  subst hwD
  obtain ⟨gC, cC, WC, HAC, oC, nC, hgC⟩ := copyG1 wD (.slice a2 l.length c2) l (HL.out wD HNC.out) (by omega)
  have HPO : Hid (Calls Tryd.prog 16 #[.agg Tryd.zeroCells36, .slice (some ⟨gC, 0, none⟩) l.length cC, .int .i64 z] WC (PoA WC zrec l z)) := by
    have hlt := oC.lt
    have := putOld_any WC zrec zrec_length l z hz _ _ _ ((oC.slr rgOk).mono (fun k hk => by omega))
    rw [← zrec_rc] at this
    exact this
  have HPZ : Hid (∀ V, Calls Tryd.prog 16 #[.agg Tryd.zeroCells36, .slice none 0 0, .int .i64 0] V (PoA V zrec [] 0)) := fun V => by
    have := putOld_any V zrec zrec_length [] 0 (by omega) none 0 0 (.inl ⟨none, rfl, rfl⟩)
    rw [← zrec_rc] at this
    exact this
  have HND := tHid (HNC.out.trans nC)
  have HZC : Hid ((Tryd.zeroCells36 : Array Value) = rc zrec) := zrec_rc
  have HI : Hid (∀ x : List By, x.length = 512 → (Tryd.prog.info? 36).map (·.size) = some (rc x).size ∧ (Tryd.zeroCells36 : Array Value).size = (rc x).size ∧ (rc x).all (·.oneCell') = true) := fun x hx => ⟨rc_info x hx, by rw [HZC.out, rc_size, rc_size, zrec_length, hx], rc_one x⟩
  have HST : Hid (∀ (V : World) (x : List By), ∃ W, (V.alloc (.cells Tryd.zeroCells36 36)).setRow V.heap.size (rc x) = W ∧ (V.alloc (.cells Tryd.zeroCells36 36)).heap[V.heap.size]? = some (.cells Tryd.zeroCells36 36) ∧ Hid (Nw V W ∧ W.heap[V.heap.size]? = some (.cells (rc x) 36))) := fun V x => by
    have h0 := nHeap V (.cells Tryd.zeroCells36 36)
    exact ⟨_, rfl, h0, ((Fr.refl _ _).alloc _).setRow _ _ (.inr (Nat.le_refl _)), setRow_heap _ _ _ _ 36 _ h0⟩
  clear nC hgC oC
  cases hv : vld l z with
  | false =>
    have HPO1 : Hid (Calls Tryd.prog 16 #[.agg Tryd.zeroCells36, .slice (some ⟨gC, 0, none⟩) l.length cC, .int .i64 z] WC fun e V => e = .returned (.tuple #[.agg (rc zrec), .slice none 0 0, .int .i64 1]) ∧ Hid (Nw WC V)) := HPO.out.mono (fun e V h => by
      rcases h with ⟨_, h2, h3⟩ | ⟨h1, _⟩
      · exact ⟨h2, h3⟩
      · rw [hv] at h1; cases h1)
    have HPZ1 : Hid (∀ V, Calls Tryd.prog 16 #[.agg Tryd.zeroCells36, .slice none 0 0, .int .i64 0] V fun e W => ∃ a n c, e = .returned (.tuple #[.agg (rc (fstR zrec [] 0)), .slice a n c, .int .i64 0]) ∧ Hid (Nw V W)) := fun V => (HPZ.out V).mono (fun e W h => by
      rcases h with ⟨h1, _⟩ | ⟨_, a', n', c', h2, h3⟩
      · exact absurd h1 (by decide)
      · exact ⟨a', n', c', h2, h3.out.1⟩)
    have hF1 := fstR_len zrec zrec_length [] (fun x hx => by cases hx) 0 (by omega) (by omega)
    clear hv HPO HPZ
    have HI1 := tHid (HI.out zrec zrec_length)
    have HI2 := tHid (HI.out (fstR zrec [] 0) hF1)
    have h494 := one494
    go_upto_region 12 with (first
      | (at_builtin; refine Lib.wpList_append_run _ rfl _ _ 22 22 rfl (.slice (some ⟨wD.heap.size, 0, none⟩) 0 0) (.slice a2 l.length c2) (by first | rfl | simp [Act.eval]) (by first | rfl | simp [Act.eval]) _ _ (HAC.out _) ?_)
      | (go_at_call 16; with_reducible refine HPO1.out.mono ?_; rintro e w4 ⟨rfl, H4⟩; obtain ⟨W5, e5, h5, H5⟩ := HST.out w4 zrec; have HR5 := tHid h5)
      | (refine wpList_store_row rfl 36 _ _ rfl w4.heap.size (rc zrec) (by first | rfl | simp [Act.eval]) (by first | rfl | simp [Act.eval]) 36 _ HR5.out HI1.out.1 HI1.out.2.1 HI1.out.2.2 ?_; rw [e5]))
    have HN5 := tHid (HND.out.trans (H4.out.trans H5.out.1))
    clear HAC HPO1 H4 H5 HR5 e5 h5 HND
    go_upto_region 14 with (first
      | (go_at_call 16; with_reducible refine (HPZ1.out _).mono ?_; rintro e w6 ⟨a6, n6, c6, rfl, H6⟩; obtain ⟨W7, e7, h7, H7⟩ := HST.out w6 (fstR zrec [] 0); have HR7 := tHid h7)
      | (refine wpList_store_row rfl 36 _ _ rfl w6.heap.size (rc (fstR zrec [] 0)) (by first | rfl | simp [Act.eval]) (by first | rfl | simp [Act.eval]) 36 _ HR7.out HI2.out.1 HI2.out.2.1 HI2.out.2.2 ?_; rw [e7]))
    have c7 : W7.cell? ⟨w6.heap.size, 494, none⟩ = some (.int .u8 0) := by
      have := RcO.at (R := fstR zrec [] 0) H7.out.2 494 (by omega)
      rw [this]
      obtain ⟨h1, h2⟩ := List.getElem?_eq_some_iff.1 h494
      rw [h2]
      rfl
    have HE := tHid (HF.out _ (HN5.out.trans (H6.out.trans H7.out.1)))
    clear HPZ1 HR7 e7 h7 H7 H6
    go_wp2_with fail
    first | exact HE.out | (go_ret; exact HE.out)
  | true =>
    obtain ⟨hz0, hln, hok⟩ := vld_ok hv hz
    obtain ⟨r1, r2, r3⟩ := fst_read zrec zrec_length l hok z hz0 hz
    have hFL := fstR_len zrec zrec_length l hok z hz0 hz
    obtain ⟨F, hF⟩ : ∃ F, fstR zrec l z = F := ⟨_, rfl⟩
    rw [hF] at r1 r2 r3 hFL
    obtain ⟨L4, hL4⟩ : ∃ L4, l.drop 4 = L4 := ⟨_, rfl⟩
    obtain ⟨FS, hFS⟩ : ∃ FS, furs L4.length L4 = FS := ⟨_, rfl⟩
    have hroE : roE F = 0 := by
      unfold roE
      rw [r1, if_neg (by simp), r2]
    have HPO1 : Hid (Calls Tryd.prog 16 #[.agg Tryd.zeroCells36, .slice (some ⟨gC, 0, none⟩) l.length cC, .int .i64 z] WC fun e V => ∃ a c, e = .returned (.tuple #[.agg (rc F), .slice a FS.length c, .int .i64 0]) ∧ Hid (Nw WC V ∧ SlR RR (fun _ => False) (.slice a FS.length c) FS V)) := HPO.out.mono (fun e V h => by
      rcases h with ⟨h1, _⟩ | ⟨_, a', n', c', h2, h3⟩
      · rw [hv] at h1; cases h1
      · obtain ⟨h4, og, h5, h6⟩ := h3.out
        rw [hL4, hFS] at h5
        obtain ⟨a9, c9, e9, _, _⟩ := h5.form
        injection e9 with e1 e2 e3
        subst e1 e2 e3
        rw [hF] at h2
        exact ⟨_, _, h2, h4, (h5.slr rrOk).mono (fun _ h => h.elim)⟩)
    have HRO : Hid (∀ V, Calls Tryd.prog 19 #[.agg (rc F)] V fun e W => ∃ a m c, e = .returned (.tuple #[.slice a m c, .int .i64 z, .bool (decide (4 < l.length)), .int .i64 0]) ∧ Hid (Nw V W ∧ NewG V (.slice a m c) (l.take 4) W)) := fun V => (readOld_any V F hFL).mono (fun e W h => by
      obtain ⟨a', m', c', B, N, h1, h2⟩ := h
      rw [hroE] at h1 h2
      obtain ⟨h3, h4, h5⟩ := h2.out.2.1 rfl
      rw [r1] at h3
      rw [r2] at h5
      rw [r3, flg_ne] at h4
      simp only at h3 h5
      rw [nt_rg _ (take_ok hok 4)] at h3
      have : N = z := by rw [h5]; omega
      subst this h4
      exact ⟨a', m', c', h1, h2.out.1, h3⟩)
    have hbig : decide (4 < l.length) = decide (0 < FS.length) := by
      have : 0 < FS.length ↔ 4 < l.length := by
        rw [← hFS, furs_lt, ← hL4, List.length_drop]
        omega
      exact decide_eq_decide.2 this.symm
    obtain ⟨B6, hB6⟩ : ∃ B6, decide (0 < FS.length) = B6 := ⟨_, rfl⟩
    rw [hbig, hB6] at HRO
    have HI1 := tHid (HI.out F hFL)
    have hFSl : FS.length ≤ 65536 := by rw [← hFS]; have := furs_len L4.length L4; have : L4.length ≤ l.length := by rw [← hL4, List.length_drop]; omega
                                        omega
    have HHF := tHid hF
    clear HPO HPZ r1 r2 r3 hroE hbig hv hF
    go_upto_region 15 with (first
      | (at_builtin; refine Lib.wpList_append_run _ rfl _ _ 22 22 rfl (.slice (some ⟨wD.heap.size, 0, none⟩) 0 0) (.slice a2 l.length c2) (by first | rfl | simp [Act.eval]) (by first | rfl | simp [Act.eval]) _ _ (HAC.out _) ?_)
      | (go_at_call 16; with_reducible refine HPO1.out.mono ?_; rintro e w4 ⟨aP, cP, rfl, H4⟩; obtain ⟨W5, e5, h5, H5⟩ := HST.out w4 F; have HR5 := tHid h5)
      | (refine wpList_store_row rfl 36 _ _ rfl w4.heap.size (rc F) (by first | rfl | simp [Act.eval]) (by first | rfl | simp [Act.eval]) 36 _ HR5.out HI1.out.1 HI1.out.2.1 HI1.out.2.2 ?_; rw [e5]))
    have HN5 := tHid (HND.out.trans (H4.out.1.trans H5.out.1))
    have HS5 := tHid (H4.out.2.nw H5.out.1)
    have HR5 := tHid H5.out.2
    have HW5 := tHid (Fr.refl (fun _ => False) W5)
    clear HAC HPO1 H4 e5 h5 H5 HND HST
    obtain ⟨fk, hfk⟩ : ∃ fk, w4.heap.size = fk := ⟨_, rfl⟩
    rw [hfk] at HR5
    go_upto_region 16 with (first
      | (refine wpList_load_row rfl 36 _ rfl fk (by first | rfl | simp [Act.eval]) 36 _ (0, 0) _ HR5.out Tryd.underlying36 rfl HI1.out.1 ?_)
      | (go_at_call 19; with_reducible refine (HRO.out _).mono ?_; rintro e w6 ⟨a6, n6, c6, rfl, H6⟩))
    obtain ⟨og6, ho6, hf6⟩ := H6.out.2
    have HJ0 : Hid (OgR RG og6 (.slice a6 n6 c6) (l.take (4 + 0 * 21)) w6 ∧ (∀ g, og6 = some g → W5.heap.size ≤ g) ∧ Nw W5 w6) := ⟨ho6, hf6, H6.out.1⟩
    clear ho6 hf6 H6 HRO HR5
    have HGET : Hid (∀ I, (h : I < FS.length) → ∃ g o, aP = some ⟨g, o, none⟩ ∧ ∀ V, Nw W5 V → V.rangeAt g (o + I * 512) ((furR (L4.drop (I * 21))).map bv)) := fun I h => by
      have hI21 : I * 21 < L4.length := (furs_lt L4 I).1 (by rw [hFS]; exact h)
      have hg := furs_get L4.length L4 I
      rw [hFS, if_pos ⟨fun e => by have := congrArg List.length e; rw [List.length_drop, List.length_nil] at this; omega, by omega⟩] at hg
      obtain ⟨g, o, e, _, hc⟩ := HS5.out.at I _ hg
      refine ⟨g, o, e, fun V hV j v hj => ?_⟩
      have hokj : ∀ x ∈ L4.drop (I * 21), OkG x := fun x hx => hok x (List.mem_of_mem_drop (by rw [hL4]; exact List.mem_of_mem_drop hx))
      have := hc j v (by simp only [RR]; rw [mk512_val _ (furR_len _ hokj)]; exact hj)
      exact Nw.cell hV this
    have HRM : Hid (∀ V I, I < FS.length → Calls Tryd.prog 21 #[.agg (rc (furR (L4.drop (I * 21))))] V fun e W => ∃ a m c, e = .returned (.tuple #[.slice a m c, .bool (decide (I + 1 < FS.length)), .int .i64 0]) ∧ Hid (Nw V W ∧ SlR RG (fun _ => False) (.slice a m c) ((L4.drop (I * 21)).take 21) W)) := fun V I h => by
      have hokj : ∀ x ∈ L4.drop (I * 21), OkG x := fun x hx => hok x (List.mem_of_mem_drop (by rw [hL4]; exact List.mem_of_mem_drop hx))
      obtain ⟨q1, q2⟩ := fur_read _ hokj
      refine (readMore_any V _ (furR_len _ hokj)).mono ?_
      rintro e W ⟨a', m', c', B, h1, h2⟩
      rw [q1] at h1 h2
      obtain ⟨h3, h4⟩ := h2.out.2.1 rfl
      rw [q2, flg_ne] at h4
      simp only at h3
      rw [nt_rg _ (take_ok hokj 21)] at h3
      have : decide (21 < (L4.drop (I * 21)).length) = decide (I + 1 < FS.length) := by
        apply decide_eq_decide.2
        rw [← hFS, furs_lt, List.length_drop]
        omega
      rw [this] at h4
      subst h4
      exact ⟨a', m', c', h1, h2.out.1, h3.slr⟩
    have HINF : Hid (∀ I, I < FS.length → (Tryd.prog.info? 36).map (·.size) = some ((furR (L4.drop (I * 21))).map bv).length) := fun I h => by
      have hokj : ∀ x ∈ L4.drop (I * 21), OkG x := fun x hx => hok x (List.mem_of_mem_drop (by rw [hL4]; exact List.mem_of_mem_drop hx))
      have := (HI.out _ (furR_len _ hokj)).1
      rw [rc_size] at this
      rw [List.length_map]
      exact this
    have HCAT : Hid (∀ I, l.take (4 + I * 21) ++ (L4.drop (I * 21)).take 21 = l.take (4 + (I + 1) * 21)) := fun I => by
      rw [← hL4, List.drop_drop, show 4 + (I + 1) * 21 = (4 + I * 21) + 21 by omega]
      exact List.take_add.symm
    have HALL : Hid (l.take (4 + FS.length * 21) = l) := by
      have h1 : ¬ FS.length < (furs L4.length L4).length := by rw [hFS]; omega
      rw [furs_lt, ← hL4, List.length_drop] at h1
      have : l.take (4 + FS.length * 21) = l := List.take_of_length_le (by omega)
      exact this
    clear hFS hL4 hok
    go_wp2_with fail
    go_loopg [23, 27] FS.length (fun kx v i wr => ∃ (I : Nat) (og : Option Nat) (a9 : Option Addr) (n9 c9 : Nat), I ≤ FS.length ∧ FS.length - I ≤ kx ∧ i = .int .i64 (I : Int) ∧ v = .slice a9 n9 c9 ∧ Hid (OgR RG og (.slice a9 n9 c9) (l.take (4 + I * 21)) wr ∧ (∀ g, og = some g → W5.heap.size ≤ g) ∧ Nw W5 wr))
    case atStart => exact ⟨0, og6, a6, n6, c6, by omega, by omega, rfl, rfl, HJ0⟩
    case round =>
      obtain ⟨I, og, a9, n9, c9, hI, hkx, rfl, rfl, HJ⟩ := hrel
      by_cases hlt : I < FS.length
      · have hlti : (I : Int) < (FS.length : Int) := by omega
        obtain ⟨gP, oP, rfl, hrng⟩ := HGET.out I hlt
        have HRN := tHid (hrng wr HJ.out.2.2)
        have HRM1 := tHid (fun V => HRM.out V I hlt)
        have HIN1 := tHid (HINF.out I hlt)
        have HAP : Hid (∀ V vk, Nw wr V → SlR RG (fun _ => False) vk ((L4.drop (I * 21)).take 21) V → ∃ og' a8 n8 c8 W7, Hid (∀ ty, (Builtin.append_ #[22, 22] ty #[.slice a9 n9 c9, vk]).run Tryd.prog V = .ok (.slice a8 n8 c8) W7) ∧ Hid (OgR RG og' (.slice a8 n8 c8) (l.take (4 + (I + 1) * 21)) W7 ∧ (∀ g, og' = some g → W5.heap.size ≤ g) ∧ Nw W5 W7)) := fun V vk hV hk => by
          have hl1 : (l.take (4 + I * 21)).length ≤ 65536 := by rw [List.length_take]; omega
          have hl2 : ((L4.drop (I * 21)).take 21).length ≤ 21 := by rw [List.length_take]; omega
          obtain ⟨v', og', W7, k1, k2, k3, k4⟩ := ogR_app rgOk V og _ _ (HJ.out.1.nw hV) vk _ hk (by simp only [RG]; omega) (by omega)
          rw [HCAT.out I] at k2
          obtain ⟨a8, c8, rfl, _, _⟩ := k2.form
          have hfr := HJ.out.2.1
          refine ⟨og', _, _, _, W7, k1, k2, fun g e => ?_, (HJ.out.2.2.trans hV).then k3 (fun i hi => .inr (hfr i hi))⟩
          rcases k4 with h | ⟨g', e', hg'⟩
          · exact hfr g (by rw [← h]; exact e)
          · rw [e'] at e
            injection e with e
            have := (HJ.out.2.2.trans hV).size; omega
        have hfl : ((furR (L4.drop (I * 21))).map bv).toArray = rc (furR (L4.drop (I * 21))) := rfl
        rw [← hfl] at HRM1
        clear HJ HGET HRM HINF HCAT HALL HJ0 hrng hfl
        generalize (furR (L4.drop (I * 21))).map bv = CS at *
        by_cases hla : I + 1 < FS.length
        · rw [decide_eq_true hla] at HRM1
          have hlai : (I : Int) < (FS.length : Int) - 1 := by omega
          go_upto_region 22 with (first
            | (refine wpList_load_mid rfl 36 _ rfl gP (oP + I * 512) (by first | rfl | simp [Act.eval]) CS _ HRN.out Tryd.underlying36 rfl HIN1.out ?_)
            | (go_at_call 21; with_reducible refine (HRM1.out _).mono ?_; rintro e w8 ⟨a7, n7, c7, rfl, H8⟩))
          obtain ⟨og', a8, n8, c8, W7, HA8, HNX⟩ := HAP.out w8 _ H8.out.1 H8.out.2
          clear HAP HRM1 H8 HRN
          go_wp2_with (first
            | (at_builtin; refine Lib.wpList_append_run _ rfl _ _ 22 22 rfl (.slice a9 n9 c9) (.slice a7 n7 c7) (by first | rfl | simp [Act.eval]) (by first | rfl | simp [Act.eval]) _ _ (HA8.out _) ?_))
          go_roundg (FS.length - (I + 1))
          case measure => omega
          case rel => exact ⟨I + 1, og', a8, n8, c8, by omega, by omega, by first | rfl | simp, rfl, HNX⟩
        · rw [decide_eq_false hla] at HRM1
          have hlai : ¬ (I : Int) < (FS.length : Int) - 1 := by omega
          go_upto_region 22 with (first
            | (refine wpList_load_mid rfl 36 _ rfl gP (oP + I * 512) (by first | rfl | simp [Act.eval]) CS _ HRN.out Tryd.underlying36 rfl HIN1.out ?_)
            | (go_at_call 21; with_reducible refine (HRM1.out _).mono ?_; rintro e w8 ⟨a7, n7, c7, rfl, H8⟩))
          obtain ⟨og', a8, n8, c8, W7, HA8, HNX⟩ := HAP.out w8 _ H8.out.1 H8.out.2
          clear HAP HRM1 H8 HRN
          go_wp2_with (first
            | (at_builtin; refine Lib.wpList_append_run _ rfl _ _ 22 22 rfl (.slice a9 n9 c9) (.slice a7 n7 c7) (by first | rfl | simp [Act.eval]) (by first | rfl | simp [Act.eval]) _ _ (HA8.out _) ?_))
          go_roundg (FS.length - (I + 1))
          case measure => omega
          case rel => exact ⟨I + 1, og', a8, n8, c8, by omega, by omega, by first | rfl | simp, rfl, HNX⟩
      · have hlti : ¬ (I : Int) < (FS.length : Int) := by omega
        obtain rfl : I = FS.length := by omega
        have hall := HJ.out.1
        rw [HALL.out] at hall
        have HNE := tHid (HN5.out.trans HJ.out.2.2)
        have HRL := tHid (HRG.out wr _ l rfl HNE.out ((hall.slr rgOk).mono (fun _ h => h.elim)))
        clear hall HJ HGET HRM HINF HCAT HALL HJ0
        go_wp2_with (first
          | (go_at_call 12; with_reducible refine HRL.out.mono ?_; rintro e w7 ⟨rfl, H7⟩))
        have HE := tHid (HF.out _ (HNE.out.trans H7.out))
        first | exact HE.out | (go_ret; exact HE.out)
end Go.Proofs.YtffhpoilifgcdaaDoor

namespace Go.Proofs.YtffhpoilifgcdaaDoor
open Go.RowKit
set_option linter.unusedVariables false
/-! ### SparseOlds -/
theorem po_one (R : List By) (hR : R.length = 512) (l : List Rg) (z : Int) (hz : z ≤ 9223372036854775807) : ∃ (X : List By) (FS : List Rcd) (E : Int), X.length = 512 ∧ FS.length ≤ 65536 ∧ ∀ V e W, PoA V R l z e W → ∃ a c, e = .returned (.tuple #[.agg (rc X), .slice a FS.length c, .int .i64 E]) ∧ Hid (Nw V W ∧ SlR RR (fun _ => False) (.slice a FS.length c) FS W) := by
  cases hv : vld l z with
  | false =>
    refine ⟨R, [], 1, hR, by simp, fun V e W h => ?_⟩
    rcases h with ⟨_, h2, h3⟩ | ⟨h1, _⟩
    · exact ⟨none, 0, h2, h3.out, .inl ⟨_, rfl, rfl⟩⟩
    · rw [hv] at h1; cases h1
  | true =>
    obtain ⟨hz0, hln, hok⟩ := vld_ok hv hz
    refine ⟨fstR R l z, furs (l.drop 4).length (l.drop 4), 0, fstR_len R hR l hok z hz0 hz, ?_, fun V e W h => ?_⟩
    · have := furs_len (l.drop 4).length (l.drop 4)
      have : (l.drop 4).length ≤ l.length := by rw [List.length_drop]; omega
      omega
    · rcases h with ⟨h1, _⟩ | ⟨_, a', n', c', h2, h3⟩
      · rw [hv] at h1; cases h1
      · obtain ⟨h4, og, h5, h6⟩ := h3.out
        obtain ⟨a9, c9, e9, _, _⟩ := h5.form
        injection e9 with e1 e2 e3
        subst e1 e2 e3
        exact ⟨_, _, h2, h4, (h5.slr rrOk).mono (fun _ h => h.elim)⟩
theorem ro_one (R : List By) : ∃ (L : List Rg) (N : Int) (B : Bool), ∀ V e W, RoA V R e W → ∃ a m c, e = .returned (.tuple #[.slice a m c, .int .i64 N, .bool B, .int .i64 (roE R : Int)]) ∧ Hid (Nw V W ∧ SlR RG (fun _ => False) (.slice a m c) L W) := by
  by_cases h0 : roE R = 0
  · refine ⟨rgL (rdO R 4 386 []).1, ((szN ((R.drop 483).take 12)).1 : Int), decide (R.getD 482 0 ≠ 0#8), fun V e W h => ?_⟩
    obtain ⟨a, m, c, B, N, h1, h2⟩ := h
    obtain ⟨k1, k2, _⟩ := h2.out
    obtain ⟨k3, k4, k5⟩ := k2 h0
    exact ⟨a, m, c, by rw [h1, k4, k5], k1, k3.slr⟩
  · refine ⟨[], 0, false, fun V e W h => ?_⟩
    obtain ⟨a, m, c, B, N, h1, h2⟩ := h
    obtain ⟨k1, _, k2⟩ := h2.out
    obtain ⟨k3, k4, k5, k6, k7⟩ := k2 h0
    exact ⟨a, m, c, by rw [h1, k6, k7], k1, .inl ⟨none, by rw [k3, k4, k5], rfl⟩⟩
theorem rm_one (R : List By) : ∃ (L : List Rg) (B : Bool), ∀ V e W, RmA V R e W → ∃ a m c, e = .returned (.tuple #[.slice a m c, .bool B, .int .i64 ((rdO R 21 0 []).2 : Int)]) ∧ Hid (Nw V W ∧ SlR RG (fun _ => False) (.slice a m c) L W) := by
  by_cases h0 : (rdO R 21 0 []).2 = 0
  · refine ⟨rgL (rdO R 21 0 []).1, decide (R.getD 504 0 ≠ 0#8), fun V e W h => ?_⟩
    obtain ⟨a, m, c, B, h1, h2⟩ := h
    obtain ⟨k1, k2, _⟩ := h2.out
    obtain ⟨k3, k4⟩ := k2 h0
    exact ⟨a, m, c, by rw [h1, k4], k1, k3.slr⟩
  · refine ⟨[], false, fun V e W h => ?_⟩
    obtain ⟨a, m, c, B, h1, h2⟩ := h
    obtain ⟨k1, _, k2⟩ := h2.out
    obtain ⟨k3, k4, k5, k6⟩ := k2 h0
    exact ⟨a, m, c, by rw [h1, k6], k1, .inl ⟨none, by rw [k3, k4, k5], rfl⟩⟩
theorem one493 : ∃ X1 : List By, X1.length = 512 ∧ X1[493]? = some 49#8 ∧ ∀ V e W, PoA V zrec [] 1 e W → ∃ a n c, e = .returned (.tuple #[.agg (rc X1), .slice a n c, .int .i64 0]) ∧ Hid (Nw V W) := by
  have hv : vld [] 1 = true := by decide
  refine ⟨fstR zrec [] 1, fstR_len zrec zrec_length [] (fun x h => by cases h) 1 (by omega) (by omega), by decide +kernel, fun V e W h => ?_⟩
  rcases h with ⟨h1, _⟩ | ⟨_, a, n, c, h2, h3⟩
  · rw [hv] at h1; cases h1
  · exact ⟨a, n, c, h2, h3.out.1⟩
/-- A record in the middle of a row. -/
theorem rr_at {a : Option Addr} {n c : Nat} {FS : List Rcd} {w : World} (h : SlR RR (fun _ => False) (.slice a n c) FS w) (i : Nat) (hi : i < FS.length) : ∃ g o, a = some ⟨g, o, none⟩ ∧ w.rangeAt g (o + i * 512) ((FS[i]'hi).1.map bv) := by
  obtain ⟨g, o, e, _, hc⟩ := h.at i FS[i] (List.getElem?_eq_getElem hi)
  exact ⟨g, o, e, fun j v hv => hc j v hv⟩
set_option maxHeartbeats 16000000 in
set_option maxRecDepth 100000 in
theorem olds_walk (w : World) (a : Option Addr) (n c : Nat) (b : List By) (hb : Old w (.slice a n c) b) (hn : n ≤ 140737488351232) (a2 : Option Addr) (n2 c2 : Nat) (l : List Rg) (hl : SlR RG (fun k => w.heap.size ≤ k) (.slice a2 n2 c2) l w) (hn2 : n2 ≤ 8796093022208) (z : Int) (hz : z ≤ 9223372036854775807) :
    Calls Tryd.prog 4 #[.slice a n c, .slice a2 n2 c2, .int .i64 z] w fun e w' => e = .returned (.bool true) ∧ Nw w w' := by
  obtain ⟨P, hP⟩ : ∃ P : Ending → World → Prop, P = fun e w' => e = .returned (.bool true) ∧ Nw w w' := ⟨_, rfl⟩
  rw [← hP]
  have HF : Hid (∀ V, Nw w V → P (.returned (.bool true)) V) := fun V hV => by rw [hP]; exact ⟨rfl, hV⟩
  clear hP
  obtain ⟨hbn, k1, k2⟩ := slx_len hb
  obtain ⟨hln, k3, k4⟩ := slg_len hl
  subst hbn hln
  obtain ⟨R, hR⟩ : ∃ R, rcOf b = R := ⟨_, rfl⟩
  have hRl : R.length = 512 := by rw [← hR]; unfold rcOf; exact rcB_length b _ (by omega) (by omega)
  have HRec : Hid (∀ V, Nw w V → Calls Tryd.prog 17 #[.slice a b.length c] V fun e w' => e = .returned (.agg (rc R)) ∧ Hid (Nw V w')) := fun V hV => by
    have t := record15_any V a c b ((hb.nw hV).mono (fun g h => by have := hV.size; show _ ≤ _; omega)) hn
    rw [hR] at t
    exact t
  obtain ⟨X, FS, E, hX, hFS, hpo⟩ := po_one R hRl l z hz
  have HL : Hid (∀ V, Nw w V → SlR RG (fun k => V.heap.size ≤ k) (.slice a2 l.length c2) l V) := fun V hV => (hl.nw hV).mono (fun g h => by have := hV.size; show _ ≤ _; omega)
  have HL2 : Hid (∀ V, Nw w V → SlR RG (fun _ => False) (.slice a2 l.length c2) l V) := fun V hV => (hl.nw hV).mono (fun _ h => h.elim)
  obtain ⟨gm, cm, W1, HA1, om, nm, hgm⟩ := copyG1 w (.slice a2 l.length c2) l (HL2.out w (Fr.refl _ _)) (by omega)
  have HP1 : Hid (∀ V, Nw W1 V → Calls Tryd.prog 16 #[.agg (rc R), .slice (some ⟨gm, 0, none⟩) l.length cm, .int .i64 z] V fun e W => ∃ a c, e = .returned (.tuple #[.agg (rc X), .slice a FS.length c, .int .i64 E]) ∧ Hid (Nw V W ∧ SlR RR (fun _ => False) (.slice a FS.length c) FS W)) := fun V hV => (putOld_any V R hRl l z hz _ _ _ (((om.nw hV).slr rgOk).mono (fun k hk => by have := om.lt; have := hV.size; omega))).mono (fun e W h => hpo V e W h)
  have HP2 : Hid (∀ V, Nw w V → Calls Tryd.prog 18 #[.agg (rc R), .slice a2 l.length c2, .int .i64 z] V fun e W => ∃ a c, e = .returned (.tuple #[.agg (rc X), .slice a FS.length c, .int .i64 E]) ∧ Hid (Nw V W ∧ SlR RR (fun _ => False) (.slice a FS.length c) FS W)) := fun V hV => (yputOld_any V R hRl l z hz _ _ _ (HL.out V hV)).mono (fun e W h => hpo V e W h)
  have HRG : Hid (∀ V, Nw W1 V → Calls Tryd.prog 12 #[.slice (some ⟨gm, 0, none⟩) l.length cm, .slice a2 l.length c2] V fun e w' => e = .returned (.bool true) ∧ Hid (Nw V w')) := fun V hV => by
    have := ranges_any V (.slice (some ⟨gm, 0, none⟩) l.length cm) (.slice a2 l.length c2) l l (X := fun _ => False) (((om.nw hV).slr rgOk).mono (fun _ h => h.elim)) (HL2.out V (nm.trans hV))
    rw [decide_eq_true rfl] at this
    exact this
  obtain ⟨L1, N1, B1, hro⟩ := ro_one R
  obtain ⟨L2, B2, hrm⟩ := rm_one R
  obtain ⟨E1, hE1⟩ : ∃ E1 : Int, (roE R : Int) = E1 := ⟨_, rfl⟩
  obtain ⟨E2, hE2⟩ : ∃ E2 : Int, ((rdO R 21 0 []).2 : Int) = E2 := ⟨_, rfl⟩
  rw [hE1] at hro
  rw [hE2] at hrm
  have HO1 : Hid (∀ V, Calls Tryd.prog 19 #[.agg (rc R)] V fun e W => ∃ a m c, e = .returned (.tuple #[.slice a m c, .int .i64 N1, .bool B1, .int .i64 E1]) ∧ Hid (Nw V W ∧ SlR RG (fun _ => False) (.slice a m c) L1 W)) := fun V => (readOld_any V R hRl).mono (fun e W h => hro V e W h)
  have HO2 : Hid (∀ V, Calls Tryd.prog 20 #[.agg (rc R)] V fun e W => ∃ a m c, e = .returned (.tuple #[.slice a m c, .int .i64 N1, .bool B1, .int .i64 E1]) ∧ Hid (Nw V W ∧ SlR RG (fun _ => False) (.slice a m c) L1 W)) := fun V => (yreadOld_any V R hRl).mono (fun e W h => hro V e W h)
  have HM1 : Hid (∀ V, Calls Tryd.prog 21 #[.agg (rc R)] V fun e W => ∃ a m c, e = .returned (.tuple #[.slice a m c, .bool B2, .int .i64 E2]) ∧ Hid (Nw V W ∧ SlR RG (fun _ => False) (.slice a m c) L2 W)) := fun V => (readMore_any V R hRl).mono (fun e W h => hrm V e W h)
  have HM2 : Hid (∀ V, Calls Tryd.prog 22 #[.agg (rc R)] V fun e W => ∃ a m c, e = .returned (.tuple #[.slice a m c, .bool B2, .int .i64 E2]) ∧ Hid (Nw V W ∧ SlR RG (fun _ => False) (.slice a m c) L2 W)) := fun V => (yreadMore_any V R hRl).mono (fun e W h => hrm V e W h)
  have HRC : Hid (∀ V va vb (L : List Rg), SlR RG (fun _ => False) va L V → SlR RG (fun _ => False) vb L V → Calls Tryd.prog 12 #[va, vb] V fun e w' => e = .returned (.bool true) ∧ Hid (Nw V w')) := fun V va vb L h1 h2 => by
    have := ranges_any V va vb L L h1 h2
    rw [decide_eq_true rfl] at this
    exact this
  obtain ⟨X1, hX1, h493, hpz⟩ := one493
  have HPZ : Hid (∀ V, Calls Tryd.prog 16 #[.agg Tryd.zeroCells36, .slice none 0 0, .int .i64 1] V fun e W => ∃ a n c, e = .returned (.tuple #[.agg (rc X1), .slice a n c, .int .i64 0]) ∧ Hid (Nw V W)) := fun V => by
    have := putOld_any V zrec zrec_length [] 1 (by omega) none 0 0 (.inl ⟨none, rfl, rfl⟩)
    rw [← zrec_rc] at this
    exact this.mono (fun e W h => hpz V e W h)
  have HIZ : Hid ((Tryd.prog.info? 36).map (·.size) = some (rc X1).size ∧ (Tryd.zeroCells36 : Array Value).size = (rc X1).size ∧ (rc X1).all (·.oneCell') = true) := rz15 X1 hX1
  have HSZ1 : Hid (∀ (V : World), ∃ W, (V.alloc (.cells Tryd.zeroCells36 36)).setRow V.heap.size (rc X1) = W ∧ (V.alloc (.cells Tryd.zeroCells36 36)).heap[V.heap.size]? = some (.cells Tryd.zeroCells36 36) ∧ W.cell? ⟨V.heap.size, 493, none⟩ = some (.int .u8 49) ∧ Hid (Nw V W)) := fun V => by
    have h0 := nHeap V (.cells Tryd.zeroCells36 36)
    have h1 : RcO V.heap.size X1 ((V.alloc (.cells Tryd.zeroCells36 36)).setRow V.heap.size (rc X1)) := setRow_heap _ _ _ _ 36 _ h0
    have h2 := h1.at 493 (by omega)
    have h3 : X1[493]'(by omega) = 49#8 := by
      have := List.getElem?_eq_getElem (l := X1) (i := 493) (by omega)
      rw [this] at h493
      exact Option.some.inj h493
    rw [h3] at h2
    exact ⟨_, rfl, h0, h2, ((Fr.refl _ _).alloc _).setRow _ _ (.inr (Nat.le_refl _))⟩
  clear hro hrm hpz h493
  have HZC : Hid ((Tryd.zeroCells36 : Array Value) = rc zrec) := zrec_rc
  have HIX : Hid ((Tryd.prog.info? 36).map (·.size) = some (rc X).size ∧ (Tryd.zeroCells36 : Array Value).size = (rc X).size ∧ (rc X).all (·.oneCell') = true) := rz15 X hX
  have HST : Hid (∀ (V : World), ∃ W, (V.alloc (.cells Tryd.zeroCells36 36)).setRow V.heap.size (rc X) = W ∧ (V.alloc (.cells Tryd.zeroCells36 36)).heap[V.heap.size]? = some (.cells Tryd.zeroCells36 36) ∧ Hid (Nw V W ∧ W.heap[V.heap.size]? = some (.cells (rc X) 36))) := fun V => by
    have h0 := nHeap V (.cells Tryd.zeroCells36 36)
    exact ⟨_, rfl, h0, ((Fr.refl _ _).alloc _).setRow _ _ (.inr (Nat.le_refl _)), setRow_heap _ _ _ _ 36 _ h0⟩
  have HN1 := tHid nm
  have heq := eql_rec X X hX hX
  rw [decide_eq_true rfl] at heq
  clear hb hl om nm hgm hpo
  obtain ⟨CX, hCX⟩ : ∃ CX, rc X = CX := ⟨_, rfl⟩
  have HCX := tHid hCX
  rw [hCX] at heq HP1 HP2 HIX HST
  clear hCX
  go_enter Tryd.func4, Tryd.ntmps4
  go_upto_region 2 with (first
    | (at_builtin; refine Lib.wpList_append_run _ rfl _ _ 22 22 rfl (.slice (some ⟨w.heap.size, 0, none⟩) 0 0) (.slice a2 l.length c2) (by first | rfl | simp [Act.eval]) (by first | rfl | simp [Act.eval]) _ _ (HA1.out _) ?_))
  go_upto_region 3 with (first
    | (go_at_call 17; with_reducible refine (HRec.out _ HN1.out).mono ?_; rintro e w2 ⟨rfl, H2⟩)
    | (go_at_call 16; with_reducible refine (HP1.out _ H2.out).mono ?_; rintro e w3 ⟨a3, c3, rfl, H3⟩; obtain ⟨W3, e3, h3, K3⟩ := HST.out w3; have HR3 := tHid h3)
    | (refine wpList_store_row rfl 36 _ _ rfl w3.heap.size CX (by first | rfl | simp [Act.eval]) (by first | rfl | simp [Act.eval]) 36 _ HR3.out HIX.out.1 HIX.out.2.1 HIX.out.2.2 ?_; rw [e3]))
  have HN3 := tHid (H2.out.trans (H3.out.1.trans K3.out.1))
  have HS3 := tHid (H3.out.2.nw K3.out.1)
  have HRow3 := tHid K3.out.2
  obtain ⟨xb, hxb⟩ : ∃ xb, w3.heap.size = xb := ⟨_, rfl⟩
  rw [hxb] at HRow3
  clear H2 H3 K3 e3 h3 HR3
  go_upto_region 4 with (first
    | (go_at_call 17; with_reducible refine (HRec.out _ (HN1.out.trans HN3.out)).mono ?_; rintro e w4 ⟨rfl, H4⟩)
    | (go_at_call 18; with_reducible refine (HP2.out _ (HN1.out.trans (HN3.out.trans H4.out))).mono ?_; rintro e w5 ⟨a5, c5, rfl, H5⟩; obtain ⟨W5, e5, h5, K5⟩ := HST.out w5; have HR5 := tHid h5)
    | (refine wpList_store_row rfl 36 _ _ rfl w5.heap.size CX (by first | rfl | simp [Act.eval]) (by first | rfl | simp [Act.eval]) 36 _ HR5.out HIX.out.1 HIX.out.2.1 HIX.out.2.2 ?_; rw [e5]))
  have hN35 := H4.out.trans (H5.out.1.trans K5.out.1)
  have HN5 := tHid (HN3.out.trans hN35)
  have HS3b := tHid (HS3.out.nw hN35)
  have HS5 := tHid (H5.out.2.nw K5.out.1)
  have HRowX : Hid (W5.heap[xb]? = some (.cells CX 36)) := Nw.heap hN35 HRow3.out
  have HRowY := tHid K5.out.2
  clear H4 H5 K5 e5 h5 HR5 hN35 HS3 HRow3 HN3
  go_cut [67] from 47 to 67 (fun v wx => v = .bool false ∧ Hid (Nw W5 wx))
  case first =>
    go_wp2_with (first
      | (refine wpList_load_row rfl 36 _ rfl _ rfl 36 _ (0, 0) _ (by first | exact HRowX.out | exact HRowY.out) Tryd.underlying36 rfl HIX.out.1 ?_)
      | (go_at_call 12; with_reducible refine (HRG.out _ HN5.out).mono ?_; rintro e w6 ⟨rfl, H6⟩))
    go_meet
    exact ⟨rfl, H6⟩
  case rest =>
  obtain ⟨rfl, HC6⟩ := hcut
  obtain ⟨w6, hw6⟩ : ∃ z, z = wc := ⟨_, rfl⟩
  subst hw6
  have HN6 := tHid (HN1.out.trans (HN5.out.trans HC6.out))
  have HSa := tHid (HS3b.out.nw HC6.out)
  have HSb := tHid (HS5.out.nw HC6.out)
  clear HC6 HS3b HS5 HN5 HRowX HRowY HIX heq HP1 HP2 HRG HST HCX HL HL2 HA1
  go_upto_region 6 with fail
  go_wp2_with fail
  go_loopg [14] FS.length (fun kx v wr => ∃ I : Nat, I ≤ FS.length ∧ FS.length ≤ I + kx ∧ v = .int .i64 (I : Int) ∧ Hid (Nw w6 wr))
  case atStart => exact ⟨0, by omega, by omega, rfl, Fr.refl _ _⟩
  case round =>
    obtain ⟨I, hI1, hkx, rfl, HI⟩ := hrel
    by_cases q1 : I < FS.length
    · have q1' : (I : Int) < (FS.length : Int) := by omega
      obtain ⟨ga, oa, ea, ra⟩ := rr_at (HSa.out.nw HI.out) I q1
      obtain ⟨gb, ob, eb, rb⟩ := rr_at (HSb.out.nw HI.out) I q1
      subst ea eb
      obtain ⟨CF, hCF⟩ : ∃ CF, (FS[I]'q1).1.map bv = CF := ⟨_, rfl⟩
      have heq2 := eql_rec (FS[I]'q1).1 (FS[I]'q1).1 (FS[I]'q1).2 (FS[I]'q1).2
      rw [decide_eq_true rfl] at heq2
      have hCA : rc (FS[I]'q1).1 = CF.toArray := by rw [← hCF]; rfl
      rw [hCA] at heq2
      rw [hCF] at ra rb
      have HCI : Hid ((Tryd.prog.info? 36).map (·.size) = some CF.length) := by
        have := rc_info (FS[I]'q1).1 (FS[I]'q1).2
        rw [hCA] at this
        exact this
      obtain ⟨pa, hpa⟩ : ∃ pa, oa + I * 512 = pa := ⟨_, rfl⟩
      obtain ⟨pb, hpb⟩ : ∃ pb, ob + I * 512 = pb := ⟨_, rfl⟩
      have hpa' : oa + 512 * I = pa := by omega
      have hpb' : ob + 512 * I = pb := by omega
      rw [hpa] at ra
      rw [hpb] at rb
      have HQa : Hid (wr.drew.rangeAt ga pa CF) := fun j v h => ra j v h
      have HQb : Hid (wr.drew.rangeAt gb pb CF) := fun j v h => rb j v h
      clear hCA hCF ra rb HSa HSb
      go_upto_region 9 with fail
      go_cut [82] from 74 to 82 (fun v wx => v = .bool false ∧ Hid (Nw wr wx))
      case first =>
          refine wp_region_held_drew (S := fun U => U.rangeAt ga pa CF ∧ U.rangeAt gb pb CF) (by kernel_rfl) ⟨HQa.out, HQb.out⟩ (fun hHeld => ?_)
          refine wpAnyH_take (i := 0) (oi := { dst := some 74, op := Op.move (Operand.tmp 9), type := 37, pos := "law.go:137", after := #[], guard := none }) (v := ?_) rfl (by kernel_rfl) (by kernel_rfl) (by kernel_rfl) (fun _ _ _ h => h) (Or.inl ⟨by rfl, ?_⟩) (by assumption) ?_
          rotate_left
          · intro U hSw; clear hSw; (go_simp <;> with_reducible rfl)
          try simp only [Act.put, List.setIfInBounds_toArray, List.set_cons_zero, List.set_cons_succ]
          refine wpAnyH_take (i := 1) (oi := { dst := some 75, op := Op.move (Operand.tmp 14), type := 3, pos := "law.go:137", after := #[], guard := none }) (v := ?_) rfl (by kernel_rfl) (by kernel_rfl) (by kernel_rfl) (fun _ _ _ h => h) (Or.inl ⟨by rfl, ?_⟩) (by assumption) ?_
          rotate_left
          · intro U hSw; clear hSw; (go_simp <;> with_reducible rfl)
          try simp only [Act.put, List.setIfInBounds_toArray, List.set_cons_zero, List.set_cons_succ]
          refine wpAnyH_take (i := 2) (oi := { dst := some 76, op := Op.indexAddr 37 (Operand.tmp 74) (Operand.tmp 75), type := 0, pos := "law.go:137", after := #[{ on := 0, ground := Ground.data }, { on := 1, ground := Ground.data }], guard := none }) (v := ?_) rfl (by kernel_rfl) (by kernel_rfl) (by kernel_rfl) (fun _ _ _ h => h) (Or.inl ⟨by rfl, ?_⟩) (by assumption) ?_
          rotate_left
          · intro U hSw; clear hSw; (go_simp <;> with_reducible rfl)
          try simp only [Act.put, List.setIfInBounds_toArray, List.set_cons_zero, List.set_cons_succ]
          refine wpAnyH_take (i := 3) (oi := { dst := some 77, op := Op.load 36 (Operand.tmp 76), type := 36, pos := "law.go:137", after := #[{ on := 2, ground := Ground.data }], guard := none }) (v := .agg CF.toArray) rfl (by kernel_rfl) (by kernel_rfl) (by kernel_rfl) (fun _ _ _ h => h) (yieldsIf_load_mid (by rfl) _ _ rfl ga pa rfl CF _ (fun U hU => hU.1) Tryd.underlying36 rfl HCI.out) (by assumption) ?_
          try simp only [Act.put, List.setIfInBounds_toArray, List.set_cons_zero, List.set_cons_succ]
          refine wpAnyH_take (i := 4) (oi := { dst := some 78, op := Op.move (Operand.tmp 12), type := 37, pos := "law.go:137", after := #[], guard := none }) (v := ?_) rfl (by kernel_rfl) (by kernel_rfl) (by kernel_rfl) (fun _ _ _ h => h) (Or.inl ⟨by rfl, ?_⟩) (by assumption) ?_
          rotate_left
          · intro U hSw; clear hSw; (go_simp <;> with_reducible rfl)
          try simp only [Act.put, List.setIfInBounds_toArray, List.set_cons_zero, List.set_cons_succ]
          refine wpAnyH_take (i := 5) (oi := { dst := some 79, op := Op.move (Operand.tmp 14), type := 3, pos := "law.go:137", after := #[], guard := none }) (v := ?_) rfl (by kernel_rfl) (by kernel_rfl) (by kernel_rfl) (fun _ _ _ h => h) (Or.inl ⟨by rfl, ?_⟩) (by assumption) ?_
          rotate_left
          · intro U hSw; clear hSw; (go_simp <;> with_reducible rfl)
          try simp only [Act.put, List.setIfInBounds_toArray, List.set_cons_zero, List.set_cons_succ]
          refine wpAnyH_take (i := 6) (oi := { dst := some 80, op := Op.indexAddr 37 (Operand.tmp 78) (Operand.tmp 79), type := 0, pos := "law.go:137", after := #[{ on := 4, ground := Ground.data }, { on := 5, ground := Ground.data }], guard := none }) (v := ?_) rfl (by kernel_rfl) (by kernel_rfl) (by kernel_rfl) (fun _ _ _ h => h) (Or.inl ⟨by rfl, ?_⟩) (by assumption) ?_
          rotate_left
          · intro U hSw; clear hSw; (go_simp <;> with_reducible rfl)
          try simp only [Act.put, List.setIfInBounds_toArray, List.set_cons_zero, List.set_cons_succ]
          refine wpAnyH_take (i := 7) (oi := { dst := some 81, op := Op.load 36 (Operand.tmp 80), type := 36, pos := "law.go:137", after := #[{ on := 6, ground := Ground.data }], guard := none }) (v := .agg CF.toArray) rfl (by kernel_rfl) (by kernel_rfl) (by kernel_rfl) (fun _ _ _ h => h) (yieldsIf_load_mid (by rfl) _ _ rfl gb pb rfl CF _ (fun U hU => hU.2) Tryd.underlying36 rfl HCI.out) (by assumption) ?_
          try simp only [Act.put, List.setIfInBounds_toArray, List.set_cons_zero, List.set_cons_succ]
          refine wpAnyH_take (i := 8) (oi := { dst := some 82, op := Op.binOp BinOp.neq 36 (Operand.tmp 77) (Operand.tmp 81) 36, type := 4, pos := "law.go:137", after := #[{ on := 3, ground := Ground.data }, { on := 7, ground := Ground.data }], guard := none }) (v := ?_) rfl (by kernel_rfl) (by kernel_rfl) (by kernel_rfl) (fun _ _ _ h => h) (Or.inl ⟨by rfl, ?_⟩) (by assumption) ?_
          rotate_left
          · intro U hSw; clear hSw; (go_simp <;> with_reducible rfl)
          try simp only [Act.put, List.setIfInBounds_toArray, List.set_cons_zero, List.set_cons_succ]
          refine wpAnyH_done (by kernel_rfl) ?_ _
          go_wp2_with fail
          go_meet
          exact ⟨rfl, (Fr.refl _ _).drew⟩
      case rest =>
      obtain ⟨rfl, HC9⟩ := hcut
      have HNX := tHid (HI.out.trans HC9.out)
      go_wp2_with fail
      go_roundg (FS.length - (I + 1))
      case measure => omega
      case rel => exact ⟨I + 1, by omega, by omega, by first | rfl | (congr 1), HNX⟩
    · have q1' : ¬ (I : Int) < (FS.length : Int) := by omega
      have HN7 := tHid (HN6.out.trans HI.out)
      obtain ⟨wA, hwA⟩ : ∃ z, z = wr := ⟨_, rfl⟩
      subst hwA
      clear HI HSa HSb HN6
      go_upto_region 12 with (first
        | (go_at_call 17; with_reducible refine (HRec.out _ HN7.out).mono ?_; rintro e w7 ⟨rfl, H7⟩)
        | (go_at_call 19; with_reducible refine (HO1.out _).mono ?_; rintro e w8 ⟨a8, n8, c8, rfl, H8⟩))
      have HN8 := tHid (HN7.out.trans (H7.out.trans H8.out.1))
      have HS8 := tHid H8.out.2
      clear H7 H8 HN7
      go_upto_region 13 with (first
        | (go_at_call 17; with_reducible refine (HRec.out _ HN8.out).mono ?_; rintro e w9 ⟨rfl, H9⟩)
        | (go_at_call 20; with_reducible refine (HO2.out _).mono ?_; rintro e wB ⟨aB, nB, cB, rfl, HB⟩))
      have HN9 := tHid (HN8.out.trans (H9.out.trans HB.out.1))
      have HS9 := tHid HB.out.2
      have HS8b := tHid (HS8.out.nw (H9.out.trans HB.out.1))
      clear H9 HB HN8 HS8
      go_upto_region 15 with (first
        | (go_at_call 12; with_reducible refine (HRC.out _ _ _ _ HS8b.out HS9.out).mono ?_; rintro e wC ⟨rfl, HC⟩))
      have HNC := tHid (HN9.out.trans HC.out)
      clear HC HN9 HS9 HS8b
      go_upto_region 16 with (first
        | (go_at_call 17; with_reducible refine (HRec.out _ HNC.out).mono ?_; rintro e wD ⟨rfl, HD⟩)
        | (go_at_call 21; with_reducible refine (HM1.out _).mono ?_; rintro e wE ⟨aE, nE, cE, rfl, HE⟩))
      have HNE := tHid (HNC.out.trans (HD.out.trans HE.out.1))
      have HSE := tHid HE.out.2
      clear HD HE HNC
      go_upto_region 17 with (first
        | (go_at_call 17; with_reducible refine (HRec.out _ HNE.out).mono ?_; rintro e wG ⟨rfl, HG⟩)
        | (go_at_call 22; with_reducible refine (HM2.out _).mono ?_; rintro e wH ⟨aH, nH, cH, rfl, HH⟩))
      have HNH := tHid (HNE.out.trans (HG.out.trans HH.out.1))
      have HSH := tHid HH.out.2
      have HSEb := tHid (HSE.out.nw (HG.out.trans HH.out.1))
      clear HG HH HNE HSE
      go_upto_region 19 with (first
        | (go_at_call 12; with_reducible refine (HRC.out _ _ _ _ HSEb.out HSH.out).mono ?_; rintro e wJ ⟨rfl, HJ⟩))
      have HNJ := tHid (HNH.out.trans HJ.out)
      clear HJ HNH HSH HSEb
      go_upto_region 20 with (first
        | (go_at_call 16; with_reducible refine (HPZ.out _).mono ?_; rintro e wK ⟨aK, nK, cK, rfl, HK⟩; obtain ⟨WL, eL, hL, hcl, HL⟩ := HSZ1.out wK; have HRL := tHid hL)
        | (refine wpList_store_row rfl 36 _ _ rfl wK.heap.size (rc X1) (by first | rfl | simp [Act.eval]) (by first | rfl | simp [Act.eval]) 36 _ HRL.out HIZ.out.1 HIZ.out.2.1 HIZ.out.2.2 ?_; rw [eL]))
      have HEND := tHid (HF.out WL (HNJ.out.trans (HK.out.trans HL.out)))
      obtain ⟨zb, hzb⟩ : ∃ zb, wK.heap.size = zb := ⟨_, rfl⟩
      rw [hzb] at hcl
      clear HK HL eL hL HRL
      go_wp2_with fail
      exact HEND.out
end Go.Proofs.YtffhpoilifgcdaaDoor

import Derived.Test.YtfmghmidklpdaaaPxA
namespace Go.Proofs.Ytfmghmidklpdaaa
open Go.RowKit
set_option linter.unusedVariables false
theorem split_a (V : World) : Calls Try.prog 9 #[.string ⟨#[97]⟩] V fun e w' => ∃ a c, e = .returned (.tuple #[.slice a 1 c, .int .i64 0]) ∧ Hid (Nw V w') := by
  refine (psplit_any V [97] (by simp)).mono ?_
  rintro e w' ⟨a, n, c, rfl, h⟩
  have h1 : splE [97] = 0 ∧ (splF [97]).1.length = 1 := by decide
  have hn := h.len.1
  rw [h1.2] at hn
  subst hn
  obtain ⟨og, k1, k2, k3⟩ := h
  exact ⟨a, c, by rw [h1.1]; rfl, k3⟩
/-- An append behind a guard that is met. -/
theorem wpList_append_g {P : Program} (w : World) {ops : Array Oper} {rest : List Oper} {o : Oper} {a : Act} {Q : Exit → Act → World → Prop} (hgd : Region.wanted o (yielded ops a.tmps) = true) (s x : Operand) (t tn : TypeId)
    (ho : o.op = .call { callee := .builtin .append, args := #[s, x], argTypes := #[t, tn] }) (vs vx : Value) (hs : a.eval s = vs) (hx : a.eval x = vx)
    (v' : Value) (w' : World) (hr : (Builtin.append_ #[t, tn] o.type #[vs, vx]).run P w = .ok v' w') (h : wpList P ops Q rest (a.put o.dst v') w') : wpList P ops Q (o :: rest) a w :=
  wpList_step fun K hK => by rw [if_pos hgd]; exact Lib.wp_append_run w s x t tn ho vs vx hs hx v' w' hr (hK _ _ h)
namespace pathSafe
set_option maxHeartbeats 16000000 in
set_option maxRecDepth 100000 in
theorem walk (w : World) (l : Tx) (a1 : Option Addr) (c1 : Nat) (d : List Tx) (hl : l.length ≤ 140737488351232) (h1 : OldS w (.slice a1 d.length c1) d) (hd : d.length ≤ 8796093022208) :
    Calls Try.prog 6 #[.string (mk l), .slice a1 d.length c1] w fun e w' => e = .returned (.bool true) ∧ Nw w w' := by
  obtain ⟨P, hP⟩ : ∃ P : Ending → World → Prop, P = fun e w' => e = .returned (.bool true) ∧ Nw w w' := ⟨_, rfl⟩
  rw [← hP]
  have HF : Hid (∀ V, Nw w V → P (.returned (.bool true)) V) := fun V hV => by rw [hP]; exact ⟨rfl, hV⟩
  have HT : Hid (∀ V V' V'', Nw w V → Nw V V' → Nw V' V'' → Nw w V'') := fun _ _ _ h k m => (h.trans k).trans m
  clear hP
  by_cases h : splE l = 0
  · have hz := (splE_zero l).1 h
    have hpt := spl_parts h
    have hft := spl_ft h
    have hjs := jn_split hft
    have hjl := ((splE_zero _).1 hjs).1
    have hn0 : 0 < (cps l).length := List.length_pos_iff.2 hz.2.2.2.2.1
    have hn256 := hz.2.2.2.2.2.2
    obtain ⟨N, hN⟩ : ∃ N, N = (cps l).length := ⟨_, rfl⟩
    have HS : Hid (Calls Try.prog 9 #[.string (mk l)] w fun e w' => ∃ a c, e = .returned (.tuple #[.slice a N c, .int .i64 0]) ∧ N ≤ c ∧ c < 9223372036854775808 ∧ Hid (SlR RS (fun _ => False) (.slice a N c) (cps l) w' ∧ Nw w w')) := by
      show Calls _ _ _ _ _
      refine (psplit_any w l hl).mono ?_
      rintro e w' ⟨a, n, c, rfl, hS⟩
      obtain ⟨q0, q1, q2⟩ := hS.len
      rw [splF_ok h, ← hN] at q0
      subst q0
      obtain ⟨og, k1, k2, k3⟩ := hS
      rw [splF_ok h] at k1
      exact ⟨a, c, by rw [h]; rfl, q1, q2, (k1.slr rsOk).any, k3⟩
    obtain ⟨ps, hps⟩ : ∃ ps, ps = cps l := ⟨_, rfl⟩
    rw [← hps] at HS hpt hft hN hjs hjl hn0 hn256
    have HPT : Hid ((∀ p ∈ ps, ptF p = 0) ∧ N = ps.length) := ⟨hpt, hN⟩
    have HJ : Hid (∀ V v, SlR RS (fun _ => False) v ps V → Calls Try.prog 15 #[v] V fun e w' => e = .returned (.tuple #[.string (mk (jn ps)), .int .i64 0]) ∧ Hid (Nw V w')) := fun V v hv => by
      refine (pjoin_any V v ps hv (fun p hp => by have := ((ptF_zero p).1 (hpt p hp)).2.2.2.2; omega) (by omega)).mono ?_
      rintro e w' ⟨rfl, k⟩
      refine ⟨?_, k⟩
      unfold joinF
      rw [if_pos hft, hft]; rfl
    have HLV : Hid (∀ V a c, Calls Try.prog 25 #[.slice a d.length c, .string (mk (jn ps))] V fun e w' => e = .returned (.bool false) ∧ Hid (Nw V w')) := fun V a c => by
      refine (pleaves_any V a d.length c (jn ps) (by omega) (by omega)).mono ?_
      rintro e w' ⟨rfl, k⟩
      rw [lv_safe hft]
      exact ⟨rfl, k⟩
    have HS2 : Hid (∀ V, Calls Try.prog 9 #[.string (mk (jn ps))] V fun e w' => ∃ a n c, e = .returned (.tuple #[.slice a n c, .int .i64 0]) ∧ Hid (SlR RS (fun _ => False) (.slice a n c) ps w' ∧ Nw V w')) := fun V => by
      refine (psplit_any V (jn ps) (by omega)).mono ?_
      rintro e w' ⟨a, n, c, rfl, og, k1, k2, k3⟩
      rw [splF_ok hjs, jn_cps hft] at k1
      exact ⟨a, n, c, by rw [hjs]; rfl, (k1.slr rsOk).any, k3⟩
    have HSM : Hid (∀ V v u, SlR RS (fun _ => False) v ps V → SlR RS (fun _ => False) u ps V → Calls Try.prog 13 #[v, u] V fun e w' => e = .returned (.bool true) ∧ Hid (Nw V w')) := fun V v u k1 k2 => (usame_any V v u ps ps k1 k2).mono (fun e w' ⟨e1, e2⟩ => ⟨by rw [e1, decide_eq_true rfl], e2⟩)
    have HD : Hid (OldS w (.slice a1 d.length c1) d ∧ d.length ≤ 8796093022208) := ⟨h1, hd⟩
    have y0 : ¬ (N : Int) < 1 := by omega
    have y1 : ¬ (256 : Int) < (N : Int) := by omega
    have y2 : decide ((N : Int) < 1) = false := decide_eq_false y0
    have y4 : ¬ N < 1 := by omega
    have y5 : decide (N < 1) = false := decide_eq_false y4
    have hN256 : N ≤ 256 := by omega
    clear hz hpt hft hjs hjl hps hN hn0 hn256 h h1 hl hd
    obtain ⟨DL, hDL⟩ : ∃ DL, DL = d.length := ⟨_, rfl⟩
    rw [← hDL] at HLV HD ⊢
    have HDL : Hid (DL = d.length) := hDL
    clear hDL
    obtain ⟨J, hJ⟩ : ∃ J, J = mk (jn ps) := ⟨_, rfl⟩
    rw [← hJ] at HJ HLV HS2
    clear hJ
    generalize mk l = s at *
    go_enter Try.func6, Try.ntmps6
    go_wp2_with (first
      | (go_at_call 9; with_reducible refine HS.out.mono ?_; rintro e w1 ⟨a, c, rfl, q1, q2, H1⟩))
    clear HS
    go_loopg [9] N (fun kx i wr => ∃ (I : Nat), I ≤ N ∧ N - I ≤ kx ∧ i = .int .i64 I ∧ wr = w1)
    case atStart => exact ⟨0, by omega, by omega, rfl, rfl⟩
    case round =>
      obtain ⟨I, hI, hkx, rfl, rfl⟩ := hrel
      by_cases hlt : I < N
      · have hlt' : I < ps.length := by have := HPT.out.2; omega
        obtain ⟨g1, o1, rfl, _, hcell⟩ := rs_at H1.out.1 I hlt'
        obtain ⟨e1, e2, e3, e4, e5⟩ := (ptF_zero _).1 (HPT.out.1 _ (List.getElem_mem hlt'))
        have hs := stays_dec ps[I]
        rw [e1] at hs
        have hs' := hs.symm
        rw [Bool.or_eq_false_iff] at hs'
        have t1 := tx_eq ps[I] [46, 46]
        have t2 := tx_eq ps[I] []
        have t3 := tx_eq ps[I] [46]
        rw [decide_eq_false e2] at t1
        rw [hs'.1] at t2
        rw [hs'.2] at t3
        have hsz := mk_size ps[I]
        have HG : Hid (∀ i (hi : i < ps[I].length) (h : i < (mk ps[I]).size), ((mk ps[I])[i]'h) = (ps[I])[i]'hi) := mk_get ps[I]
        have HE : Hid ((0 : UInt8) ∉ ps[I] ∧ (47 : UInt8) ∉ ps[I] ∧ (mk ps[I]).size = ps[I].length) := ⟨e3, e4, hsz⟩
        have z1 : (mk ps[I]).size ≤ 255 := by omega
        have z2 : ¬ (255 : Int) < ((mk ps[I]).size : Int) := by omega
        have z3 : ¬ 255 < (mk ps[I]).size := by omega
        clear e1 e2 e3 e4 e5 hs hs' hsz HPT HJ HLV HS2 HSM HD HF HT
        obtain ⟨p, hp⟩ : ∃ p, p = ps[I] := ⟨_, rfl⟩
        rw [← hp] at hcell t1 t2 t3 HE z1 z2 z3
        have HG' : Hid (∀ i (hi : i < p.length) (h : i < (mk p).size), ((mk p)[i]'h) = p[i]'hi) := by subst hp; exact HG
        clear HG hp
        have hsl : Hid ((mk p).size = p.length) := HE.out.2.2
        generalize hy : mk p = y at *
        clear hy
        go_wp2_with fail
        go_loopg [10] y.size (fun kx i wq => ∃ (K : Nat), K ≤ y.size ∧ y.size - K ≤ kx ∧ i = .int .i64 K ∧ wq = wr)
        case atStart => exact ⟨0, by omega, by omega, rfl, rfl⟩
        case round =>
          obtain ⟨K, hK, hkx2, rfl, rfl⟩ := hrel
          by_cases hlt2 : K < y.size
          · have hK' : K < p.length := by have := hsl.out; omega
            have hgx : ∀ h : K < y.size, (y[K]'h).toNat = (p[K]'hK').toNat := fun h => by rw [HG'.out K hK' h]
            have hm := List.getElem_mem hK'
            have x1 : (((p[K]'hK').toNat : Int) == 47) = false := by
              rw [beq_eq_false_iff_ne]
              intro e
              apply HE.out.2.1
              have : (p[K]'hK') = 47 := UInt8.toNat_inj.1 (by show _ = 47; omega)
              rw [← this]; exact hm
            have x2 : (((p[K]'hK').toNat : Int) == 0) = false := by
              rw [beq_eq_false_iff_ne]
              intro e
              apply HE.out.1
              have : (p[K]'hK') = 0 := UInt8.toNat_inj.1 (by show _ = 0; omega)
              rw [← this]; exact hm
            clear hm HE HG' hsl
            generalize (p[K]'hK').toNat = x at *
            go_wp2_with fail
            go_roundg (y.size - (K + 1))
            case measure => omega
            case rel => exact ⟨K + 1, by omega, by omega, by first | rfl | (congr 1), rfl⟩
          · clear HE HG' hsl
            go_wp2_with fail
            go_roundg (N - (I + 1))
            case measure => omega
            case rel => exact ⟨I + 1, by omega, by omega, by first | rfl | (congr 1), rfl⟩
      · clear HPT
        have HJ1 := tHid (HJ.out wr _ H1.out.1)
        have hw1 := H1.out.2
        have HSL := tHid H1.out.1
        have HW1 := tHid hw1
        clear hw1 HJ H1
        go_upto_region 18 with (first
          | (go_at_call 15; with_reducible refine HJ1.out.mono ?_; rintro e w2 ⟨rfl, H2⟩))
        have hN2 : Nw w w2 := HW1.out.trans H2.out
        have hcp : ∃ g c W, Hid (∀ ty, (Builtin.append_ #[22, 22] ty #[.slice (some ⟨w2.heap.size, 0, none⟩) 0 0, .slice a1 DL c1]).run Try.prog (w2.alloc (.cells #[] 9)) = .ok (.slice (some ⟨g, 0, none⟩) DL c) W) ∧ Hid (Nw w2 W) := by
          obtain ⟨h1, hd⟩ := HD.out
          have h1' : SlR RS (fun _ => False) (.slice a1 DL c1) d w2 := h1.any.nw hN2
          obtain ⟨g, c, W, k1, k2, k3, k4⟩ := copyS w2 _ d h1' (by rw [← HDL.out]; exact hd)
          rw [← HDL.out] at k1
          exact ⟨g, c, W, k1, k3⟩
        obtain ⟨gd, cd, W3, HA3, HN3⟩ := hcp
        have HL3 := tHid (HLV.out W3 (some ⟨gd, 0, none⟩) cd)
        have HN2 := tHid hN2
        clear hN2 HLV HD HJ1
        go_upto_region 21 with (first
          | (at_builtin; refine wpList_append_g _ rfl _ _ 22 22 rfl (.slice (some ⟨w2.heap.size, 0, none⟩) 0 0) (.slice a1 DL c1) (by simp [Act.eval]) (by simp [Act.eval]) _ _ (HA3.out _) ?_)
          | (go_at_call 25; with_reducible refine HL3.out.mono ?_; rintro e w4 ⟨rfl, H4⟩)
          | (go_at_call 9; with_reducible refine (HS2.out w4).mono ?_; rintro e w5 ⟨a5, n5, c5, rfl, H5⟩))
        have hN25 : Nw w2 w5 := (HN3.out.trans H4.out).trans H5.out.2
        have HM := tHid (HSM.out w5 _ _ H5.out.1 ((HSL.out.nw H2.out).nw hN25))
        have HN5 : Hid (Nw w w5) := HN2.out.trans hN25
        have HFF : Hid (∀ V, Nw w5 V → P (.returned (.bool true)) V) := fun V hV => HF.out V (HN5.out.trans hV)
        clear hN25 HSM H5 H4 HN3 HSL H2 HF
        go_wp2_with (first
          | (go_at_call 13; with_reducible refine HM.out.mono ?_; rintro e w6 ⟨rfl, H6⟩))
        exact HFF.out _ H6.out
  · have HA := tHid split_a
    have HS : Hid (Calls Try.prog 9 #[.string (mk l)] w fun e w' => ∃ a c, e = .returned (.tuple #[.slice a 0 c, .int .i64 ((splE l : Nat) : Int)]) ∧ Hid (Nw w w')) := by
      show Calls _ _ _ _ _
      refine (psplit_any w l hl).mono ?_
      rintro e w' ⟨a, n, c, rfl, hS⟩
      have hn := hS.len.1
      rw [splF_bad h] at hn
      have hn' : n = 0 := hn.symm
      subst hn'
      obtain ⟨og, k1, k2, k3⟩ := hS
      exact ⟨a, c, rfl, k3⟩
    have ha1 : (((splE l : Nat) : Int) == 0) = false := by rw [beq_eq_false_iff_ne]; omega
    have ha2 : ¬ ((splE l : Nat) : Int) = 0 := by omega
    clear h h1 hd hl
    generalize splE l = X at *
    generalize mk l = s at *
    go_enter Try.func6, Try.ntmps6
    go_wp2_with (first
      | (go_at_call 9; with_reducible refine HS.out.mono ?_; rintro e w1 ⟨a, c, rfl, H1⟩)
      | (go_at_call 9; with_reducible refine (HA.out w1).mono ?_; rintro e w2 ⟨a2, c2, rfl, H2⟩))
    exact HF.out _ (H1.out.trans H2.out)
end pathSafe
end Go.Proofs.Ytfmghmidklpdaaa

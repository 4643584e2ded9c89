import Derived.Test.YtkpkiajehclbhaaVbk
namespace Go.Proofs.Ytkpkiajehclbhaa
open Go.RowKit
set_option linter.unusedVariables false
/-- The numbers of symbols. -/
def nums (os : List Int) (ys : List Nat) : List Nat := ys.map (fun y => (kof os y).toNat)
structure NsI (os : List Int) (ys : List Nat) : Prop where
  lt : ∀ y ∈ ys, y < os.length
  nn : ∀ y ∈ ys, 0 ≤ kof os y ∧ kof os y ≤ 1099511627776
theorem nums_at (os : List Int) (ys : List Nat) (hn : NsI os ys) (J : Nat) (hJ : J < ys.length) : ∃ y, y < os.length ∧ ys.getD J 0 = y ∧ kof os y = ((nums os ys).getD J 0 : Nat) ∧ (nums os ys).getD J 0 ≤ 1099511627776 ∧ (nums os ys).drop J = (nums os ys).getD J 0 :: (nums os ys).drop (J + 1) := by
  have hm := mem_getD hJ
  have hl : J < (nums os ys).length := by simp [nums]; exact hJ
  have e : (nums os ys).getD J 0 = (kof os (ys.getD J 0)).toNat := by
    rw [getD_eq _ J hl, getD_eq _ J hJ]; simp [nums]
  have h2 := hn.nn _ hm
  refine ⟨_, hn.lt _ hm, rfl, by rw [e]; omega, by rw [e]; omega, ?_⟩
  rw [getD_eq _ J hl]
  exact List.drop_eq_getElem_cons hl
set_option maxHeartbeats 32000000 in
set_option maxRecDepth 100000 in
theorem merged_any (w : World) (vo vs vp : Value) (os : List Int) (ys ps : List Nat) (h0 : SlR RL (fun k => w.heap.size ≤ k) vo os w) (h1 : SlR RI (fun k => w.heap.size ≤ k) vs (toI ys) w) (h2 : SlR RC (fun k => w.heap.size ≤ k) vp (prs ps) w) (hn : NsI os ys) (hol : os.length ≤ 320) (hyl : ys.length ≤ 320) (hpl : ps.length ≤ 1000) (hpb : ∀ p ∈ ps, p ≤ 72057594037927936) : Calls Try.prog 65 #[vo, vs, vp] w (OwnC (mg (nums os ys) ps) w) := by
  obtain ⟨P, hP⟩ : ∃ P : Ending → World → Prop, P = OwnC (mg (nums os ys) ps) w := ⟨_, rfl⟩
  rw [← hP]
  have HP : Hid (P = OwnC (mg (nums os ys) ps) w) := hP
  have HO : Hid (∀ V, Nw w V → SlR RL (fun k => w.heap.size ≤ k) vo os V) := fun V hV => h0.nw hV
  have HY : Hid (∀ V, Nw w V → SlR RI (fun k => w.heap.size ≤ k) vs (toI ys) V) := fun V hV => h1.nw hV
  have HNs : Hid (NsI os ys) := hn
  have HPb : Hid (∀ p ∈ ps, p ≤ 72057594037927936) := hpb
  have hcl : (nums os ys).length = ys.length := by simp [nums]
  obtain ⟨ao, co, rfl, hco, hco2, _⟩ := h0.form
  obtain ⟨ay, cy, rfl, hcy, hcy2, _⟩ := h1.form
  obtain ⟨ap, cp, rfl, hcp, hcp2, _⟩ := h2.form
  rw [toI_length] at *
  have hpsl : (prs ps).length = ps.length := by simp [prs]
  have h2' : SlR RC (fun k => w.heap.size ≤ k) (.slice ap ps.length cp) (prs ps) w := by rw [hpsl] at h2; exact h2
  rw [hpsl] at hcp
  rw [hpsl]
  obtain ⟨M, hM⟩ : ∃ M, ys.length + ps.length = M := ⟨_, rfl⟩
  have hMi : (ys.length : Int) + (ps.length : Int) = (M : Int) := by omega
  obtain ⟨W0, HMk, ⟨xs0, e1, e2, e3, e4, e5⟩, hN0, hs0⟩ := OwR.made rcOk w 0 M (by omega) (by simp only [RC]; omega) (by omega)
  have HMk2 : Hid ((Instr.makeSlice 113 (.int .i64 0) (.int .i64 M)).run Try.prog w = .ok (.slice (some ⟨w.heap.size, 0, none⟩) 0 M) W0) := HMk
  have HI0 : Hid (∃ rest, MgI w (nums os ys) ps 0 w.heap.size 0 M ap ps.length cp rest W0) := ⟨ps, [], rfl, ⟨xs0, by simpa using e1, by simp, by simp, e4, e5⟩, by simp, rfl, h2'.nw hN0, Nat.le_refl _, hN0, fun p hp => hp⟩
  clear HMk e1 e2 e3 e4 e5 hN0 hs0 hP h0 h1 h2 h2' hn hpb hpsl
  generalize hL : ys.length = L at *
  have HL : Hid (ys.length = L) := hL
  clear hL
  generalize hLp : ps.length = Lp at *
  have HLp : Hid (ps.length = Lp) := hLp
  clear hLp
  generalize hLo : os.length = Lo at *
  have HLo : Hid (os.length = Lo) := hLo
  clear hLo
  generalize hB0 : w.heap.size = B0 at *
  have HB0 : Hid (w.heap.size = B0) := hB0
  clear hB0
  go_enter Try.func65, Try.ntmps65
  go_wp2_with (first | (at_make; refine wpL_mk rfl _ _ 113 rfl (0 : Int) (M : Int) (by simp [Act.eval]) (by simp [Act.eval]) HMk2.out ?_))
  go_loopg [2, 7, 18] L (fun kx pp l i wr => ∃ (J g d cc n c : Nat) (a : Option Addr), J ≤ L ∧ L - J ≤ kx ∧ pp = .slice a n c ∧ l = .slice (some ⟨g, 0, none⟩) d cc ∧ i = .int .i64 J ∧ Hid (∃ rest, MgI w (nums os ys) ps J g d cc a n c rest wr))
  case atStart => exact ⟨0, B0, 0, M, Lp, cp, ap, by omega, by omega, rfl, rfl, rfl, HI0⟩
  case round =>
    clear HI0 HMk2
    obtain ⟨J, g, d, cc, n, c, a, hJ, hkx, rfl, rfl, rfl, HI⟩ := hrel
    by_cases hlt : J < L
    · have hz : (J : Int) < (L : Int) := by omega
      obtain ⟨y, hy1, hy2, hy3, hy4, hy5⟩ := nums_at os ys HNs.out J (by rw [HL.out]; exact hlt)
      have hNr : Nw w wr := by
        obtain ⟨rest, hr⟩ := HI.out
        exact hr.nw
      have hyi := toI_at ys J (by rw [HL.out]; exact hlt)
      rw [hy2] at hyi
      obtain ⟨gy, oy, rfl, _, ky⟩ := ri_at (HY.out wr hNr) J _ hyi
      rw [HLo.out] at hy1
      have hyL : (y : Int) < (Lo : Int) := by omega
      obtain ⟨C, hC⟩ : ∃ C, (nums os ys).getD J 0 = C := ⟨_, rfl⟩
      rw [hC] at hy3 hy4 hy5
      have HOc : Hid (∀ V, Nw w V → ∃ go oo, ao = some ⟨go, oo, none⟩ ∧ V.cell? ⟨go, oo + y, none⟩ = some (.int .i64 (C : Nat))) := fun V hV => by
        obtain ⟨go, oo, e, _, k⟩ := rl_at (HO.out V hV) y _ (kof_at os y (by rw [HLo.out]; exact hy1))
        rw [hy3] at k
        exact ⟨go, oo, e, k⟩
      have HY5 : Hid ((nums os ys).drop J = C :: (nums os ys).drop (J + 1)) := hy5
      clear hNr hyi hC hy3 hy5 HO HY HNs
      go_wp2_with fail
      go_loopg [2, 7] (n + 1) (fun kx pp l wr => ∃ (g d cc n c : Nat) (a : Option Addr), n < kx ∧ pp = .slice a n c ∧ l = .slice (some ⟨g, 0, none⟩) d cc ∧ Hid (∃ rest, MgI w (nums os ys) ps J g d cc a n c rest wr))
      case atStart => exact ⟨g, d, cc, n, c, a, by omega, rfl, rfl, HI⟩
      case round =>
        clear HI
        obtain ⟨g, d, cc, n, c, a, hkx2, rfl, rfl, HI⟩ := hrel
        obtain ⟨rest, hr⟩ := HI.out
        obtain ⟨z1, z2, z3, z4, z5⟩ := hr.le
        rw [hcl, HLp.out] at z1
        have hNr := hr.nw
        obtain ⟨go, oo, rfl, kc⟩ := HOc.out wr hNr
        have hd1 : d ≤ 100000 := by omega
        by_cases h0 : n = 0
        · have hni : (n : Int) = 0 := by omega
          have hd0 : decide ((0 : Int) < (n : Int)) = false := decide_eq_false (by omega)
          have HEM : Hid (∀ p, rest.head? = some p → ¬ p < C) := fun p hp => by
            have := hr.len
            rw [h0] at this
            rw [List.eq_nil_of_length_eq_zero this] at hp
            cases hp
          have hd2 : decide (0 < n) = false := decide_eq_false (by omega)
          clear hni h0
          have HE : Hid (∀ m, ∃ g' cc' W, Hid (∀ ty, (Builtin.append_ #[113, 113] ty #[.slice (some ⟨g, 0, none⟩) d cc, .slice (some ⟨(wr.drewN m).heap.size, 0, none⟩) 1 1]).run Try.prog ((wr.drewN m).alloc (.cells #[.int .i64 (C : Nat), .bool false] 121)) = .ok (.slice (some ⟨g', 0, none⟩) (d + 1) cc') W) ∧ Hid (∃ rest, MgI w (nums os ys) ps (J + 1) g' (d + 1) cc' a n c rest W)) := fun m => by
            obtain ⟨g', cc', W, HAP, hN⟩ := (hr.keep ((Fr.refl _ _).drewN m)).push hd1 (C, false) rest (J' := J + 1) (by rw [HY5.out]; exact mg_emit _ _ _ HEM.out) #[.int .i64 (C : Nat), .bool false] rfl
            exact ⟨g', cc', W, HAP, rest, hN a n c hr.len (fun p hp => hp) (fun V h => h)⟩
          clear HI hr hNr HOc HY5 HP HPb HEM
          go_wp2_with fail
          go_quiet (fail)
          obtain ⟨g', cc', W, HAP, HN⟩ := HE.out nq
          go_wp2_with (first
            | (at_builtin; refine Lib.wpList_append_run _ rfl _ _ 113 113 rfl (.slice (some ⟨g, 0, none⟩) d cc) (.slice (some ⟨_, 0, none⟩) 1 1) (by simp [Act.eval]) (by simp [Act.eval]) _ _ (HAP.out _) ?_))
          go_roundg (L - (J + 1))
          case measure => omega
          case rel => exact ⟨J + 1, g', d + 1, cc', n, c, a, by omega, by omega, rfl, rfl, by first | rfl | (congr 1), HN⟩
        · have hn0 : (0 : Int) < (n : Int) := by omega
          have hn2 : decide (0 < n) = true := decide_eq_true (by omega)
          obtain ⟨p, r, hpr⟩ : ∃ p r, rest = p :: r := by
            have := hr.len
            cases rest with
            | nil => simp at this; omega
            | cons p r => exact ⟨p, r, rfl⟩
          subst hpr
          have hlen := hr.len
          rw [List.length_cons] at hlen
          obtain ⟨hsl, hmem⟩ := hr.sl
          have hpB := HPb.out p (hmem p (by simp))
          obtain ⟨gp, op, rfl, _, kp1, kp2⟩ := rc_at hsl 0 (p, true) (by simp [prs])
          rw [Nat.zero_mul, Nat.add_zero] at kp1 kp2
          by_cases hpc : p < C
          · have hpi : (p : Int) < (C : Int) := by omega
            have hpd : decide (p < C) = true := decide_eq_true hpc
            have HE : Hid (∀ m, ∃ g' cc' W, Hid (∀ ty, (Builtin.append_ #[113, 113] ty #[.slice (some ⟨g, 0, none⟩) d cc, .slice (some ⟨(wr.drewN m).heap.size, 0, none⟩) 1 1]).run Try.prog ((wr.drewN m).alloc (.cells #[.int .i64 (p : Nat), .bool true] 121)) = .ok (.slice (some ⟨g', 0, none⟩) (d + 1) cc') W) ∧ Hid (∀ o' c', ((o' = op + 2 ∧ c' = c - 1) ∨ (c ≤ 1 ∧ c' = 0)) → ∃ rest, MgI w (nums os ys) ps J g' (d + 1) cc' (some ⟨gp, o', none⟩) (n - 1) c' rest W)) := fun m => by
              obtain ⟨g', cc', W, HAP, hN⟩ := (hr.keep ((Fr.refl _ _).drewN m)).push hd1 (p, true) r (J' := J) (by rw [HY5.out]; exact mg_take C p _ r hpc) #[.int .i64 (p : Nat), .bool true] rfl
              refine ⟨g', cc', W, HAP, fun o' c' ho => ⟨r, hN (some ⟨gp, o', none⟩) (n - 1) c' (by omega) (fun q hq => by simp [hq]) (fun V h => ?_)⟩⟩
              have := rc_tail h o' c' ho
              rw [show (List.map (fun p => (p, true)) r).length = n - 1 by simp; omega] at this
              exact this
            have hn1 : (1 : Int) ≤ (n : Int) := by omega
            have hnc : (n : Int) ≤ (c : Int) := by omega
            clear HI hr hNr HOc HY5 HP HPb hsl hmem hlen
            by_cases hc1 : c ≤ 1
            all_goals (
              go_wp2_with fail
              go_quiet (fail)
              obtain ⟨g', cc', W, HAP, HN⟩ := HE.out nq
              go_wp2_with (first
                | (at_builtin; refine Lib.wpList_append_run _ rfl _ _ 113 113 rfl (.slice (some ⟨g, 0, none⟩) d cc) (.slice (some ⟨_, 0, none⟩) 1 1) (by simp [Act.eval]) (by simp [Act.eval]) _ _ (HAP.out _) ?_))
              go_roundg n
              case measure => omega
              case rel => exact ⟨g', d + 1, cc', n - 1, _, _, by omega, rfl, rfl, HN.out _ _ (by first | exact .inl ⟨rfl, rfl⟩ | exact .inr ⟨by omega, rfl⟩)⟩)
          · have hpi : decide ((p : Int) < (C : Int)) = false := decide_eq_false (by omega)
            have hpd : decide (p < C) = false := decide_eq_false hpc
            have HEM : Hid (∀ q, (p :: r).head? = some q → ¬ q < C) := fun q hq => by
              simp at hq; subst hq; exact hpc
            clear hsl hmem hlen
            have HE : Hid (∀ m, ∃ g' cc' W, Hid (∀ ty, (Builtin.append_ #[113, 113] ty #[.slice (some ⟨g, 0, none⟩) d cc, .slice (some ⟨(wr.drewN m).heap.size, 0, none⟩) 1 1]).run Try.prog ((wr.drewN m).alloc (.cells #[.int .i64 (C : Nat), .bool false] 121)) = .ok (.slice (some ⟨g', 0, none⟩) (d + 1) cc') W) ∧ Hid (∃ rest, MgI w (nums os ys) ps (J + 1) g' (d + 1) cc' (some ⟨gp, op, none⟩) n c rest W)) := fun m => by
              obtain ⟨g', cc', W, HAP, hN⟩ := (hr.keep ((Fr.refl _ _).drewN m)).push hd1 (C, false) (p :: r) (J' := J + 1) (by rw [HY5.out]; exact mg_emit _ _ _ HEM.out) #[.int .i64 (C : Nat), .bool false] rfl
              exact ⟨g', cc', W, HAP, p :: r, hN (some ⟨gp, op, none⟩) n c hr.len (fun p hp => hp) (fun V h => h)⟩
            clear HI hr hNr HOc HY5 HP HPb HEM
            go_wp2_with fail
            go_quiet (fail)
            obtain ⟨g', cc', W, HAP, HN⟩ := HE.out nq
            go_wp2_with (first
              | (at_builtin; refine Lib.wpList_append_run _ rfl _ _ 113 113 rfl (.slice (some ⟨g, 0, none⟩) d cc) (.slice (some ⟨_, 0, none⟩) 1 1) (by simp [Act.eval]) (by simp [Act.eval]) _ _ (HAP.out _) ?_))
            go_roundg (L - (J + 1))
            case measure => omega
            case rel => exact ⟨J + 1, g', d + 1, cc', n, c, some ⟨gp, op, none⟩, by omega, by omega, rfl, rfl, by first | rfl | (congr 1), HN⟩
    · obtain rfl : J = L := by omega
      have hz : ¬ (J : Int) < (J : Int) := by omega
      obtain ⟨rest, hr⟩ := HI.out
      obtain ⟨z1, z2, z3, z4, z5⟩ := hr.le
      rw [← hcl] at hr
      obtain ⟨g', cc', W, HAP, hN⟩ := hr.last (by rw [hcl, HLp.out]; omega)
      have HF2 : Hid (P (.returned (.slice (some ⟨g', 0, none⟩) ((nums os ys).length + ps.length) cc')) W) := by
        show P _ _
        rw [HP.out]; exact hN
      rw [hcl, HLp.out, hM] at HAP HF2
      clear HI hr hN HP HPb HO HY HNs z1
      go_wp2_with (first
        | (at_builtin; refine Lib.wpList_append_run _ rfl _ _ 113 113 rfl (.slice (some ⟨g, 0, none⟩) d cc) (.slice a n c) (by simp [Act.eval]) (by simp [Act.eval]) _ _ (HAP.out _) ?_))
      exact HF2.out
end Go.Proofs.Ytkpkiajehclbhaa

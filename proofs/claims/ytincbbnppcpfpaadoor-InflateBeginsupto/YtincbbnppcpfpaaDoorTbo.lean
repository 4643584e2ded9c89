import Derived.Test.YtincbbnppcpfpaaDoorTbl
namespace Go.Proofs.YtincbbnppcpfpaaDoor
open Go.RowKit
set_option linter.unusedVariables false
/-- A beginning of bytes that lie there. -/
theorem old_pre {w : World} {a : Option Addr} {c k : Nat} {b : List By} (h : Old w (.slice a b.length c) b) (hk : k ≤ b.length) : Old w (.slice a k c) (b.take k) := by
  have hlen : (b.take k).length = k := by rw [List.length_take]; omega
  rcases h with ⟨a', e, rfl⟩ | ⟨g, g1, o, c', e, h1, h2, h3⟩
  · injection e with e1 _ e3
    subst e1 e3
    obtain rfl : k = 0 := by simpa using hk
    exact .inl ⟨_, rfl, rfl⟩
  · injection e with e1 _ e3
    subst e1 e3
    exact .inr ⟨g, g1, o, c, by rw [hlen], by rw [hlen]; omega, h2, h3.take k⟩
/-- What the law's last part asks: Decode of a copy of x, and of a copy of x and what stands behind. -/
theorem dec_copy (w : World) (x : Value) (l : List By) (hx : Old w x l) (hl : l.length ≤ 1048576) (hT : Tab w) (L : Nat) (hL : l.length = L) :
    ∃ g1 c1 W1, Hid (∀ ty, (Builtin.append_ #[22, 22] ty #[.slice (some ⟨w.heap.size, 0, none⟩) 0 0, x]).run Tryd.prog (w.alloc (.cells #[] 5)) = .ok (.slice (some ⟨g1, 0, none⟩) L c1) W1) ∧ Hid (Calls Tryd.prog 10 #[.slice (some ⟨g1, 0, none⟩) L c1, .int .i64 4194304] W1 fun e w4 => ∃ a4 c4, e = .returned (.tuple #[.slice a4 (idec l (4194304 : Nat)).1.length c4, .int .i64 (idec l (4194304 : Nat)).2.1, .int .i64 (idec l (4194304 : Nat)).2.2]) ∧ Hid (Nw w w4 ∧ Old w4 (.slice a4 (idec l (4194304 : Nat)).1.length c4) (idec l (4194304 : Nat)).1)) := by
  subst hL
  obtain ⟨g1, c1, W1, hap, hO, _, hNa⟩ := copyB w x l hx (by omega)
  refine ⟨g1, c1, W1, hap, ?_⟩
  show Calls _ _ _ _ _
  refine (idecode_any W1 _ l (4194304 : Nat) hO.old (by omega) (hT.kept hNa (fun h => h))).mono ?_
  rintro e w4 ⟨a4, c4, rfl, hM4, hN4⟩
  exact ⟨a4, c4, rfl, hNa.trans hN4, hM4.old⟩
theorem dec_copy2 (w : World) (x y : Value) (l z : List By) (hx : Old w x l) (hy : Old w y z) (hl : l.length ≤ 1048576) (hz : z.length ≤ 1048576) (hT : Tab w) (L : Nat) (hL : l.length = L) :
    ∃ g1 c1 W1 g2 n2 c2 W2, Hid (∀ ty, (Builtin.append_ #[22, 22] ty #[.slice (some ⟨w.heap.size, 0, none⟩) 0 0, x]).run Tryd.prog (w.alloc (.cells #[] 5)) = .ok (.slice (some ⟨g1, 0, none⟩) L c1) W1) ∧ Hid (∀ ty, (Builtin.append_ #[22, 22] ty #[.slice (some ⟨g1, 0, none⟩) L c1, y]).run Tryd.prog W1 = .ok (.slice (some ⟨g2, 0, none⟩) n2 c2) W2) ∧ Hid (Calls Tryd.prog 10 #[.slice (some ⟨g2, 0, none⟩) n2 c2, .int .i64 4194304] W2 fun e w4 => ∃ a4 c4, e = .returned (.tuple #[.slice a4 (idec (l ++ z) (4194304 : Nat)).1.length c4, .int .i64 (idec (l ++ z) (4194304 : Nat)).2.1, .int .i64 (idec (l ++ z) (4194304 : Nat)).2.2]) ∧ Hid (Nw w w4 ∧ Old w4 (.slice a4 (idec (l ++ z) (4194304 : Nat)).1.length c4) (idec (l ++ z) (4194304 : Nat)).1)) := by
  subst hL
  obtain ⟨g1, c1, W1, hap, hO, hg1, hNa⟩ := copyB w x l hx (by omega)
  obtain ⟨v2, g2, W2, hap2, hO2, hF2, hg2⟩ := app_any W1 g1 _ l hO y z ((hy.nw hNa).mono (fun _ h => h.elim)) (by omega)
  have hO2' := hO2
  obtain ⟨xs, rfl, _⟩ := hO2'
  have hN2 : Nw w W2 := Fr.then hNa hF2 (fun i hi => .inr (by rw [hi]; exact hg1))
  refine ⟨g1, c1, W1, g2, _, xs.length, W2, hap, hap2, ?_⟩
  show Calls _ _ _ _ _
  refine (idecode_any W2 _ (l ++ z) (4194304 : Nat) hO2.old (by simp; omega) (hT.kept hN2 (fun h => h))).mono ?_
  rintro e w4 ⟨a4, c4, rfl, hM4, hN4⟩
  exact ⟨a4, c4, rfl, hN2.trans hN4, hM4.old⟩
set_option maxHeartbeats 64000000 in
set_option maxRecDepth 100000 in
theorem ibg_walk (w : World) (ab : Option Addr) (cb : Nat) (b : List By) (cut : Int) (ad : Option Addr) (cd : Nat) (d : List By) (hb : Old w (.slice ab b.length cb) b) (hd : Old w (.slice ad d.length cd) d) (hbl : b.length ≤ 1048576) (hdl : d.length ≤ 1048576) (hT : Tab w) :
    Calls Tryd.prog 7 #[.slice ab b.length cb, .int .i64 cut, .slice ad d.length cd] w fun e w' => e = .returned (.bool true) ∧ Nw w w' := by
  obtain ⟨P, hP⟩ : ∃ P : Ending → World → Prop, P = fun e w' => e = .returned (.bool true) ∧ Nw w w' := ⟨_, rfl⟩
  rw [← hP]
  have HT : Hid (∀ V, Nw w V → P (.returned (.bool true)) V) := fun V hV => by rw [hP]; exact ⟨rfl, hV⟩
  clear hP
  obtain ⟨c, hc, hcut⟩ : ∃ c : Nat, c ≤ b.length ∧ ((cut < 0 ∧ c = b.length) ∨ ((b.length : Int) < cut ∧ c = b.length) ∨ cut = c) := by
    by_cases h1 : cut < 0
    · exact ⟨b.length, Nat.le_refl _, .inl ⟨h1, rfl⟩⟩
    · by_cases h2 : (b.length : Int) < cut
      · exact ⟨b.length, Nat.le_refl _, .inr (.inl ⟨h2, rfl⟩)⟩
      · exact ⟨cut.toNat, by omega, .inr (.inr (by omega))⟩
  obtain ⟨cbL, hcb1, hcb2⟩ : b.length ≤ cb ∧ cb < 9223372036854775808 ∧ True := by
    obtain ⟨_, _, e, h1, h2⟩ := hb.form
    injection e with _ _ e
    subst e
    exact ⟨h1, h2, trivial⟩
  -- the calls up to the two texts that were told
  have HL : Hid (Calls Tryd.prog 17 #[] w fun e w1 => e = .returned (.bool true) ∧ Hid (Calls Tryd.prog 19 #[.slice ab c cb, .int .i64 4194304, .slice none 0 0] w1 fun e w2 => ∃ oa on oc rb y1, e = .returned (.tuple #[.slice oa on oc, .int .i64 (y1 : Nat), .pointer (some ⟨rb, 0, none⟩)]) ∧ Hid (Calls Tryd.prog 19 #[.slice ab b.length cb, .int .i64 4194304, .slice none 0 0] w2 fun e w3 => ∃ pa pn pc sb y2, e = .returned (.tuple #[.slice pa pn pc, .int .i64 (y2 : Nat), .pointer (some ⟨sb, 0, none⟩)]) ∧ on ≤ pn ∧ pn ≤ pc ∧ pc < 9223372036854775808 ∧ Hid (Nw w w3) ∧ ∃ S, Hid (∀ V, Nw w3 V → (convert 22 9 (.slice oa on oc)).run Tryd.prog V = .ok (.string S) V ∧ (convert 22 9 (.slice pa on pc)).run Tryd.prog V = .ok (.string S) V)))) := by
    show Calls _ _ _ _ _
    refine (ilives_any w hT).mono ?_
    rintro e w1 ⟨rfl, hN1⟩
    refine ⟨rfl, ?_⟩
    show Calls _ _ _ _ _
    have hlen : (b.take c).length = c := by rw [List.length_take]; omega
    have hT1 := hT.kept hN1 (fun h => h)
    have h0 := fed_any w1 ab cb (b.take c) (by rw [hlen]; exact old_pre (Sl.later hb hN1) hc) 4194304 (Nat.le_refl _) none 0 [] (.inl ⟨none, rfl, rfl⟩) (fun z hz => by cases hz) (by omega) (by simp) hT1
    rw [hlen] at h0
    refine h0.mono ?_
    rintro e w2 ⟨oa, on, oc, rb, rfl, h2⟩
    have hN2 : Nw w1 w2 := by
      obtain ⟨_, _, _, _, _, _, _, _, _, _, hh⟩ := h2
      exact hh
    have h2' : FdL w1 (b.take c) 4194304 rb (b.take c).length (.slice oa on oc) w2 := by rw [hlen]; exact h2
    have t2 : ∀ V, Nw w2 V → Old V (.slice oa on oc) (rf 4194304 (b.take c)).1.out := fun V hV => (fdl_calls h2' (by omega) V hV).2.2.2.1
    refine ⟨oa, on, oc, rb, _, rfl, ?_⟩
    show Calls _ _ _ _ _
    refine (fed_any w2 ab cb b (Sl.later hb (hN1.trans hN2)) 4194304 (Nat.le_refl _) none 0 [] (.inl ⟨none, rfl, rfl⟩) (fun z hz => by cases hz) (by omega) (by simp) (hT1.kept hN2 (fun h => h))).mono ?_
    rintro e w3 ⟨pa, pn, pc, sb, rfl, h3⟩
    have hN3 : Nw w2 w3 := by
      obtain ⟨_, _, _, _, _, _, _, _, _, _, hh⟩ := h3
      exact hh
    have t3 : ∀ V, Nw w3 V → Old V (.slice pa pn pc) (rf 4194304 b).1.out := fun V hV => (fdl_calls h3 (by omega) V hV).2.2.2.1
    obtain ⟨m, hm⟩ := rf_pre 4194304 (b.take c) (b.drop c)
    rw [List.take_append_drop] at hm
    have f2 := t2 w3 hN3
    have f3 := t3 w3 (Fr.refl _ _)
    obtain ⟨_, _, e2, _⟩ := f2.form
    injection e2 with _ e2 _
    obtain ⟨_, _, e3, c3, c4⟩ := f3.form
    injection e3 with _ e3 e4
    subst e4
    have hon : on ≤ pn := by rw [e2, e3, hm, List.length_append]; omega
    refine ⟨pa, pn, pc, sb, _, rfl, hon, by rw [e3]; exact c3, c4, (hN1.trans hN2).trans hN3, str (rf 4194304 (b.take c)).1.out, fun V hV => ⟨conv_any (t2 V (hN3.trans hV)), ?_⟩⟩
    have f4 := t3 V hV
    rw [e3] at f4
    have f5 := old_pre f4 (k := on) (by rw [← e3]; exact hon)
    rw [hm, e2, List.take_left] at f5
    rw [e2]
    exact conv_any f5
  have HB : Hid (∀ V, Nw w V → Old V (.slice ab b.length cb) b ∧ (∀ k, k ≤ b.length → Old V (.slice ab k cb) (b.take k)) ∧ Old V (.slice ad d.length cd) d ∧ Tab V) := fun V hV => ⟨Sl.later hb hV, fun k hk => old_pre (Sl.later hb hV) hk, Sl.later hd hV, hT.kept hV (fun h => h)⟩
  clear hT hb hd
  generalize hL : b.length = L at *
  have HLb : Hid (b.length = L) := hL
  clear hL
  generalize hDL : d.length = DL at *
  have HDL : Hid (d.length = DL) := hDL
  clear hDL
  have hcz : (c : Int) ≤ (L : Int) := by omega
  have hcc : (L : Int) ≤ (cb : Int) := by omega
  have HSTEP : Hid (∀ w3, Nw w w3 → ∃ g1 c1 W1, Hid (∀ ty, (Builtin.append_ #[22, 22] ty #[.slice (some ⟨w3.heap.size, 0, none⟩) 0 0, .slice ab L cb]).run Tryd.prog (w3.alloc (.cells #[] 5)) = .ok (.slice (some ⟨g1, 0, none⟩) L c1) W1) ∧ Hid (Calls Tryd.prog 10 #[.slice (some ⟨g1, 0, none⟩) L c1, .int .i64 4194304] W1 fun e w4 => ∃ a4 n4 c4 n y : Nat, ∃ av, e = .returned (.tuple #[.slice av n4 c4, .int .i64 n, .int .i64 y]) ∧ Hid (Nw w w4) ∧ (y = 0 → n ≤ L ∧ Hid (∃ g2 c2 W2 g3 n3 c3 W3, Hid (∀ ty, (Builtin.append_ #[22, 22] ty #[.slice (some ⟨w4.heap.size, 0, none⟩) 0 0, .slice ab n cb]).run Tryd.prog (w4.alloc (.cells #[] 5)) = .ok (.slice (some ⟨g2, 0, none⟩) n c2) W2) ∧ Hid (∀ ty, (Builtin.append_ #[22, 22] ty #[.slice (some ⟨g2, 0, none⟩) n c2, .slice ad DL cd]).run Tryd.prog W2 = .ok (.slice (some ⟨g3, 0, none⟩) n3 c3) W3) ∧ Hid (Calls Tryd.prog 10 #[.slice (some ⟨g3, 0, none⟩) n3 c3, .int .i64 4194304] W3 fun e w5 => ∃ a5 n5 c5 : Nat, ∃ av5 S, e = .returned (.tuple #[.slice av5 n5 c5, .int .i64 n, .int .i64 0]) ∧ Hid (Nw w w5) ∧ (convert 22 9 (.slice av5 n5 c5)).run Tryd.prog w5 = .ok (.string S) w5 ∧ (convert 22 9 (.slice av n4 c4)).run Tryd.prog w5 = .ok (.string S) w5 ∧ (c < n → Hid (∃ g6 c6 W6, Hid (∀ ty, (Builtin.append_ #[22, 22] ty #[.slice (some ⟨w5.heap.size, 0, none⟩) 0 0, .slice ab c cb]).run Tryd.prog (w5.alloc (.cells #[] 5)) = .ok (.slice (some ⟨g6, 0, none⟩) c c6) W6) ∧ Hid (Calls Tryd.prog 10 #[.slice (some ⟨g6, 0, none⟩) c c6, .int .i64 4194304] W6 fun e w7 => ∃ n7 c7 z : Nat, ∃ av7, e = .returned (.tuple #[.slice av7 n7 c7, .int .i64 z, .int .i64 4]) ∧ Hid (Nw w w7))))))))) := fun w3 h3 => by
    obtain ⟨q1, q2, q3, q4⟩ := HB.out w3 h3
    obtain ⟨g1, c1, W1, hap, hD⟩ := dec_copy w3 _ b q1 (by rw [HLb.out]; omega) q4 L HLb.out
    refine ⟨g1, c1, W1, hap, ?_⟩
    show Calls _ _ _ _ _
    refine hD.out.mono ?_
    rintro e w4 ⟨a4, c4, rfl, h4⟩
    have hN4 : Nw w w4 := h3.trans h4.out.1
    refine ⟨0, _, c4, _, _, a4, rfl, hN4, fun hy => ?_⟩
    have hbo := idec_bound (b := b) (mo := 4194304) (Nat.le_refl _) hy
    rw [HLb.out] at hbo
    refine ⟨hbo.2.2.2, ?_⟩
    obtain ⟨r1, r2, r3, r4⟩ := HB.out w4 hN4
    obtain ⟨g2, c2, W2, g3, n3, c3, W3, hap2, hap3, hD3⟩ := dec_copy2 w4 _ _ (b.take (idec b (4194304 : Nat)).2.1) d (r2 _ hbo.2.2.2) r3 (by rw [List.length_take, HLb.out]; omega) (by rw [HDL.out]; exact hdl) r4 (idec b (4194304 : Nat)).2.1 (by rw [List.length_take, HLb.out]; omega)
    refine ⟨g2, c2, W2, g3, n3, c3, W3, hap2, hap3, ?_⟩
    show Calls _ _ _ _ _
    refine hD3.out.mono ?_
    rintro e w5 ⟨a5, c5, rfl, h5⟩
    have hbe := idec_behind (z := d) (Nat.le_refl 4194304) hy
    rw [hbe] at h5 ⊢
    have hN5 : Nw w w5 := hN4.trans h5.out.1
    refine ⟨0, _, c5, a5, str (idec b (4194304 : Nat)).1, by rw [hy]; rfl, hN5, conv_any h5.out.2, conv_any (Sl.later h4.out.2 h5.out.1), fun hcn => ?_⟩
    obtain ⟨s1, s2, s3, s4⟩ := HB.out w5 hN5
    have hct := idec_cut (Nat.le_refl 4194304) hy hcn
    obtain ⟨g6, c6, W6, hap6, hD6⟩ := dec_copy w5 _ (b.take c) (s2 c hc) (by rw [List.length_take, HLb.out]; omega) s4 c (by rw [List.length_take, HLb.out]; omega)
    refine ⟨g6, c6, W6, hap6, ?_⟩
    show Calls _ _ _ _ _
    refine hD6.out.mono ?_
    rintro e w7 ⟨a7, c7, rfl, h7⟩
    exact ⟨_, c7, _, a7, by rw [hct]; rfl, hN5.trans h7.out.1⟩
  clear HB HLb HDL
  have hkey : (cut < 0 ∧ c = L) ∨ (¬ cut < 0 ∧ (L : Int) < cut ∧ c = L) ∨ (¬ cut < 0 ∧ ¬ (L : Int) < cut ∧ cut = c) := by omega
  clear hcut
  have HCL : Hid (c ≤ L) := hc
  rcases hkey with ⟨z1, z2⟩ | ⟨z1, z2, z3⟩ | ⟨z1, z2, z3⟩
  · subst c
    clear HCL hc hcz
    go_enter Tryd.func7, Tryd.ntmps7
    go_upto_region 7 with (first
      | (go_at_call 17; with_reducible refine HL.out.mono ?_; rintro e w1 ⟨rfl, H2⟩)
      | (go_at_call 19; with_reducible refine H2.out.mono ?_; rintro e w2 ⟨oa, on, oc, rb, y1, rfl, H3⟩)
      | (go_at_call 19; with_reducible refine H3.out.mono ?_; rintro e w3 ⟨pa, pn, pc, sb, y2, rfl, v1, v2, v3, K3, S, HS⟩))
    obtain ⟨f1, f2⟩ := HS.out w3 (Fr.refl _ _)
    have v4 : (on : Int) ≤ (pn : Int) := by omega
    have v5 : decide ((pn : Int) < (on : Int)) = false := decide_eq_false (by omega)
    have v6 : (on : Int) ≤ (pc : Int) := by omega
    have v7 : decide (pn < on) = false := decide_eq_false (by omega)
    have v8 : ¬ pn < on := by omega
    have v9 : on ≤ pc := by omega
    clear HL H2 H3
    go_cut [70] (fun x wx => x = .bool false ∧ Hid (Nw w3 wx))
    case first =>
      have HN0 : Hid (Nw w3 w3.drew) := (Fr.refl _ _).drew
      clear HT HSTEP K3
      go_region_held (fun W => (convert 22 9 (.slice oa on oc)).run Tryd.prog W = .ok (.string S) W ∧ (convert 22 9 (.slice pa on pc)).run Tryd.prog W = .ok (.string S) W)
        (first | assumption | exact HS.out _ (Fr.refl _ _).drew) (first | fail)
      all_goals go_wp2_with fail
      all_goals go_meet
      all_goals exact ⟨rfl, HN0⟩
    case rest =>
    obtain ⟨rfl, HCUT⟩ := hcut
    have KW : Hid (Nw w wc) := K3.out.trans HCUT.out
    clear HS f1 f2 K3 HCUT v1 v2 v3 v4 v5 v6 v7 v8 v9
    obtain ⟨g1, c1, W1, HAP, HD⟩ := HSTEP.out wc KW.out
    clear HSTEP
    go_upto_region 10 with (first
      | (at_builtin; refine Lib.wpList_append_run _ rfl _ _ 22 22 rfl (.slice (some ⟨wc.heap.size, 0, none⟩) 0 0) (.slice ab L cb) (by simp [Act.eval]) (by simp [Act.eval]) _ _ (HAP.out _) ?_)
      | (go_at_call 10; with_reducible refine HD.out.mono ?_; rintro e w4 ⟨_, n4, c4, n, y, av, rfl, K4, HY⟩))
    clear HD HAP
    by_cases hy : y = 0
    · obtain ⟨hnL, H2⟩ := HY hy
      subst hy
      obtain ⟨g2, c2, W2, g3, n3, c3, W3, HAP2, HAP3, HD3⟩ := H2.out
      have hnz : (n : Int) ≤ (L : Int) := by omega
      have hncb : (n : Int) ≤ (cb : Int) := by omega
      clear HY H2
      go_upto_region 15 with (first
        | (at_builtin; refine Lib.wpList_append_run _ rfl _ _ 22 22 rfl (.slice (some ⟨w4.heap.size, 0, none⟩) 0 0) (.slice ab n cb) (by simp [Act.eval]) (by simp [Act.eval]) _ _ (HAP2.out _) ?_)
        | (at_builtin; refine Lib.wpList_append_run _ rfl _ _ 22 22 rfl (.slice (some ⟨g2, 0, none⟩) n c2) (.slice ad DL cd) (by simp [Act.eval]) (by simp [Act.eval]) _ _ (HAP3.out _) ?_)
        | (go_at_call 10; with_reducible refine HD3.out.mono ?_; rintro e w5 ⟨_, n5, c5, av5, S5, rfl, K5, j1, j2, HC⟩))
      clear HAP2 HAP3 HD3
      by_cases hcn : L < n
      · omega
      · have hq : (n : Int) ≤ (L : Int) := by omega
        clear HC
        go_wp2_with fail
        exact HT.out _ K5.out
    · have hyz : ((y : Int) != 0) = true := by simp only [bne_iff_ne, ne_eq]; omega
      clear HY
      go_wp2_with fail
      exact HT.out _ K4.out
  · subst c
    clear HCL hc hcz
    go_enter Tryd.func7, Tryd.ntmps7
    go_upto_region 7 with (first
      | (go_at_call 17; with_reducible refine HL.out.mono ?_; rintro e w1 ⟨rfl, H2⟩)
      | (go_at_call 19; with_reducible refine H2.out.mono ?_; rintro e w2 ⟨oa, on, oc, rb, y1, rfl, H3⟩)
      | (go_at_call 19; with_reducible refine H3.out.mono ?_; rintro e w3 ⟨pa, pn, pc, sb, y2, rfl, v1, v2, v3, K3, S, HS⟩))
    obtain ⟨f1, f2⟩ := HS.out w3 (Fr.refl _ _)
    have v4 : (on : Int) ≤ (pn : Int) := by omega
    have v5 : decide ((pn : Int) < (on : Int)) = false := decide_eq_false (by omega)
    have v6 : (on : Int) ≤ (pc : Int) := by omega
    have v7 : decide (pn < on) = false := decide_eq_false (by omega)
    have v8 : ¬ pn < on := by omega
    have v9 : on ≤ pc := by omega
    clear HL H2 H3
    go_cut [70] (fun x wx => x = .bool false ∧ Hid (Nw w3 wx))
    case first =>
      have HN0 : Hid (Nw w3 w3.drew) := (Fr.refl _ _).drew
      clear HT HSTEP K3
      go_region_held (fun W => (convert 22 9 (.slice oa on oc)).run Tryd.prog W = .ok (.string S) W ∧ (convert 22 9 (.slice pa on pc)).run Tryd.prog W = .ok (.string S) W)
        (first | assumption | exact HS.out _ (Fr.refl _ _).drew) (first | fail)
      all_goals go_wp2_with fail
      all_goals go_meet
      all_goals exact ⟨rfl, HN0⟩
    case rest =>
    obtain ⟨rfl, HCUT⟩ := hcut
    have KW : Hid (Nw w wc) := K3.out.trans HCUT.out
    clear HS f1 f2 K3 HCUT v1 v2 v3 v4 v5 v6 v7 v8 v9
    obtain ⟨g1, c1, W1, HAP, HD⟩ := HSTEP.out wc KW.out
    clear HSTEP
    go_upto_region 10 with (first
      | (at_builtin; refine Lib.wpList_append_run _ rfl _ _ 22 22 rfl (.slice (some ⟨wc.heap.size, 0, none⟩) 0 0) (.slice ab L cb) (by simp [Act.eval]) (by simp [Act.eval]) _ _ (HAP.out _) ?_)
      | (go_at_call 10; with_reducible refine HD.out.mono ?_; rintro e w4 ⟨_, n4, c4, n, y, av, rfl, K4, HY⟩))
    clear HD HAP
    by_cases hy : y = 0
    · obtain ⟨hnL, H2⟩ := HY hy
      subst hy
      obtain ⟨g2, c2, W2, g3, n3, c3, W3, HAP2, HAP3, HD3⟩ := H2.out
      have hnz : (n : Int) ≤ (L : Int) := by omega
      have hncb : (n : Int) ≤ (cb : Int) := by omega
      clear HY H2
      go_upto_region 15 with (first
        | (at_builtin; refine Lib.wpList_append_run _ rfl _ _ 22 22 rfl (.slice (some ⟨w4.heap.size, 0, none⟩) 0 0) (.slice ab n cb) (by simp [Act.eval]) (by simp [Act.eval]) _ _ (HAP2.out _) ?_)
        | (at_builtin; refine Lib.wpList_append_run _ rfl _ _ 22 22 rfl (.slice (some ⟨g2, 0, none⟩) n c2) (.slice ad DL cd) (by simp [Act.eval]) (by simp [Act.eval]) _ _ (HAP3.out _) ?_)
        | (go_at_call 10; with_reducible refine HD3.out.mono ?_; rintro e w5 ⟨_, n5, c5, av5, S5, rfl, K5, j1, j2, HC⟩))
      clear HAP2 HAP3 HD3
      by_cases hcn : L < n
      · omega
      · have hq : (n : Int) ≤ (L : Int) := by omega
        clear HC
        go_wp2_with fail
        exact HT.out _ K5.out
    · have hyz : ((y : Int) != 0) = true := by simp only [bne_iff_ne, ne_eq]; omega
      clear HY
      go_wp2_with fail
      exact HT.out _ K4.out
  · subst z3
    go_enter Tryd.func7, Tryd.ntmps7
    go_upto_region 7 with (first
      | (go_at_call 17; with_reducible refine HL.out.mono ?_; rintro e w1 ⟨rfl, H2⟩)
      | (go_at_call 19; with_reducible refine H2.out.mono ?_; rintro e w2 ⟨oa, on, oc, rb, y1, rfl, H3⟩)
      | (go_at_call 19; with_reducible refine H3.out.mono ?_; rintro e w3 ⟨pa, pn, pc, sb, y2, rfl, v1, v2, v3, K3, S, HS⟩))
    obtain ⟨f1, f2⟩ := HS.out w3 (Fr.refl _ _)
    have v4 : (on : Int) ≤ (pn : Int) := by omega
    have v5 : decide ((pn : Int) < (on : Int)) = false := decide_eq_false (by omega)
    have v6 : (on : Int) ≤ (pc : Int) := by omega
    have v7 : decide (pn < on) = false := decide_eq_false (by omega)
    have v8 : ¬ pn < on := by omega
    have v9 : on ≤ pc := by omega
    clear HL H2 H3
    go_cut [70] (fun x wx => x = .bool false ∧ Hid (Nw w3 wx))
    case first =>
      have HN0 : Hid (Nw w3 w3.drew) := (Fr.refl _ _).drew
      clear HT HSTEP K3
      go_region_held (fun W => (convert 22 9 (.slice oa on oc)).run Tryd.prog W = .ok (.string S) W ∧ (convert 22 9 (.slice pa on pc)).run Tryd.prog W = .ok (.string S) W)
        (first | assumption | exact HS.out _ (Fr.refl _ _).drew) (first | fail)
      all_goals go_wp2_with fail
      all_goals go_meet
      all_goals exact ⟨rfl, HN0⟩
    case rest =>
    obtain ⟨rfl, HCUT⟩ := hcut
    have KW : Hid (Nw w wc) := K3.out.trans HCUT.out
    clear HS f1 f2 K3 HCUT v1 v2 v3 v4 v5 v6 v7 v8 v9
    obtain ⟨g1, c1, W1, HAP, HD⟩ := HSTEP.out wc KW.out
    clear HSTEP
    go_upto_region 10 with (first
      | (at_builtin; refine Lib.wpList_append_run _ rfl _ _ 22 22 rfl (.slice (some ⟨wc.heap.size, 0, none⟩) 0 0) (.slice ab L cb) (by simp [Act.eval]) (by simp [Act.eval]) _ _ (HAP.out _) ?_)
      | (go_at_call 10; with_reducible refine HD.out.mono ?_; rintro e w4 ⟨_, n4, c4, n, y, av, rfl, K4, HY⟩))
    clear HD HAP
    by_cases hy : y = 0
    · obtain ⟨hnL, H2⟩ := HY hy
      subst hy
      obtain ⟨g2, c2, W2, g3, n3, c3, W3, HAP2, HAP3, HD3⟩ := H2.out
      have hnz : (n : Int) ≤ (L : Int) := by omega
      have hncb : (n : Int) ≤ (cb : Int) := by omega
      clear HY H2
      go_upto_region 15 with (first
        | (at_builtin; refine Lib.wpList_append_run _ rfl _ _ 22 22 rfl (.slice (some ⟨w4.heap.size, 0, none⟩) 0 0) (.slice ab n cb) (by simp [Act.eval]) (by simp [Act.eval]) _ _ (HAP2.out _) ?_)
        | (at_builtin; refine Lib.wpList_append_run _ rfl _ _ 22 22 rfl (.slice (some ⟨g2, 0, none⟩) n c2) (.slice ad DL cd) (by simp [Act.eval]) (by simp [Act.eval]) _ _ (HAP3.out _) ?_)
        | (go_at_call 10; with_reducible refine HD3.out.mono ?_; rintro e w5 ⟨_, n5, c5, av5, S5, rfl, K5, j1, j2, HC⟩))
      clear HAP2 HAP3 HD3
      by_cases hcn : c < n
      · obtain ⟨g6, c6, W6, HAP6, HD6⟩ := (HC hcn).out
        have hq : ¬ (n : Int) ≤ (c : Int) := by omega
        have hccb : (c : Int) ≤ (cb : Int) := by omega
        clear HC
        go_wp2_with (first
          | (at_builtin; refine Lib.wpList_append_run _ rfl _ _ 22 22 rfl (.slice (some ⟨w5.heap.size, 0, none⟩) 0 0) (.slice ab c cb) (by simp [Act.eval]) (by simp [Act.eval]) _ _ (HAP6.out _) ?_)
          | (go_at_call 10; with_reducible refine HD6.out.mono ?_; rintro e w7 ⟨n7, c7, z, av7, rfl, K7⟩))
        exact HT.out _ K7.out
      · have hq : (n : Int) ≤ (c : Int) := by omega
        clear HC
        go_wp2_with fail
        exact HT.out _ K5.out
    · have hyz : ((y : Int) != 0) = true := by simp only [bne_iff_ne, ne_eq]; omega
      clear HY
      go_wp2_with fail
      exact HT.out _ K4.out
end Go.Proofs.YtincbbnppcpfpaaDoor

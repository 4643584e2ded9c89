import Derived.Test.YtdeefemeiggolaaFdOq
namespace Go.Proofs.Ytdeefemeiggolaa
open Go.RowKit
set_option linter.unusedVariables false
/-! ### Read's walk -/
theorem Rd4.arg (b : List By) (most : Int) (w V : World) (h : most < 0 ∨ 4194304 < most) (hN : Nw w V) : Rd4 b most w (.returned (.tuple #[.slice none 0 0, .slice none 0 0, .int .i64 0, .int .i64 1])) V := by
  have h1 : fdec b most = ([], 0, 1) := by unfold fdec; rw [if_pos h]
  have h2 : ffr b most = ([], 0, 1) := by unfold ffr; rw [if_pos h]
  unfold Rd4
  rw [h1, h2]
  exact ⟨none, 0, none, 0, rfl, rfl, Mine.nil _ _, .inl ⟨rfl, rfl⟩, hN⟩
theorem results_tmp4 {fn : Func} {t u v x : Tmp} (h : fn.results = #[.tmp t, .tmp u, .tmp v, .tmp x]) (tmps : Array Value) (P : Program) (w : World) : (results fn tmps).run P w = .ok (.tuple #[tmps.getD t undef, tmps.getD u undef, tmps.getD v undef, tmps.getD x undef]) w := by
  simp [results, h]
theorem rret {R : Ending → World → Prop} {a : Act} {w : World} (hd : a.defers = []) (hR : R (.returned (.tuple #[a.tmps.getD 4 undef, a.tmps.getD 5 undef, a.tmps.getD 6 undef, a.tmps.getD 7 undef])) w) : bodyPost Try.prog Try.f18 R .ret a w :=
  bodyPost_ret (results_tmp4 rfl _ _ _) hd hR
theorem dRead_arg (w : World) (a : Option Addr) (L c : Nat) (b : List By) (most : Int) (h : most < 0 ∨ 4194304 < most) : Calls Try.prog 18 #[.slice a L c, .int .i64 most] w (Rd4 b most w) := by
  obtain ⟨P, hP⟩ : ∃ P : Ending → World → Prop, P = Rd4 b most w := ⟨_, rfl⟩
  rw [← hP]
  have HF : Hid (P (.returned (.tuple #[.slice none 0 0, .slice none 0 0, .int .i64 0, .int .i64 1])) w) := by
    show P _ _
    rw [hP]; exact Rd4.arg b most w w h (Fr.refl _ _)
  clear hP
  rcases h with h | h
  · go_enter Try.func18, Try.ntmps18
    go_wp2_with fail
    (try simp only [Exit.inBlock, Exit.then])
    exact rret rfl HF.out
  · have h0 : ¬ most < 0 := by omega
    go_enter Try.func18, Try.ntmps18
    go_wp2_with fail
    (try simp only [Exit.inBlock, Exit.then])
    exact rret rfl HF.out
set_option maxHeartbeats 8000000 in
set_option maxRecDepth 100000 in
theorem dRead_nil (w : World) (a : Option Addr) (c : Nat) (m : Nat) (hm : m ≤ 4194304) : Calls Try.prog 18 #[.slice a 0 c, .int .i64 m] w (Rd4 [] m w) := by
  obtain ⟨P, hP⟩ : ∃ P : Ending → World → Prop, P = Rd4 [] m w := ⟨_, rfl⟩
  rw [← hP]
  obtain ⟨W1, hW1⟩ : ∃ W1, w.alloc (.cells #[.slice a 0 c, .int .i64 0, .int .i64 m, .slice none 0 0] 65) = W1 := ⟨_, rfl⟩
  have hN1 : Nw w W1 := by rw [← hW1]; exact (Fr.refl _ _).alloc _
  have hrow : W1.heap[w.heap.size]? = some (.cells #[.slice a 0 c, .int .i64 0, .int .i64 m, .slice none 0 0] 65) := by
    rw [← hW1]
    show (w.heap.push _)[w.heap.size]? = _
    rw [Array.getElem?_push_size]
  have HF : Hid (P (.returned (.tuple #[.slice none 0 0, .slice none 0 0, .int .i64 0, .int .i64 0])) W1) := by
    show P _ _
    have hr : readF [] m 0 [] [] = .ok ([], []) := by rw [readF_eq]; rfl
    have h1 : fdec [] m = ([], 0, 0) := by unfold fdec; rw [if_neg (by omega), Int.toNat_natCast, hr]; rfl
    have h2 : ffr [] m = ([], 0, 0) := by unfold ffr; rw [if_neg (by omega), Int.toNat_natCast, hr]; rfl
    rw [hP]
    unfold Rd4
    rw [h1, h2]
    exact ⟨none, 0, none, 0, rfl, rfl, Mine.nil _ _, .inl ⟨rfl, rfl⟩, hN1⟩
  have x1 := (row_cell hrow 1 _ rfl).1
  have x3 := (row_cell hrow 3 _ rfl).1
  have HW1 : Hid (w.alloc (.cells #[.slice a 0 c, .int .i64 0, .int .i64 m, .slice none 0 0] 65) = W1) := hW1
  have z0 : ¬ (m : Int) < 0 := by omega
  have z1 : ¬ (4194304 : Int) < (m : Int) := by omega
  clear hP hN1 hrow hW1
  go_enter Try.func18, Try.ntmps18
  go_upto_region 4 with fail
  rw [HW1.out]
  go_wp2_with fail
  go_loopg [9] 0 (fun kx vl wr => vl = .slice none 0 0 ∧ wr = W1)
  case atStart => exact ⟨rfl, rfl⟩
  case round =>
    obtain ⟨rfl, rfl⟩ := hrel
    go_wp2_with fail
    (try simp only [Exit.inBlock, Exit.then])
    exact rret rfl HF.out
set_option maxHeartbeats 40000000 in
set_option maxRecDepth 100000 in
theorem dRead_some (w : World) (g o L c : Nat) (b : List By) (hL : b.length = L) (hg : g < w.heap.size) (hrd : Rd g o b w) (hcb : L ≤ c) (hc2 : c < 9223372036854775808) (m : Nat) (hm : m ≤ 4194304) (hbl : L ≤ 8000000000) : Calls Try.prog 18 #[.slice (some ⟨g, o, none⟩) L c, .int .i64 m] w (Rd4 b m w) := by
  obtain ⟨P, hP⟩ : ∃ P : Ending → World → Prop, P = Rd4 b m w := ⟨_, rfl⟩
  rw [← hP]
  obtain ⟨W1, hW1⟩ : ∃ W1, w.alloc (.cells #[.slice (some ⟨g, o, none⟩) L c, .int .i64 0, .int .i64 m, .slice none 0 0] 65) = W1 := ⟨_, rfl⟩
  have hN1 : Nw w W1 := by rw [← hW1]; exact (Fr.refl _ _).alloc _
  have hrow : W1.heap[w.heap.size]? = some (.cells #[.slice (some ⟨g, o, none⟩) L c, .int .i64 0, .int .i64 m, .slice none 0 0] 65) := by
    rw [← hW1]
    show (w.heap.push _)[w.heap.size]? = _
    rw [Array.getElem?_push_size]
  have hs1 := (Array.getElem?_eq_some_iff.1 hrow).1
  have HI0 : Hid (RdS w.heap.size g o c b m w 0 [] [] (.slice none 0 0) W1) := by
    refine ⟨fun k => k ≤ w.heap.size, ⟨⟨.slice none 0 0, by rw [hL]; exact hrow, Mine.nil _ _⟩, Nat.le_refl _, Nat.le_refl _, fun k hk => by show k ≤ w.heap.size; omega, hg, hrd.nw hN1, fun k hk => by have : k ≤ w.heap.size := hk; omega, by omega, hc2, by omega, by simp, hm, by omega⟩, .inl ⟨rfl, rfl⟩, rfl, by simp, hN1⟩
  have HP : Hid (P = Rd4 b m w) := hP
  have HL : Hid (b.length = L) := hL
  have HW1 : Hid (w.alloc (.cells #[.slice (some ⟨g, o, none⟩) L c, .int .i64 0, .int .i64 m, .slice none 0 0] 65) = W1) := hW1
  have z0 : ¬ (m : Int) < 0 := by omega
  have z1 : ¬ (4194304 : Int) < (m : Int) := by omega
  clear hP hN1 hrow hW1 hs1 hrd hL hg
  go_enter Try.func18, Try.ntmps18
  go_upto_region 4 with fail
  rw [HW1.out]
  go_wp2_with fail
  go_loopg [9] L (fun kx vl wr => ∃ (p : Nat) (out : List By) (fs : List Fm) (la : Option Addr) (ll lc : Nat), p ≤ L ∧ L - p ≤ kx ∧ vl = .slice la ll lc ∧ Hid (RdS w.heap.size g o c b m w p out fs (.slice la ll lc) wr))
  case atStart => exact ⟨0, [], [], none, 0, 0, by omega, by omega, rfl, HI0.out⟩
  case round =>
    obtain ⟨p, out, fs, la, ll, lc, hp, hkx, rfl, HI⟩ := hrel
    clear HI0
    have HX := HI.out
    obtain ⟨K, hR, hFL, hrf, hlen, hN⟩ := HX
    obtain ⟨x0, x1, x2⟩ := RK.of hR
    rw [HL.out] at x0
    by_cases hlt : p < L
    · have hz : (p : Int) < (L : Int) := by omega
      have HASN : Hid (∀ v : Bool, decide (p + 4 ≤ L) = v → Calls Try.prog 34 #[.pointer (some ⟨w.heap.size, 0, none⟩), .int .u64 4] wr fun e w1 => e = .returned (.bool v) ∧ RK w.heap.size g o c L p w1 ∧ Hid (RdS w.heap.size g o c b m w p out fs (.slice la ll lc) w1)) := fun v hv => by
        have hh := has_call hR 4 (by decide) v (by rw [HL.out]; exact hv)
        rw [HL.out] at hh
        refine hh.mono ?_
        rintro e w1 ⟨h1, h2, h3⟩
        exact ⟨h1, h2, K, hR.nw h3.out, hFL.kept h3.out (fun k hk => hk.elim) (fun k hk => hk), hrf, hlen, hN.trans h3.out⟩
      by_cases q4 : L < p + 4
      · have HH : Hid (Calls Try.prog 34 #[.pointer (some ⟨w.heap.size, 0, none⟩), .int .u64 4] wr fun e w1 => e = .returned (.bool false) ∧ RK w.heap.size g o c L p w1 ∧ Hid (RdS w.heap.size g o c b m w p out fs (.slice la ll lc) w1)) := HASN.out false (decide_eq_false (by omega))
        have HF : Hid (∀ V, RdS w.heap.size g o c b m w p out fs (.slice la ll lc) V → P (.returned (.tuple #[.slice none 0 0, .slice none 0 0, .int .i64 L, .int .i64 4])) V) := fun V hV => by
          rw [HP.out]
          have hNV : Nw w V := by obtain ⟨_, _, _, _, _, h⟩ := hV; exact h
          refine Rd4.bad hm ((hV.next (by rw [HL.out]; exact hlt)).1 _ _ ?_) hNV
          unfold nextF
          rw [if_pos (by rw [HL.out]; exact q4), HL.out]
        clear HASN hR hFL hrf hlen hN HI
        go_wp2_with (first | (go_at_call 34; (with_reducible refine HH.out.mono ?_); rintro e w1 ⟨rfl, ⟨y0, y1, y2⟩, H1⟩))
        (try simp only [Exit.inBlock, Exit.then])
        exact rret rfl (HF.out _ H1.out)
      · obtain ⟨y0, hy0⟩ : ∃ y0, b[p]? = some y0 := ⟨_, List.getElem?_eq_getElem (by rw [HL.out]; omega)⟩
        obtain ⟨p4, hp4⟩ : ∃ p4, p + 4 = p4 := ⟨_, rfl⟩
        have hp4q : (p : Int) + 4 = (p4 : Int) := by omega
        have hp4w : IntKind.i64.wrap (p4 : Int) = (p4 : Int) := by rw [IntKind.wrap_i64]; omega
        have hzc : ¬ c = p := by omega
        have hzl : (p : Int) ≤ (L : Int) := by omega
        have hy8 := y0.isLt
        have hyw : IntKind.i64.wrap ((y0.toNat : Int) - 80) = (y0.toNat : Int) - 80 := by rw [IntKind.wrap_i64]; omega
        clear hR hFL hrf hlen hN HI
        obtain ⟨kk, hkk⟩ : ∃ kk, knd (b.drop p) = kk := ⟨_, rfl⟩
        have hk3 : kk = 0 ∨ kk = 1 ∨ kk = 2 := by
          rw [← hkk]; unfold knd
          split
          · simp
          · split
            · simp
            · split <;> simp
        rcases hk3 with rfl | rfl | rfl
        · skip
          have HH : Hid (Calls Try.prog 34 #[.pointer (some ⟨w.heap.size, 0, none⟩), .int .u64 4] wr fun e w1 => e = .returned (.bool true) ∧ RK w.heap.size g o c L p w1 ∧ Hid (RdS w.heap.size g o c b m w p out fs (.slice la ll lc) w1)) := HASN.out true (decide_eq_true (by omega))
          clear HASN
          go_upto_region 8 with (first | (go_at_call 34; (with_reducible refine HH.out.mono ?_); rintro e w1 ⟨rfl, ⟨x0, x1, x2⟩, H1⟩))
          obtain ⟨⟨z0, z1, z2⟩, hcy, HMG, R0, R1, R2⟩ := rd_round P HP.out hm H1.out (by rw [HL.out]; omega) (by rw [HL.out]; exact hbl) y0 hy0
          rw [HL.out] at z0 HMG
          rw [hkk] at HMG
          clear HH H1
          go_upto_region 9 with fail
          have hw : w1.alloc (.cells #[.int .i64 p, .int .i64 0, .bool false, .int .i64 0, .int .i64 0, .bool false, .bool false, .bool false, .bool false, .int .i64 0, .int .i64 0, .int .i64 0] 49) = w1.alloc (.cells (frow (Fm.start p)) 49) := rfl
          rw [hw]
          clear hw x0 x1 x2
          have HF := R0 hkk
          clear R0 R1 R2
          generalize w1.alloc (.cells (frow (Fm.start p)) 49) = V2 at *
          go_wp2_with (first | (go_at_call 35; (with_reducible refine HMG.out.mono ?_); rintro e w2 ⟨rfl, rfl⟩))
          go_quiet (fail)
          go_wp2
          (try simp only [Exit.inBlock, Exit.then])
          exact rret rfl (HF.out _)
        · skip
          have HH : Hid (Calls Try.prog 34 #[.pointer (some ⟨w.heap.size, 0, none⟩), .int .u64 4] wr fun e w1 => e = .returned (.bool true) ∧ RK w.heap.size g o c L p w1 ∧ Hid (RdS w.heap.size g o c b m w p out fs (.slice la ll lc) w1)) := HASN.out true (decide_eq_true (by omega))
          clear HASN
          go_upto_region 8 with (first | (go_at_call 34; (with_reducible refine HH.out.mono ?_); rintro e w1 ⟨rfl, ⟨x0, x1, x2⟩, H1⟩))
          obtain ⟨⟨z0, z1, z2⟩, hcy, HMG, R0, R1, R2⟩ := rd_round P HP.out hm H1.out (by rw [HL.out]; omega) (by rw [HL.out]; exact hbl) y0 hy0
          rw [HL.out] at z0 HMG
          rw [hkk] at HMG
          clear HH H1
          go_upto_region 9 with fail
          have hw : w1.alloc (.cells #[.int .i64 p, .int .i64 0, .bool false, .int .i64 0, .int .i64 0, .bool false, .bool false, .bool false, .bool false, .int .i64 0, .int .i64 0, .int .i64 0] 49) = w1.alloc (.cells (frow (Fm.start p)) 49) := rfl
          rw [hw]
          clear hw x0 x1 x2
          have HE := R1 hkk
          clear R0 R1 R2
          rw [hp4] at HE
          generalize w1.alloc (.cells (frow (Fm.start p)) 49) = V2 at *
          go_upto_region 14 with (first | (go_at_call 35; (with_reducible refine HMG.out.mono ?_); rintro e w2 ⟨rfl, rfl⟩))
          generalize w2.setCell ⟨w.heap.size, 1, none⟩ (.int .i64 p4) = V3 at *
          go_wp2_with fail
          go_at_call 36
          with_reducible refine HE.out.mono ?_
          rintro e w5 (⟨a', y', hy', rfl, HF⟩ | ⟨rfl, f, out', fs', hbox, a2, k2, W, HAP, g1, g2, HN⟩)
          · clear z0 z1 z2 hcy
            go_wp2_with fail
            (try simp only [Exit.inBlock, Exit.then])
            exact rret rfl HF.out
          · clear z0 z1 z2 hcy HE HMG
            rw [HL.out] at g2
            obtain ⟨frm, till, skp, usr, ⟨blk, al, bsm, csm, csz⟩, nb, npl, sz⟩ := f
            unfold frow at hbox HAP
            simp only at hbox HAP g1 g2
            go_wp2_with (first | (refine wpList_load_row rfl 49 _ rfl w1.heap.size (by simp [Act.eval]) 49 _ (0, 0) _ hbox Try.underlying49 rfl (by rw [sizeF]; rfl) ?_) | (at_builtin; refine Lib.wpList_append_run _ rfl _ _ 34 34 rfl (.slice la ll lc) (.slice (some ⟨w5.heap.size, 0, none⟩) 1 1) (by simp [Act.eval]) (by simp [Act.eval]) _ _ (HAP.out _) ?_))
            go_roundg (L - till)
            all_goals (first | omega | exact ⟨till, out', fs', a2, ll + 1, k2, by omega, by omega, rfl, HN.out⟩)
        · skip
          have HH : Hid (Calls Try.prog 34 #[.pointer (some ⟨w.heap.size, 0, none⟩), .int .u64 4] wr fun e w1 => e = .returned (.bool true) ∧ RK w.heap.size g o c L p w1 ∧ Hid (RdS w.heap.size g o c b m w p out fs (.slice la ll lc) w1)) := HASN.out true (decide_eq_true (by omega))
          clear HASN
          go_upto_region 8 with (first | (go_at_call 34; (with_reducible refine HH.out.mono ?_); rintro e w1 ⟨rfl, ⟨x0, x1, x2⟩, H1⟩))
          obtain ⟨⟨z0, z1, z2⟩, hcy, HMG, R0, R1, R2⟩ := rd_round P HP.out hm H1.out (by rw [HL.out]; omega) (by rw [HL.out]; exact hbl) y0 hy0
          rw [HL.out] at z0 HMG
          rw [hkk] at HMG
          clear HH H1
          go_upto_region 9 with fail
          have hw : w1.alloc (.cells #[.int .i64 p, .int .i64 0, .bool false, .int .i64 0, .int .i64 0, .bool false, .bool false, .bool false, .bool false, .int .i64 0, .int .i64 0, .int .i64 0] 49) = w1.alloc (.cells (frow (Fm.start p)) 49) := rfl
          rw [hw]
          clear hw x0 x1 x2
          obtain ⟨u, hu, ⟨x3, c3⟩, c4, HE⟩ := R2 hkk
          have huw : IntKind.i64.wrap (u : Int) = (u : Int) := by rw [IntKind.wrap_i64]; have := y0.isLt; omega
          clear R0 R1 R2
          rw [hp4] at HE c3 c4
          generalize w1.alloc (.cells (frow (Fm.start p)) 49) = V2 at *
          go_upto_region 14 with (first | (go_at_call 35; (with_reducible refine HMG.out.mono ?_); rintro e w2 ⟨rfl, rfl⟩))
          generalize w2.setCell ⟨w.heap.size, 1, none⟩ (.int .i64 p4) = V3 at *
          go_upto_region 18 with fail
          generalize V3.setCell ⟨w1.heap.size, 3, none⟩ (.int .i64 u) = V4 at *
          go_wp2_with fail
          go_at_call 37
          with_reducible refine HE.out.mono ?_
          rintro e w5 (⟨a', y', hy', rfl, HF⟩ | ⟨rfl, f, out', fs', hbox, a2, k2, W, HAP, g1, g2, HN⟩)
          · clear z0 z1 z2 hcy
            go_wp2_with fail
            (try simp only [Exit.inBlock, Exit.then])
            exact rret rfl HF.out
          · clear z0 z1 z2 hcy HE HMG
            rw [HL.out] at g2
            obtain ⟨frm, till, skp, usr, ⟨blk, al, bsm, csm, csz⟩, nb, npl, sz⟩ := f
            unfold frow at hbox HAP
            simp only at hbox HAP g1 g2
            go_wp2_with (first | (refine wpList_load_row rfl 49 _ rfl w1.heap.size (by simp [Act.eval]) 49 _ (0, 0) _ hbox Try.underlying49 rfl (by rw [sizeF]; rfl) ?_) | (at_builtin; refine Lib.wpList_append_run _ rfl _ _ 34 34 rfl (.slice la ll lc) (.slice (some ⟨w5.heap.size, 0, none⟩) 1 1) (by simp [Act.eval]) (by simp [Act.eval]) _ _ (HAP.out _) ?_))
            go_roundg (L - till)
            all_goals (first | omega | exact ⟨till, out', fs', a2, ll + 1, k2, by omega, by omega, rfl, HN.out⟩)
    · obtain rfl : p = L := by omega
      have hz : ¬ (p : Int) < (p : Int) := by omega
      obtain ⟨_, _, _, _, _, a4, k4, hv4, _, _, hM4⟩ := hR.cells
      have hrk : readF b m 0 [] [] = .ok (out, fs) := by rw [← hrf, readF_eq, if_neg (by rw [HL.out]; omega)]
      have HF : Hid (P (.returned (.tuple #[.slice a4 out.length k4, .slice la ll lc, .int .i64 p, .int .i64 0])) wr) := by
        show P _ _
        have h1 : fdec b m = (out, b.length, 0) := by unfold fdec; rw [if_neg (by omega), Int.toNat_natCast, hrk]
        have h2 : ffr b m = (fs, b.length, 0) := by unfold ffr; rw [if_neg (by omega), Int.toNat_natCast, hrk]
        obtain ⟨la', lc', e, _, _⟩ := hFL.form
        injection e with e1 e2 e3
        subst e2
        rw [HP.out]
        unfold Rd4
        rw [h1, h2, HL.out]
        refine ⟨a4, k4, la, lc, rfl, rfl, ?_, ?_, hN⟩
        · exact hM4.more (fun k hk => .inl (hR.low k hk))
        · rcases hFL with h | ⟨lg, _, h9, _, h⟩
          · exact .inl h
          · exact .inr ⟨lg, h9, h⟩
      clear hR hFL hrf hlen hN HI hrk hM4
      generalize out.length = ol at *
      go_wp2_with fail
      (try simp only [Exit.inBlock, Exit.then])
      exact rret rfl HF.out
theorem dRead_any (w : World) (a : Option Addr) (L c : Nat) (b : List By) (hL : b.length = L) (hb : Old w (.slice a L c) b) (most : Int) (hbl : L ≤ 8000000000) : Calls Try.prog 18 #[.slice a L c, .int .i64 most] w (Rd4 b most w) := by
  by_cases hm : most < 0 ∨ 4194304 < most
  · exact dRead_arg w a L c b most hm
  · obtain ⟨m, rfl⟩ : ∃ m : Nat, most = m := ⟨most.toNat, by omega⟩
    subst hL
    obtain ⟨a0, c0, e0, h1, h2, h3⟩ := hb.open
    injection e0 with e1 _ e3
    subst e1 e3
    by_cases hn : b = []
    · subst hn
      exact dRead_nil w a c m (by omega)
    · obtain ⟨g, o, rfl, hg, hrd⟩ := h3 hn
      exact dRead_some w g o _ c b rfl hg hrd h1 h2 m (by omega) hbl
end Go.Proofs.Ytdeefemeiggolaa

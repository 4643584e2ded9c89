import Derived.Test.YtincbbnppcpfpaaDoorTbj
namespace Go.Proofs.YtincbbnppcpfpaaDoor
open Go.RowKit
set_option linter.unusedVariables false
variable {m rb : Nat} {b : List By} {w : World}
theorem why_stays {f t : Nat} (h : f ≤ t) (h0 : ¬ whyOf m (b.take f) = 0) : whyOf m (b.take t) = whyOf m (b.take f) := by
  have h4 : (rf m (b.take f)).2.2 ≠ 4 := fun e => h0 (by unfold whyOf; rw [if_pos e])
  have := rf_end ((b.drop f).take (t - f)) h4
  rw [take_tk b f t h] at this
  unfold whyOf
  rw [this]
set_option maxHeartbeats 64000000 in
set_option maxRecDepth 100000 in
theorem fed_any (w : World) (ab : Option Addr) (cb : Nat) (b : List By) (hb : Old w (.slice ab b.length cb) b) (m : Nat) (hm : m ≤ 4194304) (ac : Option Addr) (cc : Nat) (cs : List Int) (hc : SlR RI (fun k => w.heap.size ≤ k) (.slice ac cs.length cc) cs w) (hcw : ∀ z ∈ cs, -9223372036854775808 ≤ z ∧ z < 9223372036854775808) (hbl : b.length ≤ 140737488351232) (hcl : cs.length ≤ 17592186043904) (hT : Tab w) :
    Calls Tryd.prog 19 #[.slice ab b.length cb, .int .i64 m, .slice ac cs.length cc] w fun e w' => ∃ oa on oc rb, e = .returned (.tuple #[.slice oa on oc, .int .i64 (whyOf m b : Nat), .pointer (some ⟨rb, 0, none⟩)]) ∧ FdL w b m rb b.length (.slice oa on oc) w' := by
  obtain ⟨P, hP⟩ : ∃ P : Ending → World → Prop, P = fun e w' => ∃ oa on oc rb, e = .returned (.tuple #[.slice oa on oc, .int .i64 (whyOf m b : Nat), .pointer (some ⟨rb, 0, none⟩)]) ∧ FdL w b m rb b.length (.slice oa on oc) w' := ⟨_, rfl⟩
  rw [← hP]
  have HP : Hid (P = fun e w' => ∃ oa on oc rb, e = .returned (.tuple #[.slice oa on oc, .int .i64 (whyOf m b : Nat), .pointer (some ⟨rb, 0, none⟩)]) ∧ FdL w b m rb b.length (.slice oa on oc) w') := hP
  clear hP
  obtain ⟨rb, hrb⟩ : ∃ rb, rb = w.heap.size + 1 := ⟨_, rfl⟩
  have HNR : Hid (Calls Tryd.prog 18 #[.int .i64 m] w fun e w1 => e = .returned (.tuple #[.pointer (some ⟨rb, 0, none⟩), .int .i64 0]) ∧ Hid (FdL w b m rb 0 (.slice none 0 0) w1)) := by
    show Calls _ _ _ _ _
    refine (inew_any w m hT).mono ?_
    rintro e w1 ⟨_, h2⟩
    obtain ⟨q1, q2, q3⟩ := h2 m rfl hm
    rw [hrb]
    exact ⟨q1, fdl_start hT q2 q3⟩
  have HT : Hid (Tab w) := hT
  have HB : Hid (Old w (.slice ab b.length cb) b) := hb
  have HC : Hid (SlR RI (fun k => w.heap.size ≤ k) (.slice ac cs.length cc) cs w ∧ ∀ z ∈ cs, -9223372036854775808 ≤ z ∧ z < 9223372036854775808) := ⟨hc, hcw⟩
  obtain ⟨_, _, eb, hca0, hca2⟩ := hb.form
  have hca : cb = 0 ∨ ∃ g o, ab = some ⟨g, o, none⟩ := by
    rcases hb with ⟨a', e, _⟩ | ⟨g, _, o, c', e, _⟩
    · injection e with _ _ e3; exact .inl e3
    · injection e with e1; exact .inr ⟨g, o, e1⟩
  have hlc : b.length ≤ cb := by
    injection eb with _ _ e3
    omega
  obtain ⟨L, hL⟩ : ∃ L, b.length = L := ⟨_, rfl⟩
  have HLb : Hid (b.length = L) := hL
  obtain ⟨N, hN⟩ : ∃ N, cs.length = N := ⟨_, rfl⟩
  have HN : Hid (cs.length = N) := hN
  rw [hL] at hbl hlc ⊢
  rw [hN] at hcl ⊢
  clear hL hN hb hc hcw hT hrb eb hca0 hca2
  go_enter Tryd.func19, Tryd.ntmps19
  go_wp2_with (first | (go_at_call 18; (with_reducible refine HNR.out.mono ?_); rintro e w1 ⟨rfl, K1⟩))
  go_loopg [11, 12, 13, 14] (N + 1) (fun kx vo vf vfr vi wr => ∃ (i F Y : Nat) (oa : Option Addr) (on oc : Nat), i ≤ N + 1 ∧ N + 1 - i ≤ kx ∧ vo = .slice oa on oc ∧ vf = .int .i64 Y ∧ vfr = .int .i64 F ∧ vi = .int .i64 i ∧ F ≤ L ∧ (i = N + 1 → F = L) ∧ Hid (FdL w b m rb F (.slice oa on oc) wr ∧ Y = whyOf m (b.take F)))
  case atStart => exact ⟨0, 0, 0, none, 0, 0, by omega, by omega, rfl, rfl, rfl, rfl, by omega, fun e => by omega, K1.out, by unfold whyOf; rw [List.take_zero, rf_nil]; rfl⟩
  case round =>
    obtain ⟨i, F, Y, oa, on, oc, hi, hkx, rfl, rfl, rfl, rfl, hF, hFe, HI⟩ := hrel
    clear HNR K1
    by_cases hle : i ≤ N
    · have hz1 : (i : Int) ≤ (N : Int) := by omega
      by_cases hlt : i < N
      · have hz2 : (i : Int) < (N : Int) := by omega
        have hi' : i < cs.length := by rw [HN.out]; exact hlt
        obtain ⟨C, hC⟩ : ∃ C, cs[i]? = some C := ⟨_, List.getElem?_eq_getElem hi'⟩
        obtain ⟨gc, oc', rfl, _, hcell⟩ := HC.out.1.at i C hC
        have hnw : Nw w wr := by
          obtain ⟨_, _, _, _, _, _, _, _, _, _, hh⟩ := HI.out.1
          exact hh
        obtain ⟨hw1, hw2⟩ := HC.out.2 C (List.mem_of_getElem? hC)
        have hcx : wr.cell? ⟨gc, oc' + i, none⟩ = some (.int .i64 C) := by
          have := hnw.cell (hcell 0 (.int .i64 C) rfl)
          rw [show oc' + i * RI.k + 0 = oc' + i by show oc' + i * 1 + 0 = _; omega] at this
          exact this
        clear hcell hnw
        by_cases hb1 : C < (F : Int)
        · have HR : Hid (∃ (i' F' Y' : Nat) (oa' : Option Addr) (on' oc' : Nat), i' ≤ N + 1 ∧ N + 1 - i' ≤ N - i ∧ (.slice oa on oc : Value) = .slice oa' on' oc' ∧ (.int .i64 ((Y : Nat) : Int) : Value) = .int .i64 Y' ∧ (.int .i64 (F : Int) : Value) = .int .i64 F' ∧ (.int .i64 ((i : Int) + 1) : Value) = .int .i64 i' ∧ F' ≤ L ∧ (i' = N + 1 → F' = L) ∧ Hid (FdL w b m rb F' (.slice oa' on' oc') wr ∧ Y' = whyOf m (b.take F'))) := ⟨i + 1, F, Y, oa, on, oc, by omega, by omega, rfl, rfl, rfl, by rw [Int.natCast_add]; rfl, hF, fun e => by omega, HI.out.1, HI.out.2⟩
          clear HI HB HC
          go_wp2_with fail
          go_roundg (N - i)
          all_goals (first | omega | exact HR.out)
        · by_cases hb2 : (L : Int) < C
          · have HR : Hid (∃ (i' F' Y' : Nat) (oa' : Option Addr) (on' oc' : Nat), i' ≤ N + 1 ∧ N + 1 - i' ≤ N - i ∧ (.slice oa on oc : Value) = .slice oa' on' oc' ∧ (.int .i64 ((Y : Nat) : Int) : Value) = .int .i64 Y' ∧ (.int .i64 (F : Int) : Value) = .int .i64 F' ∧ (.int .i64 ((i : Int) + 1) : Value) = .int .i64 i' ∧ F' ≤ L ∧ (i' = N + 1 → F' = L) ∧ Hid (FdL w b m rb F' (.slice oa' on' oc') wr ∧ Y' = whyOf m (b.take F'))) := ⟨i + 1, F, Y, oa, on, oc, by omega, by omega, rfl, rfl, rfl, by rw [Int.natCast_add]; rfl, hF, fun e => by omega, HI.out.1, HI.out.2⟩
            clear HI HB HC
            go_wp2_with fail
            go_roundg (N - i)
            all_goals (first | omega | exact HR.out)
          · obtain ⟨C', rfl⟩ : ∃ C' : Nat, C = C' := ⟨C.toNat, by omega⟩
            have hFt : F ≤ C' := by omega
            have htL : C' ≤ L := by omega
            have hend : i + 1 = N + 1 → C' = L := fun e => by omega
            clear hb1 hb2
            have hnF : ¬ (C' : Int) < (F : Int) := by omega
            have hnL : ¬ (L : Int) < (C' : Int) := by omega
            have hnw : Nw w wr := by
              obtain ⟨_, _, _, _, _, _, _, _, _, _, hh⟩ := HI.out.1
              exact hh
            obtain ⟨Y2, hY2⟩ : ∃ Y2, Y2 = whyOf m (b.take C') := ⟨_, rfl⟩
            have HY2 : Hid (Y2 = whyOf m (b.take C')) := hY2
            clear hY2
            obtain ⟨Q, hQ⟩ : ∃ Q, Q = C' - F := ⟨_, rfl⟩
            have hq1 : (C' : Int) - (F : Int) = (Q : Int) := by omega
            have hq3 : C' - F = Q := hQ.symm
            have hzt : (F : Int) ≤ (C' : Int) := by omega
            have hztc : (C' : Int) ≤ (cb : Int) := by omega
            obtain ⟨hcut1, hcut2⟩ := old_cut (b := b) (Sl.later HB.out hnw) F (C' - F) (by rw [HLb.out]; omega)
            by_cases hcf : cb = F
            · have hvs : Old wr (.slice ab Q 0) ((b.drop F).take (C' - F)) := by rw [hQ]; exact hcut1 hcf ab
              clear hcut1 hcut2
              subst hcf
              obtain ⟨g1, c1, W1, HAP1, HFD⟩ := fdl_step HI.out.1 hFt (by rw [HLb.out]; exact htL) (by rw [HLb.out]; exact hbl) hm HT.out _ hvs
              rw [← hQ] at HAP1 HFD
              clear hvs hQ
              by_cases hY0 : Y = 0
              · have HR : Hid (∀ va vn vc W3, FdL w b m rb C' (.slice va vn vc) W3 → ∃ (i' F' Y' : Nat) (oa' : Option Addr) (on' oc' : Nat), i' ≤ N + 1 ∧ N + 1 - i' ≤ N - i ∧ (.slice va vn vc : Value) = .slice oa' on' oc' ∧ (.int .i64 ((Y2 : Nat) : Int) : Value) = .int .i64 Y' ∧ (.int .i64 (C' : Int) : Value) = .int .i64 F' ∧ (.int .i64 ((i : Int) + 1) : Value) = .int .i64 i' ∧ F' ≤ L ∧ (i' = N + 1 → F' = L) ∧ Hid (FdL w b m rb F' (.slice oa' on' oc') W3 ∧ Y' = whyOf m (b.take F'))) := fun va vn vc W3 hh => ⟨i + 1, C', Y2, va, vn, vc, by omega, by omega, rfl, rfl, rfl, by rw [Int.natCast_add]; rfl, htL, hend, hh, HY2.out⟩
                rw [← HY2.out] at HFD
                have hzY : ((Y : Int) == 0) = true := by rw [hY0]; rfl
                clear hY0 hend HI HB HC
                go_wp2_with (first | (at_builtin; refine Lib.wpList_append_run _ rfl _ _ 22 22 rfl (.slice (some ⟨wr.heap.size, 0, none⟩) 0 0) (.slice ab Q 0) (by simp [Act.eval]) (by simp [Act.eval]) _ _ (HAP1.out _) ?_) | (go_at_call 29; (with_reducible refine HFD.out.mono ?_); rintro e w2 ⟨pa, n, pc, rfl, va, vn, vc, W3, HAP3, HK⟩) | (at_builtin; refine Lib.wpList_append_run _ rfl _ _ 22 22 rfl (.slice oa on oc) (.slice pa n pc) (by simp [Act.eval]) (by simp [Act.eval]) _ _ (HAP3.out _) ?_))
                go_roundg (N - i)
                all_goals (first | omega | exact HR.out _ _ _ _ HK.out)
              · have hYY : Y = whyOf m (b.take C') := by
                  have h1 := HI.out.2
                  rw [h1] at hY0 ⊢
                  exact (why_stays hFt hY0).symm
                have HR : Hid (∀ va vn vc W3, FdL w b m rb C' (.slice va vn vc) W3 → ∃ (i' F' Y' : Nat) (oa' : Option Addr) (on' oc' : Nat), i' ≤ N + 1 ∧ N + 1 - i' ≤ N - i ∧ (.slice va vn vc : Value) = .slice oa' on' oc' ∧ (.int .i64 ((Y : Nat) : Int) : Value) = .int .i64 Y' ∧ (.int .i64 (C' : Int) : Value) = .int .i64 F' ∧ (.int .i64 ((i : Int) + 1) : Value) = .int .i64 i' ∧ F' ≤ L ∧ (i' = N + 1 → F' = L) ∧ Hid (FdL w b m rb F' (.slice oa' on' oc') W3 ∧ Y' = whyOf m (b.take F'))) := fun va vn vc W3 hh => ⟨i + 1, C', Y, va, vn, vc, by omega, by omega, rfl, rfl, rfl, by rw [Int.natCast_add]; rfl, htL, hend, hh, hYY⟩
                have hzY : ((Y : Int) == 0) = false := by simp only [beq_eq_false_iff_ne, ne_eq]; omega
                rw [← HY2.out] at HFD
                clear hY0 hend HI HB HC hYY
                go_wp2_with (first | (at_builtin; refine Lib.wpList_append_run _ rfl _ _ 22 22 rfl (.slice (some ⟨wr.heap.size, 0, none⟩) 0 0) (.slice ab Q 0) (by simp [Act.eval]) (by simp [Act.eval]) _ _ (HAP1.out _) ?_) | (go_at_call 29; (with_reducible refine HFD.out.mono ?_); rintro e w2 ⟨pa, n, pc, rfl, va, vn, vc, W3, HAP3, HK⟩) | (at_builtin; refine Lib.wpList_append_run _ rfl _ _ 22 22 rfl (.slice oa on oc) (.slice pa n pc) (by simp [Act.eval]) (by simp [Act.eval]) _ _ (HAP3.out _) ?_))
                go_roundg (N - i)
                all_goals (first | omega | exact HR.out _ _ _ _ HK.out)
            · rcases hca with hc0 | ⟨gb, ob, rfl⟩
              · omega
              · have hvs : Old wr (.slice (some ⟨gb, ob + F, none⟩) Q (cb - F)) ((b.drop F).take (C' - F)) := by rw [hQ]; exact hcut2 gb ob rfl
                clear hcut1 hcut2
                obtain ⟨g1, c1, W1, HAP1, HFD⟩ := fdl_step HI.out.1 hFt (by rw [HLb.out]; exact htL) (by rw [HLb.out]; exact hbl) hm HT.out _ hvs
                rw [← hQ] at HAP1 HFD
                clear hvs hQ
                by_cases hY0 : Y = 0
                · have HR : Hid (∀ va vn vc W3, FdL w b m rb C' (.slice va vn vc) W3 → ∃ (i' F' Y' : Nat) (oa' : Option Addr) (on' oc' : Nat), i' ≤ N + 1 ∧ N + 1 - i' ≤ N - i ∧ (.slice va vn vc : Value) = .slice oa' on' oc' ∧ (.int .i64 ((Y2 : Nat) : Int) : Value) = .int .i64 Y' ∧ (.int .i64 (C' : Int) : Value) = .int .i64 F' ∧ (.int .i64 ((i : Int) + 1) : Value) = .int .i64 i' ∧ F' ≤ L ∧ (i' = N + 1 → F' = L) ∧ Hid (FdL w b m rb F' (.slice oa' on' oc') W3 ∧ Y' = whyOf m (b.take F'))) := fun va vn vc W3 hh => ⟨i + 1, C', Y2, va, vn, vc, by omega, by omega, rfl, rfl, rfl, by rw [Int.natCast_add]; rfl, htL, hend, hh, HY2.out⟩
                  rw [← HY2.out] at HFD
                  have hzY : ((Y : Int) == 0) = true := by rw [hY0]; rfl
                  clear hY0 hend HI HB HC
                  go_wp2_with (first | (at_builtin; refine Lib.wpList_append_run _ rfl _ _ 22 22 rfl (.slice (some ⟨wr.heap.size, 0, none⟩) 0 0) (.slice (some ⟨gb, ob + F, none⟩) Q (cb - F)) (by simp [Act.eval]) (by simp [Act.eval]) _ _ (HAP1.out _) ?_) | (go_at_call 29; (with_reducible refine HFD.out.mono ?_); rintro e w2 ⟨pa, n, pc, rfl, va, vn, vc, W3, HAP3, HK⟩) | (at_builtin; refine Lib.wpList_append_run _ rfl _ _ 22 22 rfl (.slice oa on oc) (.slice pa n pc) (by simp [Act.eval]) (by simp [Act.eval]) _ _ (HAP3.out _) ?_))
                  go_roundg (N - i)
                  all_goals (first | omega | exact HR.out _ _ _ _ HK.out)
                · have hYY : Y = whyOf m (b.take C') := by
                    have h1 := HI.out.2
                    rw [h1] at hY0 ⊢
                    exact (why_stays hFt hY0).symm
                  have HR : Hid (∀ va vn vc W3, FdL w b m rb C' (.slice va vn vc) W3 → ∃ (i' F' Y' : Nat) (oa' : Option Addr) (on' oc' : Nat), i' ≤ N + 1 ∧ N + 1 - i' ≤ N - i ∧ (.slice va vn vc : Value) = .slice oa' on' oc' ∧ (.int .i64 ((Y : Nat) : Int) : Value) = .int .i64 Y' ∧ (.int .i64 (C' : Int) : Value) = .int .i64 F' ∧ (.int .i64 ((i : Int) + 1) : Value) = .int .i64 i' ∧ F' ≤ L ∧ (i' = N + 1 → F' = L) ∧ Hid (FdL w b m rb F' (.slice oa' on' oc') W3 ∧ Y' = whyOf m (b.take F'))) := fun va vn vc W3 hh => ⟨i + 1, C', Y, va, vn, vc, by omega, by omega, rfl, rfl, rfl, by rw [Int.natCast_add]; rfl, htL, hend, hh, hYY⟩
                  have hzY : ((Y : Int) == 0) = false := by simp only [beq_eq_false_iff_ne, ne_eq]; omega
                  rw [← HY2.out] at HFD
                  clear hY0 hend HI HB HC hYY
                  go_wp2_with (first | (at_builtin; refine Lib.wpList_append_run _ rfl _ _ 22 22 rfl (.slice (some ⟨wr.heap.size, 0, none⟩) 0 0) (.slice (some ⟨gb, ob + F, none⟩) Q (cb - F)) (by simp [Act.eval]) (by simp [Act.eval]) _ _ (HAP1.out _) ?_) | (go_at_call 29; (with_reducible refine HFD.out.mono ?_); rintro e w2 ⟨pa, n, pc, rfl, va, vn, vc, W3, HAP3, HK⟩) | (at_builtin; refine Lib.wpList_append_run _ rfl _ _ 22 22 rfl (.slice oa on oc) (.slice pa n pc) (by simp [Act.eval]) (by simp [Act.eval]) _ _ (HAP3.out _) ?_))
                  go_roundg (N - i)
                  all_goals (first | omega | exact HR.out _ _ _ _ HK.out)
      · obtain rfl : i = N := by omega
        have hz2 : ¬ (i : Int) < (i : Int) := by omega
        have hFt : F ≤ L := hF
        have htL : L ≤ L := Nat.le_refl _
        have hend : i + 1 = i + 1 → L = L := fun _ => rfl
        have hnF : ¬ (L : Int) < (F : Int) := by omega
        have hnL : ¬ (L : Int) < (L : Int) := by omega
        have hnw : Nw w wr := by
          obtain ⟨_, _, _, _, _, _, _, _, _, _, hh⟩ := HI.out.1
          exact hh
        obtain ⟨Y2, hY2⟩ : ∃ Y2, Y2 = whyOf m (b.take L) := ⟨_, rfl⟩
        have HY2 : Hid (Y2 = whyOf m (b.take L)) := hY2
        clear hY2
        obtain ⟨Q, hQ⟩ : ∃ Q, Q = L - F := ⟨_, rfl⟩
        have hq1 : (L : Int) - (F : Int) = (Q : Int) := by omega
        have hq3 : L - F = Q := hQ.symm
        have hzt : (F : Int) ≤ (L : Int) := by omega
        have hztc : (L : Int) ≤ (cb : Int) := by omega
        obtain ⟨hcut1, hcut2⟩ := old_cut (b := b) (Sl.later HB.out hnw) F (L - F) (by rw [HLb.out]; omega)
        by_cases hcf : cb = F
        · have hvs : Old wr (.slice ab Q 0) ((b.drop F).take (L - F)) := by rw [hQ]; exact hcut1 hcf ab
          clear hcut1 hcut2
          subst hcf
          obtain ⟨g1, c1, W1, HAP1, HFD⟩ := fdl_step HI.out.1 hFt (by rw [HLb.out]; exact htL) (by rw [HLb.out]; exact hbl) hm HT.out _ hvs
          rw [← hQ] at HAP1 HFD
          clear hvs hQ
          by_cases hY0 : Y = 0
          · have HR : Hid (∀ va vn vc W3, FdL w b m rb L (.slice va vn vc) W3 → ∃ (i' F' Y' : Nat) (oa' : Option Addr) (on' oc' : Nat), i' ≤ i + 1 ∧ i + 1 - i' ≤ i - i ∧ (.slice va vn vc : Value) = .slice oa' on' oc' ∧ (.int .i64 ((Y2 : Nat) : Int) : Value) = .int .i64 Y' ∧ (.int .i64 (L : Int) : Value) = .int .i64 F' ∧ (.int .i64 ((i : Int) + 1) : Value) = .int .i64 i' ∧ F' ≤ L ∧ (i' = i + 1 → F' = L) ∧ Hid (FdL w b m rb F' (.slice oa' on' oc') W3 ∧ Y' = whyOf m (b.take F'))) := fun va vn vc W3 hh => ⟨i + 1, L, Y2, va, vn, vc, by omega, by omega, rfl, rfl, rfl, by rw [Int.natCast_add]; rfl, htL, hend, hh, HY2.out⟩
            rw [← HY2.out] at HFD
            have hzY : ((Y : Int) == 0) = true := by rw [hY0]; rfl
            clear hY0 hend HI HB HC
            go_wp2_with (first | (at_builtin; refine Lib.wpList_append_run _ rfl _ _ 22 22 rfl (.slice (some ⟨wr.heap.size, 0, none⟩) 0 0) (.slice ab Q 0) (by simp [Act.eval]) (by simp [Act.eval]) _ _ (HAP1.out _) ?_) | (go_at_call 29; (with_reducible refine HFD.out.mono ?_); rintro e w2 ⟨pa, n, pc, rfl, va, vn, vc, W3, HAP3, HK⟩) | (at_builtin; refine Lib.wpList_append_run _ rfl _ _ 22 22 rfl (.slice oa on oc) (.slice pa n pc) (by simp [Act.eval]) (by simp [Act.eval]) _ _ (HAP3.out _) ?_))
            go_roundg (i - i)
            all_goals (first | omega | exact HR.out _ _ _ _ HK.out)
          · have hYY : Y = whyOf m (b.take L) := by
              have h1 := HI.out.2
              rw [h1] at hY0 ⊢
              exact (why_stays hFt hY0).symm
            have HR : Hid (∀ va vn vc W3, FdL w b m rb L (.slice va vn vc) W3 → ∃ (i' F' Y' : Nat) (oa' : Option Addr) (on' oc' : Nat), i' ≤ i + 1 ∧ i + 1 - i' ≤ i - i ∧ (.slice va vn vc : Value) = .slice oa' on' oc' ∧ (.int .i64 ((Y : Nat) : Int) : Value) = .int .i64 Y' ∧ (.int .i64 (L : Int) : Value) = .int .i64 F' ∧ (.int .i64 ((i : Int) + 1) : Value) = .int .i64 i' ∧ F' ≤ L ∧ (i' = i + 1 → F' = L) ∧ Hid (FdL w b m rb F' (.slice oa' on' oc') W3 ∧ Y' = whyOf m (b.take F'))) := fun va vn vc W3 hh => ⟨i + 1, L, Y, va, vn, vc, by omega, by omega, rfl, rfl, rfl, by rw [Int.natCast_add]; rfl, htL, hend, hh, hYY⟩
            have hzY : ((Y : Int) == 0) = false := by simp only [beq_eq_false_iff_ne, ne_eq]; omega
            rw [← HY2.out] at HFD
            clear hY0 hend HI HB HC hYY
            go_wp2_with (first | (at_builtin; refine Lib.wpList_append_run _ rfl _ _ 22 22 rfl (.slice (some ⟨wr.heap.size, 0, none⟩) 0 0) (.slice ab Q 0) (by simp [Act.eval]) (by simp [Act.eval]) _ _ (HAP1.out _) ?_) | (go_at_call 29; (with_reducible refine HFD.out.mono ?_); rintro e w2 ⟨pa, n, pc, rfl, va, vn, vc, W3, HAP3, HK⟩) | (at_builtin; refine Lib.wpList_append_run _ rfl _ _ 22 22 rfl (.slice oa on oc) (.slice pa n pc) (by simp [Act.eval]) (by simp [Act.eval]) _ _ (HAP3.out _) ?_))
            go_roundg (i - i)
            all_goals (first | omega | exact HR.out _ _ _ _ HK.out)
        · rcases hca with hc0 | ⟨gb, ob, rfl⟩
          · omega
          · have hvs : Old wr (.slice (some ⟨gb, ob + F, none⟩) Q (cb - F)) ((b.drop F).take (L - F)) := by rw [hQ]; exact hcut2 gb ob rfl
            clear hcut1 hcut2
            obtain ⟨g1, c1, W1, HAP1, HFD⟩ := fdl_step HI.out.1 hFt (by rw [HLb.out]; exact htL) (by rw [HLb.out]; exact hbl) hm HT.out _ hvs
            rw [← hQ] at HAP1 HFD
            clear hvs hQ
            by_cases hY0 : Y = 0
            · have HR : Hid (∀ va vn vc W3, FdL w b m rb L (.slice va vn vc) W3 → ∃ (i' F' Y' : Nat) (oa' : Option Addr) (on' oc' : Nat), i' ≤ i + 1 ∧ i + 1 - i' ≤ i - i ∧ (.slice va vn vc : Value) = .slice oa' on' oc' ∧ (.int .i64 ((Y2 : Nat) : Int) : Value) = .int .i64 Y' ∧ (.int .i64 (L : Int) : Value) = .int .i64 F' ∧ (.int .i64 ((i : Int) + 1) : Value) = .int .i64 i' ∧ F' ≤ L ∧ (i' = i + 1 → F' = L) ∧ Hid (FdL w b m rb F' (.slice oa' on' oc') W3 ∧ Y' = whyOf m (b.take F'))) := fun va vn vc W3 hh => ⟨i + 1, L, Y2, va, vn, vc, by omega, by omega, rfl, rfl, rfl, by rw [Int.natCast_add]; rfl, htL, hend, hh, HY2.out⟩
              rw [← HY2.out] at HFD
              have hzY : ((Y : Int) == 0) = true := by rw [hY0]; rfl
              clear hY0 hend HI HB HC
              go_wp2_with (first | (at_builtin; refine Lib.wpList_append_run _ rfl _ _ 22 22 rfl (.slice (some ⟨wr.heap.size, 0, none⟩) 0 0) (.slice (some ⟨gb, ob + F, none⟩) Q (cb - F)) (by simp [Act.eval]) (by simp [Act.eval]) _ _ (HAP1.out _) ?_) | (go_at_call 29; (with_reducible refine HFD.out.mono ?_); rintro e w2 ⟨pa, n, pc, rfl, va, vn, vc, W3, HAP3, HK⟩) | (at_builtin; refine Lib.wpList_append_run _ rfl _ _ 22 22 rfl (.slice oa on oc) (.slice pa n pc) (by simp [Act.eval]) (by simp [Act.eval]) _ _ (HAP3.out _) ?_))
              go_roundg (i - i)
              all_goals (first | omega | exact HR.out _ _ _ _ HK.out)
            · have hYY : Y = whyOf m (b.take L) := by
                have h1 := HI.out.2
                rw [h1] at hY0 ⊢
                exact (why_stays hFt hY0).symm
              have HR : Hid (∀ va vn vc W3, FdL w b m rb L (.slice va vn vc) W3 → ∃ (i' F' Y' : Nat) (oa' : Option Addr) (on' oc' : Nat), i' ≤ i + 1 ∧ i + 1 - i' ≤ i - i ∧ (.slice va vn vc : Value) = .slice oa' on' oc' ∧ (.int .i64 ((Y : Nat) : Int) : Value) = .int .i64 Y' ∧ (.int .i64 (L : Int) : Value) = .int .i64 F' ∧ (.int .i64 ((i : Int) + 1) : Value) = .int .i64 i' ∧ F' ≤ L ∧ (i' = i + 1 → F' = L) ∧ Hid (FdL w b m rb F' (.slice oa' on' oc') W3 ∧ Y' = whyOf m (b.take F'))) := fun va vn vc W3 hh => ⟨i + 1, L, Y, va, vn, vc, by omega, by omega, rfl, rfl, rfl, by rw [Int.natCast_add]; rfl, htL, hend, hh, hYY⟩
              have hzY : ((Y : Int) == 0) = false := by simp only [beq_eq_false_iff_ne, ne_eq]; omega
              rw [← HY2.out] at HFD
              clear hY0 hend HI HB HC hYY
              go_wp2_with (first | (at_builtin; refine Lib.wpList_append_run _ rfl _ _ 22 22 rfl (.slice (some ⟨wr.heap.size, 0, none⟩) 0 0) (.slice (some ⟨gb, ob + F, none⟩) Q (cb - F)) (by simp [Act.eval]) (by simp [Act.eval]) _ _ (HAP1.out _) ?_) | (go_at_call 29; (with_reducible refine HFD.out.mono ?_); rintro e w2 ⟨pa, n, pc, rfl, va, vn, vc, W3, HAP3, HK⟩) | (at_builtin; refine Lib.wpList_append_run _ rfl _ _ 22 22 rfl (.slice oa on oc) (.slice pa n pc) (by simp [Act.eval]) (by simp [Act.eval]) _ _ (HAP3.out _) ?_))
              go_roundg (i - i)
              all_goals (first | omega | exact HR.out _ _ _ _ HK.out)
    · have hz1 : ¬ (i : Int) ≤ (N : Int) := by omega
      have hFL := hFe (by omega)
      subst hFL
      have HF : Hid (P (.returned (.tuple #[.slice oa on oc, .int .i64 Y, .pointer (some ⟨rb, 0, none⟩)])) wr) := by
        show P _ _
        rw [HP.out]
        obtain ⟨q1, q2⟩ := HI.out
        rw [← HLb.out] at q1 q2
        rw [List.take_length] at q2
        exact ⟨oa, on, oc, rb, by rw [q2], q1⟩
      clear HI HB HC
      go_wp2_with fail
      exact HF.out
end Go.Proofs.YtincbbnppcpfpaaDoor

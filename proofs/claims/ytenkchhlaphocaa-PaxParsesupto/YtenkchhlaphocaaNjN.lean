import Derived.Test.YtenkchhlaphocaaNjM
namespace Go.Proofs.Ytenkchhlaphocaa
open Go.RowKit
set_option linter.unusedVariables false
theorem two_set {W : World} {rs T : Nat} {x : Pr} {a b : Value} (h : W.heap[rs]? = some (.cells (prC x) T)) : ((W.setCell ⟨rs, 0, none⟩ a).setCell ⟨rs, 1, none⟩ b).drew.heap[rs]? = some (.cells #[a, b] T) := by
  show ((W.setCell ⟨rs, 0, none⟩ a).setCell ⟨rs, 1, none⟩ b).heap[rs]? = _
  simp only [World.setCell, Array.getElem?_modify, h]
  simp [prC]
set_option maxHeartbeats 8000000 in
set_option maxRecDepth 100000 in
theorem rrec_any {X : Nat → Prop} (w : World) (a : Option Addr) (n c : Nat) (b : List By) (hb : Sl X (.slice a n c) b w) (hn : n ≤ 140737488351232) :
    Calls Try.prog 9 #[.slice a n c] w fun e w' => e = .returned (rxV (rc1 b)) ∧ Nw w w' := by
  obtain ⟨P, hP⟩ : ∃ P : Ending → World → Prop, P = fun e w' => e = .returned (rxV (rc1 b)) ∧ Nw w w' := ⟨_, rfl⟩
  rw [← hP]
  have HF : Hid (∀ r W, rc1 b = r → Nw w W → P (.returned (rxV r)) W) := fun r W h1 h2 => by rw [hP, h1]; exact ⟨rfl, h2⟩
  clear hP
  obtain ⟨hbn, k1, k2⟩ := sl_len hb
  obtain ⟨rs, hrs⟩ : ∃ rs, w.heap.size = rs := ⟨_, rfl⟩
  obtain ⟨W0, hW0⟩ : ∃ W0, w.alloc (.cells #[.string ⟨#[]⟩, .string ⟨#[]⟩] 30) = W0 := ⟨_, rfl⟩
  have hN0 : Nw w W0 := by rw [← hW0]; exact (Fr.refl _ _).alloc _
  have hR0 : W0.heap[rs]? = some (.cells (prC ([], [])) 30) := by rw [← hW0, ← hrs]; exact newHeap _ _
  have HR0 := tHid hR0
  have HW0 := tHid hW0
  have HRS := tHid hrs
  have HN0 := tHid hN0
  have HB := tHid (And.intro hbn (hb.nw hN0))
  clear hR0 hW0 hrs hN0 hb hbn
  go_enter Try.func9, Try.ntmps9
  go_upto_region 1 with fail
  rw [HW0.out, HRS.out]
  go_upto_region 2 with fail
  go_loopg [5, 6] n (fun kx v i wr => ∃ (I N : Nat), I ≤ n ∧ n - I ≤ kx ∧ I ≤ 7 ∧ i = .int .i64 I ∧ v = .int .i64 N ∧ N ≤ 10000000 ∧ wr = W0 ∧ Hid (la 0 0 b = la I N (b.drop I) ∧ N < 10 ^ I))
  case atStart => exact ⟨0, 0, by omega, by omega, by omega, rfl, rfl, by omega, rfl, rfl, by decide⟩
  case round =>
    obtain ⟨I, N, hI, hkx, hI7, rfl, rfl, hN, hw, HV⟩ := hrel
    have hw' := hw.symm
    subst hw'
    clear hw
    obtain ⟨hbn, hS⟩ := HB.out
    obtain ⟨hv, hNI⟩ := HV.out
    by_cases hlt : I < n
    · have hlt' : I < b.length := by omega
      obtain ⟨g, o, rfl, hcell⟩ := sl_cell hS I hlt'
      rw [List.drop_eq_getElem_cons hlt'] at hv
      generalize b[I] = x at *
      rw [la] at hv
      have hx256 := x.isLt
      obtain ⟨y, hy⟩ : ∃ y, x.toNat = y := ⟨_, rfl⟩
      have hx32 : x = 32#8 ↔ y = 32 := ⟨fun h => by rw [← hy, h]; rfl, fun h => BitVec.eq_of_toNat_eq (by rw [hy, h]; rfl)⟩
      have hx48 : x = 48#8 ↔ y = 48 := ⟨fun h => by rw [← hy, h]; rfl, fun h => BitVec.eq_of_toNat_eq (by rw [hy, h]; rfl)⟩
      simp only [hx32, hx48, hy] at hv
      rw [hy] at hcell hx256
      clear hx32 hx48 hbn hS HV hy hlt'
      have nIn : ¬ ((I : Int) = (n : Int)) := by omega
      have bIn : ((I : Int) == (n : Int)) = false := by rw [beq_eq_false_iff_ne]; exact nIn
      by_cases c1 : y = 32 ∧ 0 < I
      · rw [if_pos c1] at hv
        obtain ⟨rfl, h0⟩ := c1
        have h0' : (0 : Int) < (I : Int) := by omega
        have hrc : rc1 b = rc1 b := rfl
        conv at hrc => rhs; unfold rc1
        obtain ⟨hbn, hS⟩ := HB.out
        rw [hv, hbn] at hrc
        simp only at hrc
        rw [if_neg (by decide)] at hrc
        clear hv hNI
        obtain ⟨J, hJ⟩ : ∃ J, I + 1 = J := ⟨_, rfl⟩
        have hJi : (I : Int) + 1 = (J : Int) := by omega
        have hJ8 : J ≤ 8 := by omega
        go_upto_region 9 with fail
        by_cases d1 : N < I + 4
        · rw [if_pos (.inr d1)] at hrc
          have d1' : (N : Int) < (J : Int) + 3 := by omega
          have HF2 := tHid (HF.out _ W0 hrc HN0.out)
          clear HF hrc HB hbn hS hJ d1
          go_wp2_with (first
            | (refine wpList_store_row rfl 30 _ _ rfl rs (prC ([], [])) (by first | rfl | simp [Act.eval]) (by first | rfl | simp [Act.eval]) 30 _ HR0.out (pr_info _) rfl (pr_one _) ?_; rw [setRow_id HR0.out]))
          exact fretR rs (by first | rfl | simp [Act.put]) HR0.out (by first | rfl | simp [Act.put]) (by first | rfl | simp [Act.put]) rfl HF2.out
        · rw [if_neg (by rintro (h | h); exact h rfl; exact d1 h)] at hrc
          have d1' : ¬ (N : Int) < (J : Int) + 3 := by omega
          have d1d : decide ((N : Int) < (J : Int) + 3) = false := decide_eq_false d1'
          by_cases d2 : n < N
          · rw [if_pos d2] at hrc
            have d2' : (n : Int) < (N : Int) := by omega
            have HF2 := tHid (HF.out _ W0 hrc HN0.out)
            clear HF hrc HB hbn hS hJ d1
            go_wp2_with (first
              | (refine wpList_store_row rfl 30 _ _ rfl rs (prC ([], [])) (by first | rfl | simp [Act.eval]) (by first | rfl | simp [Act.eval]) 30 _ HR0.out (pr_info _) rfl (pr_one _) ?_; rw [setRow_id HR0.out]))
            exact fretR rs (by first | rfl | simp [Act.put]) HR0.out (by first | rfl | simp [Act.put]) (by first | rfl | simp [Act.put]) rfl HF2.out
          · rw [if_neg d2] at hrc
            have d2' : ¬ (n : Int) < (N : Int) := by omega
            have d2d : decide ((n : Int) < (N : Int)) = false := decide_eq_false d2'
            obtain ⟨K, hK⟩ : ∃ K, N - 1 = K := ⟨_, rfl⟩
            have hKi : (N : Int) - 1 = (K : Int) := by omega
            have hKl : K < b.length := by omega
            have hKn : (K : Int) < (n : Int) := by omega
            have hJK : J ≤ K := by omega
            have hKc : K ≤ c := by omega
            obtain ⟨g', o', hgo, hcK⟩ := sl_cell hS K hKl
            injection hgo with hgo
            injection hgo with q1 q2 _
            subst q1 q2
            have hb10 := nth_eq b[K] 10 (by decide)
            rw [hK, List.getElem?_eq_getElem hKl, hJ] at hrc
            by_cases d3 : b[K] = 10#8
            · rw [decide_eq_true d3] at hb10
              rw [if_neg (by rw [d3]; simp)] at hrc
              have hsl0 := sl_take hS K (by omega)
              have hJc : J < c := by omega
              have e4 : ¬ c ≤ J := by omega
              have e5 : ¬ c = J := by omega
              obtain ⟨M, hM⟩ : ∃ M, K - J = M := ⟨_, rfl⟩
              have hsl1 : Sl X (.slice (some ⟨g, o + J, none⟩) M (c - J)) ((b.take K).drop J) W0 := by
                by_cases hJK' : J < K
                · obtain ⟨g2, o2, hgo, h2⟩ := sl_last hsl0 J hJK'
                  injection hgo with hgo
                  injection hgo with q1 q2 _
                  subst q1 q2
                  rw [hM] at h2
                  exact h2
                · omega
              have hcv := conv_any hsl1
              have hlen := (sl_len hsl1).1
              have HQ := tHid (req_any ((b.take K).drop J) (by omega) W0)
              have HZ := tHid (rzero_any ((b.take K).drop J) (by omega) W0)
              have e1 : (J : Int) ≤ (K : Int) := by omega
              have e2 : (K : Int) ≤ (c : Int) := by omega
              have e7 : (K : Int) - (J : Int) = (M : Int) := by omega
              have e6 : K - J = M := hM
              have hMn : M ≤ n := by omega
              generalize (b.take K).drop J = bd at *
              clear hsl0 hsl1 hS HB hK hM hJ d3 hbn hJK d1 hI
              generalize b[K].toNat = z at *
              have hcutbd := eqAt_cut bd
              have hsb := str_size bd
              rcases hcutbd with ⟨h1, h2, h3⟩ | ⟨⟨p, r⟩, h1, h2, h3, h4⟩
              · rw [h1] at hrc
                simp only at hrc
                rw [h2] at HQ
                have HF2 := tHid (HF.out _ W0 hrc HN0.out)
                clear HF hrc HZ h1 h2 h3 hsb hlen
                generalize str bd = s at *
                go_wp2_with (first
                  | (go_at_call 15; with_reducible refine HQ.out.mono ?_; rintro e w1 ⟨rfl, rfl⟩)
                  | (refine wpList_store_row rfl 30 _ _ rfl rs (prC ([], [])) (by first | rfl | simp [Act.eval]) (by first | rfl | simp [Act.eval]) 30 _ HR0.out (pr_info _) rfl (pr_one _) ?_; rw [setRow_id HR0.out]))
                exact fretR rs (by first | rfl | simp [Act.put]) HR0.out (by first | rfl | simp [Act.put]) (by first | rfl | simp [Act.put]) rfl HF2.out
              · rw [h1] at hrc
                simp only at hrc h2 h3 h4
                rw [h2] at HQ
                have hz0 : decide (0#8 ∈ bd) = (decide (0#8 ∈ p) || decide (0#8 ∈ r)) := by
                  rw [h3]
                  by_cases z1 : 0#8 ∈ p <;> by_cases z2 : 0#8 ∈ r <;> simp [z1, z2]
                have hcan : canP (p, r) = (!decide (p = []) && !decide (0#8 ∈ bd)) := by
                  rw [hz0]
                  unfold canP
                  simp only
                  rw [decide_eq_false h4, Bool.false_or]
                  cases decide (p = []) <;> cases decide (0#8 ∈ p) <;> cases decide (0#8 ∈ r) <;> rfl
                have hll : bd.length = p.length + 1 + r.length := by rw [h3]; simp; omega
                by_cases hp : p = []
                · rw [hcan, decide_eq_true hp] at hrc
                  have hrc2 : rc1 b = .bad J 141 := hrc
                  have HF2 := tHid (HF.out _ W0 hrc2 HN0.out)
                  subst hp
                  clear HF hrc hrc2 HZ h1 h2 h3 h4 hsb hlen hz0 hcan hll
                  generalize str bd = s at *
                  go_wp2_with (first
                    | (go_at_call 15; with_reducible refine HQ.out.mono ?_; rintro e w1 ⟨rfl, rfl⟩)
                    | (refine wpList_store_row rfl 30 _ _ rfl rs (prC ([], [])) (by first | rfl | simp [Act.eval]) (by first | rfl | simp [Act.eval]) 30 _ HR0.out (pr_info _) rfl (pr_one _) ?_; rw [setRow_id HR0.out]))
                  exact fretR rs (by first | rfl | simp [Act.put]) HR0.out (by first | rfl | simp [Act.put]) (by first | rfl | simp [Act.put]) rfl HF2.out
                · rw [hcan, decide_eq_false hp] at hrc
                  have hp1 : 1 ≤ p.length := List.length_pos_iff.2 hp
                  have hp1' : decide ((p.length : Int) < 1) = false := decide_eq_false (by omega)
                  cases hzz : decide (0#8 ∈ bd) with
                  | true =>
                    rw [hzz] at hrc HZ
                    have hrc2 : rc1 b = .bad J 141 := hrc
                    have HF2 := tHid (HF.out _ W0 hrc2 HN0.out)
                    clear HF hrc hrc2 h1 h2 h3 h4 hsb hlen hz0 hcan hll hp hzz
                    generalize str bd = s at *
                    generalize p.length = pl at *
                    go_wp2_with (first
                      | (go_at_call 15; with_reducible refine HQ.out.mono ?_; rintro e w1 ⟨rfl, rfl⟩)
                      | (go_at_call 16; with_reducible refine HZ.out.mono ?_; rintro e w1 ⟨rfl, rfl⟩)
                      | (refine wpList_store_row rfl 30 _ _ rfl rs (prC ([], [])) (by first | rfl | simp [Act.eval]) (by first | rfl | simp [Act.eval]) 30 _ HR0.out (pr_info _) rfl (pr_one _) ?_; rw [setRow_id HR0.out]))
                    exact fretR rs (by first | rfl | simp [Act.put]) HR0.out (by first | rfl | simp [Act.put]) (by first | rfl | simp [Act.put]) rfl HF2.out
                  | false =>
                    rw [hzz] at hrc HZ
                    have hrc2 : rc1 b = .ok (p, r) N := hrc
                    have HF2 : Hid (∀ V, Nw w V → P (.returned (rxV (.ok (p, r) N))) V) := fun V hV => HF.out _ V hrc2 hV
                    have x1 : (str bd).extract 0 p.length = str p := by rw [h3]; exact str_pre p _
                    obtain ⟨I1, hI1⟩ : ∃ m, m = p.length + 1 := ⟨_, rfl⟩
                    have x2 : (str bd).extract I1 (str bd).size = str r := by
                      have := str_suf (p ++ [61#8]) r
                      rw [List.append_assoc, List.singleton_append, ← h3, List.length_append] at this
                      rw [hI1]
                      exact this
                    have hw : IntKind.i64.wrap ((p.length : Int) + 1) = (I1 : Int) := by rw [IntKind.wrap_i64]; omega
                    have z1 : (p.length : Int) ≤ ((str bd).size : Int) := by omega
                    have z2 : (I1 : Int) ≤ ((str bd).size : Int) := by omega
                    have z3 : p.length ≤ (str bd).size := by omega
                    have z4 : I1 ≤ (str bd).size := by omega
                    have z5 : (p.length : Int) + 1 = (I1 : Int) := by omega
                    have z6 : p.length ≤ 140737488351232 := by omega
                    have z7 : (str bd).size ≤ 140737488351232 := by omega
                    have HX := tHid (And.intro x1 x2)
                    have HRSl : Hid (w.heap.size ≤ rs) := by show _ ≤ _; rw [HRS.out]; exact Nat.le_refl _
                    clear HF hrc hrc2 h1 h2 h3 h4 hlen hz0 hcan hll hp hzz hI1
                    obtain ⟨sp, hsp⟩ : ∃ sp, str p = sp := ⟨_, rfl⟩
                    obtain ⟨sr, hsr⟩ : ∃ sr, str r = sr := ⟨_, rfl⟩
                    rw [hsp] at x1
                    rw [hsr] at x2
                    have HPC : Hid (prC (p, r) = #[.string sp, .string sr]) := by show _ = _; rw [← hsp, ← hsr]; rfl
                    clear hsp hsr HX
                    generalize str bd = s at *
                    generalize p.length = pl at *
                    go_upto_region 19 with (first
                      | (go_at_call 15; with_reducible refine HQ.out.mono ?_; rintro e w1 ⟨rfl, rfl⟩)
                      | (go_at_call 16; with_reducible refine HZ.out.mono ?_; rintro e w1 ⟨rfl, rfl⟩))
                    have f0 : W0.cell? ⟨rs, 0, none⟩ = some (.string ⟨#[]⟩) := by unfold World.cell?; rw [HR0.out]; rfl
                    have f1 : W0.cell? ⟨rs, 1, none⟩ = some (.string ⟨#[]⟩) := by unfold World.cell?; rw [HR0.out]; rfl
                    have f2 : W0.frozen? ⟨rs, 0, none⟩ = false := by unfold World.frozen?; rw [HR0.out]; rfl
                    have f3 : W0.frozen? ⟨rs, 1, none⟩ = false := by unfold World.frozen?; rw [HR0.out]; rfl
                    have x3 : s.extract I1 bd.length = sr := by rw [← hsb]; exact x2
                    have HROW := tHid (two_set (a := .string sp) (b := .string sr) HR0.out)
                    rw [← HPC.out] at HROW
                    go_region
                    go_wp2_with fail
                    (try simp only [x3])
                    exact fretR rs (by first | rfl | simp [Act.put]) HROW.out (by first | rfl | simp [Act.put]) (by first | rfl | simp [Act.put]) rfl (HF2.out _ (((HN0.out.setCell _ _ (.inr HRSl.out)).setCell _ _ (.inr HRSl.out)).drew))
            · rw [decide_eq_false d3] at hb10
              rw [if_pos (by intro h; injection h with h; exact d3 h)] at hrc
              have HF2 := tHid (HF.out _ W0 hrc HN0.out)
              clear HF hrc HB hbn hS hJ d1 d3 hK
              generalize b[K].toNat = z at *
              go_wp2_with (first
                | (refine wpList_store_row rfl 30 _ _ rfl rs (prC ([], [])) (by first | rfl | simp [Act.eval]) (by first | rfl | simp [Act.eval]) 30 _ HR0.out (pr_info _) rfl (pr_one _) ?_; rw [setRow_id HR0.out]))
              exact fretR rs (by first | rfl | simp [Act.put]) HR0.out (by first | rfl | simp [Act.put]) (by first | rfl | simp [Act.put]) rfl HF2.out
      · rw [if_neg c1] at hv
        by_cases c2 : y < 48 ∨ 57 < y ∨ (I = 0 ∧ y = 48) ∨ I = 7
        · rw [if_pos c2] at hv
          have hrc : rc1 b = .bad 0 140 := by
            unfold rc1
            rw [hv]
            simp
          have HF2 := tHid (HF.out _ W0 hrc HN0.out)
          have HD := tHid (rdig_any y W0)
          clear HF hv hNI HB hrc
          by_cases h32 : y = 32
          · obtain rfl : I = 0 := by omega
            subst h32
            rw [Nat.add_zero] at hcell
            have HD : Hid (Calls Try.prog 14 #[.int .u8 32] W0 fun e w' => e = .returned (.bool false) ∧ W0 = w') := rdig_any 32 W0
            clear c1 c2
            go_wp2_with (first
              | (go_at_call 14; with_reducible refine HD.out.mono ?_; rintro e w1 ⟨rfl, rfl⟩)
              | (refine wpList_store_row rfl 30 _ _ rfl rs (prC ([], [])) (by first | rfl | simp [Act.eval]) (by first | rfl | simp [Act.eval]) 30 _ HR0.out (pr_info _) rfl (pr_one _) ?_; rw [setRow_id HR0.out]))
            exact fretR rs (by first | rfl | simp [Act.put]) HR0.out (by first | rfl | simp [Act.put]) (by first | rfl | simp [Act.put]) rfl HF2.out
          · have n32 : ¬ ((y : Int) = 32) := by omega
            have b32 : ((y : Int) == 32) = false := by rw [beq_eq_false_iff_ne]; exact n32
            by_cases d1 : y < 48 ∨ 57 < y
            · rw [decide_eq_false (by omega)] at HD
              clear c1 c2
              go_wp2_with (first
                | (go_at_call 14; with_reducible refine HD.out.mono ?_; rintro e w1 ⟨rfl, rfl⟩)
                | (refine wpList_store_row rfl 30 _ _ rfl rs (prC ([], [])) (by first | rfl | simp [Act.eval]) (by first | rfl | simp [Act.eval]) 30 _ HR0.out (pr_info _) rfl (pr_one _) ?_; rw [setRow_id HR0.out]))
              exact fretR rs (by first | rfl | simp [Act.put]) HR0.out (by first | rfl | simp [Act.put]) (by first | rfl | simp [Act.put]) rfl HF2.out
            · rw [decide_eq_true (by omega)] at HD
              by_cases d3 : I = 0
              · subst d3
                rw [Nat.add_zero] at hcell
                obtain rfl : y = 48 := by omega
                have HD : Hid (Calls Try.prog 14 #[.int .u8 48] W0 fun e w' => e = .returned (.bool true) ∧ W0 = w') := rdig_any 48 W0
                clear c1 c2 n32 d1 b32
                go_wp2_with (first
                  | (go_at_call 14; with_reducible refine HD.out.mono ?_; rintro e w1 ⟨rfl, rfl⟩)
                  | (refine wpList_store_row rfl 30 _ _ rfl rs (prC ([], [])) (by first | rfl | simp [Act.eval]) (by first | rfl | simp [Act.eval]) 30 _ HR0.out (pr_info _) rfl (pr_one _) ?_; rw [setRow_id HR0.out]))
                exact fretR rs (by first | rfl | simp [Act.put]) HR0.out (by first | rfl | simp [Act.put]) (by first | rfl | simp [Act.put]) rfl HF2.out
              · obtain rfl : I = 7 := by omega
                clear c1 c2 d3
                go_wp2_with (first
                  | (go_at_call 14; with_reducible refine HD.out.mono ?_; rintro e w1 ⟨rfl, rfl⟩)
                  | (refine wpList_store_row rfl 30 _ _ rfl rs (prC ([], [])) (by first | rfl | simp [Act.eval]) (by first | rfl | simp [Act.eval]) 30 _ HR0.out (pr_info _) rfl (pr_one _) ?_; rw [setRow_id HR0.out]))
                exact fretR rs (by first | rfl | simp [Act.put]) HR0.out (by first | rfl | simp [Act.put]) (by first | rfl | simp [Act.put]) rfl HF2.out
        · rw [if_neg c2] at hv
          have HD := tHid (rdig_any y W0)
          rw [decide_eq_true (by omega)] at HD
          have n32 : ¬ ((y : Int) = 32) := by omega
          have b32 : ((y : Int) == 32) = false := by rw [beq_eq_false_iff_ne]; exact n32
          have d4 : ¬ ((I : Int) = 7) := by omega
          obtain ⟨z, hz⟩ : ∃ z, y = 48 + z := ⟨y - 48, by omega⟩
          rw [show y - 48 = z by omega] at hv
          have hyz : (y : Int) - 48 = (z : Int) := by omega
          have hz9 : z ≤ 9 := by omega
          have hp : 10 ^ (I + 1) = 10 * 10 ^ I := by rw [Nat.pow_succ, Nat.mul_comm]
          have hp7 : 10 ^ (I + 1) ≤ 10 ^ 7 := Nat.pow_le_pow_right (by decide) (by omega)
          have hp7' : (10 : Nat) ^ 7 = 10000000 := rfl
          obtain ⟨M, hM⟩ : ∃ M, N * 10 + z = M := ⟨_, rfl⟩
          rw [hM] at hv
          have hMi : 10 * (N : Int) + (z : Int) = (M : Int) := by omega
          have hM7 : M ≤ 10000000 := by omega
          have HV2 := tHid (And.intro hv (show M < 10 ^ (I + 1) by omega))
          have hN6 : N ≤ 1000000 := by omega
          have hI6 : I < 7 := by omega
          have b7 : ((I : Int) == 7) = false := by rw [beq_eq_false_iff_ne]; omega
          have d48 : I = 0 → ¬ ((y : Int) = 48) := by omega
          clear HF hv hNI hp hp7 hp7' hM c1 c2 hN hz
          by_cases d3 : I = 0
          · have d5 := d48 d3
            have b48 : ((y : Int) == 48) = false := by rw [beq_eq_false_iff_ne]; exact d5
            clear d48
            subst d3
            rw [Nat.add_zero] at hcell
            go_wp2_with (first | (go_at_call 14; with_reducible refine HD.out.mono ?_; rintro e w1 ⟨rfl, rfl⟩))
            go_roundg (n - (0 + 1))
            case measure => omega
            case rel => exact ⟨0 + 1, M, by omega, by omega, by omega, by first | rfl | (congr 1), by first | rfl | (rw [hyz, hMi]) | (congr 1; omega), hM7, rfl, HV2⟩
          · have d3' : ¬ ((I : Int) = 0) := by omega
            have b0 : ((I : Int) == 0) = false := by rw [beq_eq_false_iff_ne]; exact d3'
            clear d48
            go_wp2_with (first | (go_at_call 14; with_reducible refine HD.out.mono ?_; rintro e w1 ⟨rfl, rfl⟩))
            go_roundg (n - (I + 1))
            case measure => omega
            case rel => exact ⟨I + 1, M, by omega, by omega, by omega, by first | rfl | (congr 1), by first | rfl | (rw [hyz, hMi]) | (congr 1; omega), hM7, rfl, HV2⟩
    · obtain rfl : I = n := by omega
      rw [List.drop_eq_nil_of_le (by omega)] at hv
      have hrc : rc1 b = .bad I 4 := by
        unfold rc1
        rw [hv, ← hbn]
        simp [la]
      have HF2 := tHid (HF.out _ W0 hrc HN0.out)
      clear HF hv hNI HV HB hS hbn hrc
      go_wp2_with (first
        | (refine wpList_store_row rfl 30 _ _ rfl rs (prC ([], [])) (by first | rfl | simp [Act.eval]) (by first | rfl | simp [Act.eval]) 30 _ HR0.out (pr_info _) rfl (pr_one _) ?_; rw [setRow_id HR0.out]))
      exact fretR rs (by first | rfl | simp [Act.put]) HR0.out (by first | rfl | simp [Act.put]) (by first | rfl | simp [Act.put]) rfl HF2.out
end Go.Proofs.Ytenkchhlaphocaa

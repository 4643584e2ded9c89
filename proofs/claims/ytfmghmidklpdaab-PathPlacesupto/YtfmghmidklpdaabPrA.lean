import Derived.Test.YtfmghmidklpdaabPyC
namespace Go.Proofs.Ytfmghmidklpdaab
open Go.RowKit
set_option linter.unusedVariables false
theorem und_both (d p : List Tx) : und (d ++ p) d = decide (0 < p.length) := by
  unfold und
  rw [List.take_left, decide_eq_true (rfl : d = d), Bool.and_true]
  apply decide_eq_decide.2
  rw [List.length_append]; omega
theorem st_both (d p : List Tx) (A : Nat) (hA : d.length = A) : stF (d ++ p) (A : Int) = if p.length = 0 then ([], false) else (p, true) := by
  unfold stF
  by_cases h : p.length = 0
  · rw [if_pos h, if_pos (.inr (by rw [List.length_append]; omega))]
  · rw [if_neg h, if_neg (by rw [List.length_append]; omega)]
    simp [← hA]
namespace pathPlaces
set_option maxHeartbeats 16000000 in
set_option maxRecDepth 100000 in
theorem walk (w : World) (a0 a1 : Option Addr) (c0 c1 : Nat) (d p : List Tx) (h0 : OldS w (.slice a0 d.length c0) d) (h1 : OldS w (.slice a1 p.length c1) p) (ht0 : tot d ≤ 1048576) (ht1 : tot p ≤ 1048576) :
    Calls Try.prog 3 #[.slice a0 d.length c0, .slice a1 p.length c1] w fun e w' => e = .returned (.bool true) ∧ Nw w w' := by
  obtain ⟨P, hP⟩ : ∃ P : Ending → World → Prop, P = fun e w' => e = .returned (.bool true) ∧ Nw w w' := ⟨_, rfl⟩
  rw [← hP]
  have hla := tot_len d
  have hlb := tot_len p
  have hsa : ∀ x ∈ d, x.length ≤ 140737488351232 := fun x hp => by have := tot_mem hp; omega
  have hsb : ∀ x ∈ p, x.length ≤ 140737488351232 := fun x hp => by have := tot_mem hp; omega
  have hsab : ∀ x ∈ d ++ p, x.length ≤ 140737488351232 := fun x hp => by
    rcases List.mem_append.1 hp with h | h
    · exact hsa x h
    · exact hsb x h
  obtain ⟨gd, cd, W1, HA1, o1, n1, hg1⟩ := copyS w _ d h0.any (by omega)
  obtain ⟨gp, cp, W2, HA2, o2, n2, hg2⟩ := copyS W1 _ p (h1.any.nw n1) (by omega)
  have n02 : Nw w W2 := n1.trans n2
  have HF : Hid (∀ V, Nw W2 V → P (.returned (.bool true)) V) := fun V hV => by rw [hP]; exact ⟨rfl, n02.trans hV⟩
  have HPL : Hid (Calls Try.prog 4 #[.slice (some ⟨gd, 0, none⟩) d.length cd, .slice (some ⟨gp, 0, none⟩) p.length cp] W2 fun e w' => ∃ a n c, e = .returned (.tuple #[.slice a n c, .int .i64 ((ftF (d ++ p) : Nat) : Int)]) ∧ Hid (NewS W2 a n c (plF d p) w')) := pplace_any W2 _ _ _ _ _ _ d p (o1.nw n2).anyS o2.anyS rfl rfl (by omega) hsab
  have HD : Hid (∀ V, Nw W2 V → SlR RS (fun _ => False) (.slice a0 d.length c0) d V ∧ SlR RS (fun _ => False) (.slice a1 p.length c1) p V) := fun V hV => ⟨h0.any.nw (n02.trans hV), h1.any.nw (n02.trans hV)⟩
  have HLV : Hid (∀ V (a : Option Addr) (n c : Nat), n ≤ 1048576 → ftF (d ++ p) = 0 → Calls Try.prog 9 #[.slice a n c, .string (mk (jn (d ++ p)))] V fun e w' => e = .returned (.bool false) ∧ Hid (Nw V w')) := fun V a n c hn h => by
    have hjl := ((splE_zero _).1 (jn_split h)).1
    refine (pleaves_any V a n c (jn (d ++ p)) (by omega) (by omega)).mono ?_
    rintro e w' ⟨rfl, k⟩
    rw [lv_safe h]
    exact ⟨rfl, k⟩
  have HB : Hid (∀ x ∈ d ++ p, x.length ≤ 140737488351232) := hsab
  clear hP hsa hsb hsab o1 o2 h0 h1 n1 n2 n02 hg1 hg2
  have hA : d.length ≤ 1048576 := by omega
  have hN : p.length ≤ 1048576 := by omega
  obtain ⟨A, hAe⟩ : ∃ A, A = d.length := ⟨_, rfl⟩
  obtain ⟨N, hNe⟩ : ∃ N, N = p.length := ⟨_, rfl⟩
  have HAe : Hid (d.length = A ∧ p.length = N) := ⟨hAe.symm, hNe.symm⟩
  rw [← hAe] at HA1 HPL HD hA ⊢
  rw [← hNe] at HA2 HPL HD hN ⊢
  clear hAe hNe ht0 ht1 hla hlb
  by_cases hft : ftF (d ++ p) = 0
  · obtain ⟨T, hT⟩ : ∃ T, T = A + N := ⟨_, rfl⟩
    have HPL2 : Hid (Calls Try.prog 4 #[.slice (some ⟨gd, 0, none⟩) A cd, .slice (some ⟨gp, 0, none⟩) N cp] W2 fun e w' => ∃ a c, e = .returned (.tuple #[.slice a T c, .int .i64 0]) ∧ T ≤ c ∧ c < 9223372036854775808 ∧ Hid (NewS W2 a T c (d ++ p) w')) := by
      show Calls _ _ _ _ _
      refine HPL.out.mono ?_
      rintro e w' ⟨a, n, c, rfl, h⟩
      have h' := h.out
      unfold plF at h'
      rw [if_pos hft] at h'
      obtain ⟨q0, q1, q2⟩ := h'.len
      rw [List.length_append, HAe.out.1, HAe.out.2, ← hT] at q0
      subst q0
      exact ⟨a, c, by rw [hft]; rfl, q1, q2, h'⟩
    have HJ : Hid (∀ V v, SlR RS (fun _ => False) v (d ++ p) V → Calls Try.prog 5 #[v] V fun e w' => e = .returned (.tuple #[.string (mk (jn (d ++ p))), .int .i64 0]) ∧ Hid (Nw V w')) := fun V v hv => by
      refine (pjoin_any V v (d ++ p) hv HB.out (by rw [List.length_append, HAe.out.1, HAe.out.2]; omega)).mono ?_
      rintro e w' ⟨rfl, k⟩
      refine ⟨?_, k⟩
      unfold joinF
      rw [if_pos hft, hft]; rfl
    have HL0 : Hid (∀ V, Calls Try.prog 9 #[.slice none 0 0, .string (mk (jn (d ++ p)))] V fun e w' => e = .returned (.bool false) ∧ Hid (Nw V w')) := fun V => HLV.out V none 0 0 (by omega) hft
    have HL1 : Hid (∀ V, Calls Try.prog 9 #[.slice (some ⟨gd, 0, none⟩) A cd, .string (mk (jn (d ++ p)))] V fun e w' => e = .returned (.bool false) ∧ Hid (Nw V w')) := fun V => HLV.out V _ A cd hA hft
    have HU : Hid (∀ V v u, SlR RS (fun _ => False) v (d ++ p) V → SlR RS (fun _ => False) u d V → Calls Try.prog 6 #[v, u] V fun e w' => e = .returned (.bool (decide (0 < N))) ∧ Hid (Nw V w')) := fun V v u k1 k2 => (punder_any V v u _ _ k1 k2).mono (fun e w' ⟨x1, x2⟩ => ⟨by rw [x1, und_both, HAe.out.2], x2⟩)
    have HS : Hid (∀ V a c, SlR RS (fun _ => False) (.slice a T c) (d ++ p) V → Calls Try.prog 7 #[.slice a T c, .int .i64 A] V fun e w' => ∃ a' n' c', e = .returned (.tuple #[.slice a' n' c', .bool (decide (0 < N))]) ∧ Hid (Nw V w' ∧ (0 < N → SlR RS (fun _ => False) (.slice a' n' c') p w'))) := fun V a c k => by
      refine (pstrip_any V a T c (d ++ p) k (by rw [List.length_append, HAe.out.1, HAe.out.2, hT]) (by omega) A (by omega)).mono ?_
      rintro e w' ⟨a', n', c', rfl, h⟩
      rw [st_both d p A HAe.out.1] at h ⊢
      rw [HAe.out.2] at h ⊢
      by_cases h0 : N = 0
      · rw [if_pos h0] at h ⊢
        exact ⟨a', n', c', by rw [decide_eq_false (by omega)], h.nw, fun hh => by omega⟩
      · rw [if_neg h0] at h ⊢
        exact ⟨a', n', c', by rw [decide_eq_true (by omega)], h.nw, fun _ => h.sl⟩
    have HSM : Hid (∀ V v u, SlR RS (fun _ => False) v p V → SlR RS (fun _ => False) u p V → Calls Try.prog 8 #[v, u] V fun e w' => e = .returned (.bool true) ∧ Hid (Nw V w')) := fun V v u k1 k2 => (usame_any V v u p p k1 k2).mono (fun e w' ⟨x1, x2⟩ => ⟨by rw [x1, decide_eq_true rfl], x2⟩)
    obtain ⟨BN, hBN⟩ : ∃ B, B = decide (0 < N) := ⟨_, rfl⟩
    rw [← hBN] at HU HS
    have HBN := tHid hBN
    clear hBN
    have y1 : (A : Int) + (N : Int) = (T : Int) := by omega
    have y2 : IntKind.i64.wrap ((A : Int) + (N : Int)) = (T : Int) := by rw [IntKind.wrap_i64]; omega
    have hT2 : T ≤ 2097152 := by omega
    clear HPL HLV hft hT HB
    obtain ⟨Q1, hQ1⟩ : ∃ Q : Value → World → Prop, Q = fun v V => SlR RS (fun _ => False) v (d ++ p) V := ⟨_, rfl⟩
    generalize mk (jn (d ++ p)) = sj at *
    go_enter Try.func3, Try.ntmps3
    go_upto_region 6 with (first
      | (at_builtin; refine Lib.wpList_append_run _ rfl _ _ 22 22 rfl (.slice (some ⟨w.heap.size, 0, none⟩) 0 0) (.slice a0 A c0) (by simp [Act.eval]) (by simp [Act.eval]) _ _ (HA1.out _) ?_)
      | (at_builtin; refine Lib.wpList_append_run _ rfl _ _ 22 22 rfl (.slice (some ⟨W1.heap.size, 0, none⟩) 0 0) (.slice a1 N c1) (by simp [Act.eval]) (by simp [Act.eval]) _ _ (HA2.out _) ?_)
      | (go_at_call 4; with_reducible refine HPL2.out.mono ?_; rintro e w3 ⟨la, lc, rfl, q1, q2, H3⟩))
    have hl3 := H3.out.sl
    have n3 := H3.out.nw
    have HU3 := tHid (HU.out w3 _ _ hl3 (HD.out w3 n3).1)
    have HL3 := tHid (And.intro hl3 n3)
    clear hl3 n3 H3 HPL2 HA1 HA2 HU
    go_cut [62] (fun x wx => x = .bool false ∧ Hid (Nw w3 wx))
    case first =>
      clear HJ HL0 HL1 HS HSM HF HD HL3
      by_cases h0 : 0 < N
      · rw [HBN.out, decide_eq_true h0] at HU3
        clear HBN
        have z0 : (0 : Int) < (N : Int) := by omega
        go_wp2_with (first
          | (go_at_call 6; with_reducible refine HU3.out.mono ?_; rintro e w4 ⟨rfl, N4⟩))
        go_meet
        exact ⟨rfl, N4⟩
      · rw [HBN.out, decide_eq_false h0] at HU3
        clear HBN
        obtain rfl : N = 0 := by omega
        go_wp2_with (first
          | (go_at_call 6; with_reducible refine HU3.out.mono ?_; rintro e w4 ⟨rfl, N4⟩))
        go_meet
        exact ⟨rfl, N4⟩
    case rest =>
    obtain ⟨rfl, HCUT⟩ := hcut
    obtain ⟨w4, h⟩ : ∃ z, z = wc := ⟨_, rfl⟩
    subst h
    have hl4 := HL3.out.1.nw HCUT.out
    have n4 : Nw W2 w4 := HL3.out.2.trans HCUT.out
    have HS4 := tHid (HS.out w4 _ _ hl4)
    have HL4 := tHid (And.intro hl4 n4)
    clear hl4 n4 HS HU3 HL3 HCUT
    go_upto_region 9 with (first
      | (go_at_call 7; with_reducible refine HS4.out.mono ?_; rintro e w5 ⟨sa, sn, sc, rfl, H5⟩))
    have n5 : Nw W2 w5 := HL4.out.2.trans H5.out.1
    have HL5 : Hid (∀ V, Nw w5 V → SlR RS (fun _ => False) (.slice la T lc) (d ++ p) V) := fun V hV => (HL4.out.1.nw H5.out.1).nw hV
    have HM5 : Hid (0 < N → Calls Try.prog 8 #[.slice sa sn sc, .slice a1 N c1] w5 fun e w' => e = .returned (.bool true) ∧ Hid (Nw w5 w')) := fun h => HSM.out w5 _ _ (H5.out.2 h) (HD.out w5 n5).2
    have HN5 := tHid n5
    clear n5 H5 HL4 HS4 HSM HD
    go_cut [83] (fun x wx => x = .bool false ∧ Hid (Nw w5 wx))
    case first =>
      clear HJ HL0 HL1 HF HL5 HN5
      by_cases h0 : 0 < N
      · have HM6 := tHid (HM5.out h0)
        have hb := HBN.out
        rw [decide_eq_true h0] at hb
        subst hb
        clear HM5 HBN
        have z0 : (0 : Int) < (N : Int) := by omega
        go_wp2_with (first
          | (go_at_call 8; with_reducible refine HM6.out.mono ?_; rintro e w6 ⟨rfl, N6⟩))
        go_meet
        exact ⟨rfl, N6⟩
      · have hb := HBN.out
        rw [decide_eq_false h0] at hb
        subst hb
        obtain rfl : N = 0 := by omega
        clear HM5 HBN
        go_wp2_with fail
        go_meet
        exact ⟨rfl, Fr.refl _ _⟩
    case rest =>
    obtain ⟨rfl, HCUT⟩ := hcut
    obtain ⟨w6, h⟩ : ∃ z, z = wc := ⟨_, rfl⟩
    subst h
    have HJ6 := tHid (HJ.out w6 _ (HL5.out w6 HCUT.out))
    have HN6 : Hid (Nw W2 w6) := HN5.out.trans HCUT.out
    clear HJ HL5 HN5 HCUT HM5
    go_wp2_with (first
      | (go_at_call 5; with_reducible refine HJ6.out.mono ?_; rintro e w7 ⟨rfl, N7⟩)
      | (go_at_call 9; with_reducible refine (HL0.out w7).mono ?_; rintro e w8 ⟨rfl, N8⟩)
      | (go_at_call 9; with_reducible refine (HL1.out w8).mono ?_; rintro e w9 ⟨rfl, N9⟩))
    exact HF.out _ (((HN6.out.trans N7.out).trans N8.out).trans N9.out)
  · have HPL2 : Hid (Calls Try.prog 4 #[.slice (some ⟨gd, 0, none⟩) A cd, .slice (some ⟨gp, 0, none⟩) N cp] W2 fun e w' => ∃ a c, e = .returned (.tuple #[.slice a 0 c, .int .i64 ((ftF (d ++ p) : Nat) : Int)]) ∧ c < 9223372036854775808 ∧ Hid (Nw W2 w')) := by
      show Calls _ _ _ _ _
      refine HPL.out.mono ?_
      rintro e w' ⟨a, n, c, rfl, h⟩
      have h' := h.out
      unfold plF at h'
      rw [if_neg hft] at h'
      obtain ⟨q0, q1, q2⟩ := h'.len
      have q0' : n = 0 := q0.symm
      subst q0'
      exact ⟨a, c, rfl, q2, h'.nw⟩
    have HBO : Hid (∀ V, Nw W2 V → ∃ x1 y1 V1 x2 y2 V2, Hid (∀ ty, (Builtin.append_ #[22, 22] ty #[.slice (some ⟨V.heap.size, 0, none⟩) 0 0, .slice a0 A c0]).run Try.prog (V.alloc (.cells #[] 9)) = .ok (.slice x1 A y1) V1) ∧ Hid (∀ ty, (Builtin.append_ #[22, 22] ty #[.slice x1 A y1, .slice a1 N c1]).run Try.prog V1 = .ok (.slice x2 (d ++ p).length y2) V2) ∧ Hid (Calls Try.prog 5 #[.slice x2 (d ++ p).length y2] V2 fun e w' => e = .returned (.tuple #[.string (mk (joinF (d ++ p)).1), .int .i64 ((ftF (d ++ p) : Nat) : Int)]) ∧ Hid (Nw W2 w'))) := fun V hV => by
      obtain ⟨x1, y1, V1, x2, y2, V2, k1, k2, k3⟩ := bothS V a0 a1 A N c0 c1 d p (HD.out V hV).1 (HD.out V hV).2 HAe.out.1 HAe.out.2 (by omega)
      refine ⟨x1, y1, V1, x2, y2, V2, k1, k2, ?_⟩
      show Calls _ _ _ _ _
      exact (pjoin_any V2 _ (d ++ p) k3.sl HB.out (by rw [List.length_append, HAe.out.1, HAe.out.2]; omega)).mono (fun e w' ⟨e1, e2⟩ => ⟨e1, (hV.trans k3.nw).trans e2⟩)
    have hne : (((ftF (d ++ p) : Nat) : Int) == 0) = false := by rw [beq_eq_false_iff_ne]; omega
    have hne2 : ¬ ((ftF (d ++ p) : Nat) : Int) = 0 := by omega
    have hyy : (((ftF (d ++ p) : Nat) : Int) == ((ftF (d ++ p) : Nat) : Int)) = true := beq_self_eq_true _
    clear HPL HLV hft HB HD HAe
    generalize ftF (d ++ p) = Y at *
    generalize mk (joinF (d ++ p)).1 = sj at *
    generalize (d ++ p).length = T at *
    go_enter Try.func3, Try.ntmps3
    go_upto_region 4 with (first
      | (at_builtin; refine Lib.wpList_append_run _ rfl _ _ 22 22 rfl (.slice (some ⟨w.heap.size, 0, none⟩) 0 0) (.slice a0 A c0) (by simp [Act.eval]) (by simp [Act.eval]) _ _ (HA1.out _) ?_)
      | (at_builtin; refine Lib.wpList_append_run _ rfl _ _ 22 22 rfl (.slice (some ⟨W1.heap.size, 0, none⟩) 0 0) (.slice a1 N c1) (by simp [Act.eval]) (by simp [Act.eval]) _ _ (HA2.out _) ?_)
      | (go_at_call 4; with_reducible refine HPL2.out.mono ?_; rintro e w3 ⟨la, lc, rfl, q2, H3⟩))
    obtain ⟨x1, y1, V1, x2, y2, V2, HB1, HB2, HJ⟩ := HBO.out w3 H3.out
    clear HBO HPL2 HA1 HA2 H3
    go_wp2_with (first
      | (at_builtin; refine Lib.wpList_append_run _ rfl _ _ 22 22 rfl (.slice (some ⟨w3.heap.size, 0, none⟩) 0 0) (.slice a0 A c0) (by simp [Act.eval]) (by simp [Act.eval]) _ _ (HB1.out _) ?_)
      | (at_builtin; refine Lib.wpList_append_run _ rfl _ _ 22 22 rfl (.slice x1 A y1) (.slice a1 N c1) (by simp [Act.eval]) (by simp [Act.eval]) _ _ (HB2.out _) ?_)
      | (go_at_call 5; with_reducible refine HJ.out.mono ?_; rintro e w4 ⟨rfl, N4⟩))
    exact HF.out _ N4.out
end pathPlaces
end Go.Proofs.Ytfmghmidklpdaab

import Derived.Test.YtlfcgldbgejfbaaWoA
namespace Go.Proofs.Ytlfcgldbgejfbaa
namespace xxhLong
open Go.RowKit
set_option linter.unusedVariables false
set_option maxHeartbeats 40000000 in
set_option maxRecDepth 100000 in
theorem negWord (l : List By) (a : Option Addr) (cap : Nat) (s oth : BitVec 64) (q : Nat) (hq : q < 9223372036854775808) (w : World) (hv : Old w (.slice a l.length cap) l) (hb : l.length ≤ 140737488351232) (hl0 : 0 < l.length - l.length / 32 * 32) (hw : q % (l.length - l.length / 32 * 32) / 8 * 8 + 8 ≤ l.length - l.length / 32 * 32) :
    Calls Try.prog 7 #[.int .u64 s.toNat, .slice a l.length cap, .int .i64 (-((q : Int) + 1)), .int .u64 oth.toNat] w fun e w' => e = .returned (.bool true) ∧ Nw w w' := by
  have HL : Hid (∀ V, Nw w V → Calls Try.prog 19 #[] V fun e w' => e = .returned (.bool true) ∧ Nw w w') := fun V hV => cbase hV (lives_any V)
  obtain ⟨F, hF⟩ : ∃ F, F = l.length / 32 * 32 := ⟨_, rfl⟩
  rw [← hF] at hl0 hw
  obtain ⟨R, hR⟩ : ∃ R, R = l.length - F := ⟨_, rfl⟩
  rw [← hR] at hl0 hw
  have hFR : F + R = l.length := by omega
  have hFz : (l.length : Int) / 32 * 32 = (F : Int) := by rw [hF]; simp
  have hRz : (l.length : Int) - (F : Int) = (R : Int) := by omega
  obtain ⟨p, hp⟩ : ∃ p, p = q % R := ⟨_, rfl⟩
  have hpl : p < R := by rw [hp]; exact Nat.mod_lt _ hl0
  have hmod : (q : Int) % (R : Int) = (p : Int) := by rw [hp]; simp
  have hFpl : F + p < l.length := by omega
  obtain ⟨y, hy⟩ : ∃ y, y = l[F + p]'hFpl := ⟨_, rfl⟩
  have HAP : Hid (∀ V, Nw w V → ∃ g n1 c1 W1, Hid (∀ ty, (Builtin.append_ #[24, 24] ty #[.slice (some ⟨V.heap.size, 0, none⟩) 0 0, .slice a l.length cap]).run Try.prog (V.alloc (.cells #[] 5)) = .ok (.slice (some ⟨g, 0, none⟩) n1 c1) W1) ∧ n1 = l.length ∧ n1 ≤ c1 ∧ c1 < 9223372036854775808 ∧ Hid (Ow g (.slice (some ⟨g, 0, none⟩) n1 c1) l W1) ∧ Hid (Nw w W1) ∧ Hid (w.heap.size ≤ g) ∧ W1.cell? ⟨g, F + p, none⟩ = some (.int .u8 y.toNat) ∧ W1.frozen? ⟨g, F + p, none⟩ = false) := by
    intro V hV
    obtain ⟨v1, g1, W1, hap1, hO1, hF1, hg1⟩ := app_any (V.alloc (.cells #[] 5)) V.heap.size _ [] (Ow.empty V) (.slice a l.length cap) l ((hv.nw (hV.alloc _)).mono (fun _ h => h.elim)) (by simp; omega)
    rw [List.nil_append] at hO1
    obtain ⟨xs, rfl, h2, h3, h4, h5⟩ := hO1
    have hsz := hV.size
    have hOw : Ow g1 (.slice (some ⟨g1, 0, none⟩) l.length xs.length) l W1 := ⟨xs, rfl, h2, h3, h4, h5⟩
    have hat := hOw.at (F + p) hFpl
    rw [← hy] at hat
    refine ⟨g1, l.length, xs.length, W1, hap1, rfl, h3, h4, hOw, Fr.then (hV.alloc _) hF1 (fun i hi => .inr (by omega)), ?_, hat.1, hat.2⟩
    show _ ≤ _
    rcases hg1 with h | h
    · omega
    · simp at h; omega
  have HB : Hid (∀ V, Nw w V → Old V (.slice a l.length cap) l) := fun V hV => Sl.later hv hV
  have hlz : ((R : Int) == 0) = false := by rw [beq_eq_false_iff_ne]; omega
  rw [← hp] at hw
  have hlzz : ¬ (R : Int) = 0 := by omega
  have hlz2 : (0 : Int) < (R : Int) := by omega
  have hlz3 : (l.length : Int) ≤ 140737488351232 := by omega
  have hlz4 : (R : Int) ≤ 140737488351232 := by omega
  have hlz5 : (F : Int) ≤ 140737488351232 := by omega
  have hlz6 : (p : Int) < (R : Int) := by omega
  have hp8 : (p : Int) / 8 * 8 + 8 ≤ (R : Int) := by omega
  clear hv hp hy
  have hFH : Hid (F = l.length / 32 * 32) := hF
  clear hF hR
  generalize hn : l.length = n at *
  have hnH : Hid (l.length = n) := hn
  clear hn
  have hbH : Hid (n ≤ 140737488351232) := hb
  have hz1 : IntKind.i64.wrap (-((q : Int) + 1) + 1) = -(q : Int) := by rw [IntKind.wrap_i64]; omega
  have hz2 : IntKind.i64.wrap (-(-(q : Int))) = (q : Int) := by rw [IntKind.wrap_i64]; omega
  have hz3 : IntKind.i64.wrap (q : Int) = (q : Int) := by rw [IntKind.wrap_i64]; omega
  have hz4 : (-((q : Int) + 1) < 0) := by omega
  clear hq hb
  go_enter Try.func7, Try.ntmps7
  go_wp2_with (first
      | (go_at_call 19; with_reducible refine (HL.out _ ?_).mono ?_; (first | assumption | exact Fr.refl _ _); rintro e w1 ⟨rfl, hN1⟩; obtain ⟨g, n1, c1, W1, hap, hn1, hnc, hc1, hO, hNW, hge, c2, c3⟩ := HAP.out w1 hN1; subst hn1)
      | (at_builtin; refine Lib.wpList_append_run _ rfl _ _ 24 24 rfl (.slice (some ⟨w1.heap.size, 0, none⟩) 0 0) (.slice a _ cap) (by simp [Act.eval]) (by simp [Act.eval]) _ _ (hap.out _) ?_))
  obtain ⟨m, hm⟩ : ∃ m, m = p / 8 * 8 := ⟨_, rfl⟩
  have hmz : (p : Int) / 8 * 8 = (m : Int) := by rw [hm]; simp
  have hm8 : Hid ((F + m) % 8 = 0 ∧ l.length / 32 * 32 ≤ F + m) := by
    have := hFH.out
    show _ ∧ _
    rw [hnH.out] at *
    omega
  have hmn : F + m + 8 ≤ n1 := by omega
  rw [hmz]
  generalize (p : Int) / 8 = e1
  generalize (m : Int) + 8 = e2
  try generalize decide ((q : Int) < 0) = e3
  try generalize (n1 : Int) / 32 = e4
  have HS0 : Hid (Near (F + m) 8 l l ∧ Ow g (.slice (some ⟨g, 0, none⟩) n1 c1) l W1 ∧ Nw w W1) := ⟨Near.refl (F + m) 8 l (by rw [hnH.out]; exact hmn), hO.out, hNW.out⟩
  have hn47 := hbH.out
  clear hp8 hw hmod hm hmz hap hO hNW hpl hbH c2 c3 hFpl hFz hRz hFR hlz6
  go_loopg [13] 8 (fun kx t wr => ∃ (i : Nat) (z : Int) (L : List By), i ≤ 8 ∧ 8 - i ≤ kx ∧ t = .int .i64 z ∧ z = i ∧ Hid (Near (F + m) 8 l L ∧ Ow g (.slice (some ⟨g, 0, none⟩) n1 c1) L wr ∧ Nw w wr))
  case atStart => exact ⟨0, 0, l, by decide, by decide, rfl, rfl, HS0⟩
  case round =>
    obtain ⟨i, z, L, hi, hkx, rfl, hz', HI⟩ := hrel
    by_cases hlt : i < 8
    · have hLn : L.length = n1 := by rw [HI.out.1.length]; exact hnH.out
      have hat := HI.out.2.1.at (F + m + i) (by omega)
      obtain ⟨y, hy⟩ : ∃ y, y = L[F + m + i]'(by omega) := ⟨_, rfl⟩
      rw [← hy] at hat
      have FIN : Hid (∀ V k, Nw wr V → ∃ L', Near (F + m) 8 l L' ∧ Ow g (.slice (some ⟨g, 0, none⟩) n1 c1) L' (V.setCell ⟨g, F + m + i, none⟩ (.int .u8 (bits .xor .u8 (y.toNat : Int) k))) ∧ Nw w (V.setCell ⟨g, F + m + i, none⟩ (.int .u8 (bits .xor .u8 (y.toNat : Int) k)))) := by
        intro V k hV
        obtain ⟨zb, hzb⟩ := xor_byte (y.toNat : Int) k
        exact ⟨L.set (F + m + i) zb, HI.out.1.put i hlt zb, (HI.out.2.1.nw hV).put (F + m + i) (by omega) zb _ hzb, (HI.out.2.2.trans hV).setCell _ _ (.inr hge.out)⟩
      obtain ⟨c2, c3⟩ := hat
      clear HI hLn hy
      have hx0 : IntKind.i64.wrap ((F : Int) + (m : Int)) = (F : Int) + (m : Int) := by rw [IntKind.wrap_i64]; omega
      obtain rfl | rfl | rfl | rfl | rfl | rfl | rfl | rfl : i = 0 ∨ i = 1 ∨ i = 2 ∨ i = 3 ∨ i = 4 ∨ i = 5 ∨ i = 6 ∨ i = 7 := by omega
      · obtain rfl : z = 0 := hz'
        skip
        have hx2 : ((F : Int) + (m : Int)).toNat = F + m := by omega
        have hx3 : (F : Int) + (m : Int) < (n1 : Int) := by omega
        have hx4 : (0 : Int) ≤ (F : Int) + (m : Int) := by omega
        have hx5 : IntKind.i64.wrap 0 = 0 := by decide
        rw [Nat.add_zero] at c2 c3
        clear hn47
        go_wp2_with fail
        go_region_with fail
        all_goals go_wp2
        all_goals (obtain ⟨L', hL1, hL2, hL3⟩ := FIN.out _ _ (by first | assumption | exact (Fr.refl _ _).drew | exact Fr.refl _ _ | exact (Fr.refl _ _).drewN _))
        all_goals go_roundg 7
        all_goals (first | omega | exact ⟨1, 1, L', by decide, by decide, rfl, rfl, ⟨hL1, hL2, hL3⟩⟩)
      · obtain rfl : z = 1 := hz'
        have hx1 : IntKind.i64.wrap ((F : Int) + (m : Int) + 1) = (F : Int) + (m : Int) + 1 := by rw [IntKind.wrap_i64]; omega
        have hx2 : ((F : Int) + (m : Int) + 1).toNat = F + m + 1 := by omega
        have hx3 : (F : Int) + (m : Int) + 1 < (n1 : Int) := by omega
        have hx4 : (0 : Int) ≤ (F : Int) + (m : Int) + 1 := by omega
        have hx5 : IntKind.i64.wrap 8 = 8 := by decide
        skip
        clear hn47
        go_wp2_with fail
        go_region_with fail
        all_goals go_wp2
        all_goals (obtain ⟨L', hL1, hL2, hL3⟩ := FIN.out _ _ (by first | assumption | exact (Fr.refl _ _).drew | exact Fr.refl _ _ | exact (Fr.refl _ _).drewN _))
        all_goals go_roundg 6
        all_goals (first | omega | exact ⟨2, 2, L', by decide, by decide, rfl, rfl, ⟨hL1, hL2, hL3⟩⟩)
      · obtain rfl : z = 2 := hz'
        have hx1 : IntKind.i64.wrap ((F : Int) + (m : Int) + 2) = (F : Int) + (m : Int) + 2 := by rw [IntKind.wrap_i64]; omega
        have hx2 : ((F : Int) + (m : Int) + 2).toNat = F + m + 2 := by omega
        have hx3 : (F : Int) + (m : Int) + 2 < (n1 : Int) := by omega
        have hx4 : (0 : Int) ≤ (F : Int) + (m : Int) + 2 := by omega
        have hx5 : IntKind.i64.wrap 16 = 16 := by decide
        skip
        clear hn47
        go_wp2_with fail
        go_region_with fail
        all_goals go_wp2
        all_goals (obtain ⟨L', hL1, hL2, hL3⟩ := FIN.out _ _ (by first | assumption | exact (Fr.refl _ _).drew | exact Fr.refl _ _ | exact (Fr.refl _ _).drewN _))
        all_goals go_roundg 5
        all_goals (first | omega | exact ⟨3, 3, L', by decide, by decide, rfl, rfl, ⟨hL1, hL2, hL3⟩⟩)
      · obtain rfl : z = 3 := hz'
        have hx1 : IntKind.i64.wrap ((F : Int) + (m : Int) + 3) = (F : Int) + (m : Int) + 3 := by rw [IntKind.wrap_i64]; omega
        have hx2 : ((F : Int) + (m : Int) + 3).toNat = F + m + 3 := by omega
        have hx3 : (F : Int) + (m : Int) + 3 < (n1 : Int) := by omega
        have hx4 : (0 : Int) ≤ (F : Int) + (m : Int) + 3 := by omega
        have hx5 : IntKind.i64.wrap 24 = 24 := by decide
        skip
        clear hn47
        go_wp2_with fail
        go_region_with fail
        all_goals go_wp2
        all_goals (obtain ⟨L', hL1, hL2, hL3⟩ := FIN.out _ _ (by first | assumption | exact (Fr.refl _ _).drew | exact Fr.refl _ _ | exact (Fr.refl _ _).drewN _))
        all_goals go_roundg 4
        all_goals (first | omega | exact ⟨4, 4, L', by decide, by decide, rfl, rfl, ⟨hL1, hL2, hL3⟩⟩)
      · obtain rfl : z = 4 := hz'
        have hx1 : IntKind.i64.wrap ((F : Int) + (m : Int) + 4) = (F : Int) + (m : Int) + 4 := by rw [IntKind.wrap_i64]; omega
        have hx2 : ((F : Int) + (m : Int) + 4).toNat = F + m + 4 := by omega
        have hx3 : (F : Int) + (m : Int) + 4 < (n1 : Int) := by omega
        have hx4 : (0 : Int) ≤ (F : Int) + (m : Int) + 4 := by omega
        have hx5 : IntKind.i64.wrap 32 = 32 := by decide
        skip
        clear hn47
        go_wp2_with fail
        go_region_with fail
        all_goals go_wp2
        all_goals (obtain ⟨L', hL1, hL2, hL3⟩ := FIN.out _ _ (by first | assumption | exact (Fr.refl _ _).drew | exact Fr.refl _ _ | exact (Fr.refl _ _).drewN _))
        all_goals go_roundg 3
        all_goals (first | omega | exact ⟨5, 5, L', by decide, by decide, rfl, rfl, ⟨hL1, hL2, hL3⟩⟩)
      · obtain rfl : z = 5 := hz'
        have hx1 : IntKind.i64.wrap ((F : Int) + (m : Int) + 5) = (F : Int) + (m : Int) + 5 := by rw [IntKind.wrap_i64]; omega
        have hx2 : ((F : Int) + (m : Int) + 5).toNat = F + m + 5 := by omega
        have hx3 : (F : Int) + (m : Int) + 5 < (n1 : Int) := by omega
        have hx4 : (0 : Int) ≤ (F : Int) + (m : Int) + 5 := by omega
        have hx5 : IntKind.i64.wrap 40 = 40 := by decide
        skip
        clear hn47
        go_wp2_with fail
        go_region_with fail
        all_goals go_wp2
        all_goals (obtain ⟨L', hL1, hL2, hL3⟩ := FIN.out _ _ (by first | assumption | exact (Fr.refl _ _).drew | exact Fr.refl _ _ | exact (Fr.refl _ _).drewN _))
        all_goals go_roundg 2
        all_goals (first | omega | exact ⟨6, 6, L', by decide, by decide, rfl, rfl, ⟨hL1, hL2, hL3⟩⟩)
      · obtain rfl : z = 6 := hz'
        have hx1 : IntKind.i64.wrap ((F : Int) + (m : Int) + 6) = (F : Int) + (m : Int) + 6 := by rw [IntKind.wrap_i64]; omega
        have hx2 : ((F : Int) + (m : Int) + 6).toNat = F + m + 6 := by omega
        have hx3 : (F : Int) + (m : Int) + 6 < (n1 : Int) := by omega
        have hx4 : (0 : Int) ≤ (F : Int) + (m : Int) + 6 := by omega
        have hx5 : IntKind.i64.wrap 48 = 48 := by decide
        skip
        clear hn47
        go_wp2_with fail
        go_region_with fail
        all_goals go_wp2
        all_goals (obtain ⟨L', hL1, hL2, hL3⟩ := FIN.out _ _ (by first | assumption | exact (Fr.refl _ _).drew | exact Fr.refl _ _ | exact (Fr.refl _ _).drewN _))
        all_goals go_roundg 1
        all_goals (first | omega | exact ⟨7, 7, L', by decide, by decide, rfl, rfl, ⟨hL1, hL2, hL3⟩⟩)
      · obtain rfl : z = 7 := hz'
        have hx1 : IntKind.i64.wrap ((F : Int) + (m : Int) + 7) = (F : Int) + (m : Int) + 7 := by rw [IntKind.wrap_i64]; omega
        have hx2 : ((F : Int) + (m : Int) + 7).toNat = F + m + 7 := by omega
        have hx3 : (F : Int) + (m : Int) + 7 < (n1 : Int) := by omega
        have hx4 : (0 : Int) ≤ (F : Int) + (m : Int) + 7 := by omega
        have hx5 : IntKind.i64.wrap 56 = 56 := by decide
        skip
        clear hn47
        go_wp2_with fail
        go_region_with fail
        all_goals go_wp2
        all_goals (obtain ⟨L', hL1, hL2, hL3⟩ := FIN.out _ _ (by first | assumption | exact (Fr.refl _ _).drew | exact Fr.refl _ _ | exact (Fr.refl _ _).drewN _))
        all_goals go_roundg 0
        all_goals (first | omega | exact ⟨8, 8, L', by decide, by decide, rfl, rfl, ⟨hL1, hL2, hL3⟩⟩)
    · obtain rfl : i = 8 := by omega
      obtain rfl : z = 8 := hz'
      obtain ⟨hNr, hOx, hNx⟩ := HI.out
      have H1 : Hid (∀ V, Nw wr V → Calls Try.prog 10 #[.int .u64 s.toNat, .slice (some ⟨g, 0, none⟩) n1 c1] V fun e w' => e = .returned (.int .u64 (s64 s L).toNat) ∧ Nw wr w') := fun V hV => cbase hV (sumf64_any s _ L V (hOx.nw hV).old)
      have H2 : Hid (∀ V, Nw wr V → Calls Try.prog 10 #[.int .u64 s.toNat, .slice a n1 cap] V fun e w' => e = .returned (.int .u64 (s64 s l).toNat) ∧ Nw wr w') := fun V hV => cbase hV (sumf64_any s _ l V (HB.out V (hNx.trans hV)))
      have KEY : Hid (∀ V, Nw wr V → (convert 24 9 (.slice (some ⟨g, 0, none⟩) n1 c1)).run Try.prog V = .ok (.string (str L)) V ∧ (convert 24 9 (.slice a n1 cap)).run Try.prog V = .ok (.string (str l)) V) := fun V hV => ⟨conv_any (hOx.nw hV).old, conv_any (HB.out V (hNx.trans hV))⟩
      have hEQ : Hid ((((s64 s L).toNat : Int) == ((s64 s l).toNat : Int)) = ((str L).toList == (str l).toList)) := by
        show _ = _
        rw [strs_eq, Bool.eq_iff_iff]
        simp only [beq_iff_eq, decide_eq_true_eq]
        rw [← near64 hNr hm8.out.1 hm8.out.2 s]
        constructor
        · intro e; exact BitVec.eq_of_toNat_eq (by omega)
        · intro e; rw [e]
      have hNxH : Hid (Nw w wr) := hNx
      clear HI hNr hOx hNx
      generalize s64 s L = S1 at *
      generalize s64 s l = S2 at *
      go_wp2_with fail
      go_region_held3 (fun w' => (convert 24 9 (.slice (some ⟨g, 0, none⟩) n1 c1)).run Try.prog w' = .ok (.string (str L)) w' ∧ (convert 24 9 (.slice a n1 cap)).run Try.prog w' = .ok (.string (str l)) w')
        (first | exact KEY.out _ (by assumption) | exact KEY.out _ (Fr.refl _ _).drew | exact KEY.out _ (Fr.refl _ _))
        (first
          | (go_at_call 10; with_reducible refine (H1.out _ ?_).mono ?_; (first | assumption | exact (Fr.refl _ _).drew | exact Fr.refl _ _ | exact (Fr.refl _ _).drewN _); rintro e w2 ⟨rfl, hN2⟩)
          | (go_at_call 10; with_reducible refine (H2.out _ ?_).mono ?_; (first | assumption | exact (Fr.refl _ _).drew | exact Fr.refl _ _ | exact (Fr.refl _ _).drewN _); rintro e w3 ⟨rfl, hN3⟩))
      all_goals go_wp2
      all_goals go_ret
      all_goals exact ⟨by rw [hEQ.out]; simp, hNxH.out.trans (by assumption)⟩
end xxhLong
end Go.Proofs.Ytlfcgldbgejfbaa

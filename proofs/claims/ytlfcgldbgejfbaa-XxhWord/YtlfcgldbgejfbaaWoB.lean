import Derived.Test.YtlfcgldbgejfbaaWoA
namespace Go.Proofs.Ytlfcgldbgejfbaa
namespace xxhWord
open Go.RowKit
set_option linter.unusedVariables false
set_option maxHeartbeats 40000000 in
set_option maxRecDepth 100000 in
theorem posWord (l : List By) (a : Option Addr) (cap : Nat) (s oth : BitVec 32) (q : Nat) (hq : q < 9223372036854775808) (w : World) (hv : Old w (.slice a l.length cap) l) (hb : l.length ≤ 140737488351232) (hl0 : 0 < l.length) (hw : q % l.length / 4 * 4 + 4 ≤ l.length) :
    Calls Try.prog 6 #[.int .u32 s.toNat, .slice a l.length cap, .int .i64 (q : Int), .int .u32 oth.toNat] w fun e w' => e = .returned (.bool true) ∧ Nw w w' := by
  have HL : Hid (∀ V, Nw w V → Calls Try.prog 19 #[] V fun e w' => e = .returned (.bool true) ∧ Nw w w') := fun V hV => cbase hV (lives_any V)
  obtain ⟨p, hp⟩ : ∃ p, p = q % l.length := ⟨_, rfl⟩
  have hpl : p < l.length := by rw [hp]; exact Nat.mod_lt _ hl0
  have hmod : (q : Int) % (l.length : Int) = (p : Int) := by rw [hp]; simp
  obtain ⟨y, hy⟩ : ∃ y, y = l[p]'hpl := ⟨_, rfl⟩
  have HAP : Hid (∀ V, Nw w V → ∃ g n1 c1 W1, Hid (∀ ty, (Builtin.append_ #[24, 24] ty #[.slice (some ⟨V.heap.size, 0, none⟩) 0 0, .slice a l.length cap]).run Try.prog (V.alloc (.cells #[] 5)) = .ok (.slice (some ⟨g, 0, none⟩) n1 c1) W1) ∧ n1 = l.length ∧ n1 ≤ c1 ∧ c1 < 9223372036854775808 ∧ Hid (Ow g (.slice (some ⟨g, 0, none⟩) n1 c1) l W1) ∧ Hid (Nw w W1) ∧ Hid (w.heap.size ≤ g) ∧ W1.cell? ⟨g, p, none⟩ = some (.int .u8 y.toNat) ∧ W1.frozen? ⟨g, p, none⟩ = false) := by
    intro V hV
    obtain ⟨v1, g1, W1, hap1, hO1, hF1, hg1⟩ := app_any (V.alloc (.cells #[] 5)) V.heap.size _ [] (Ow.empty V) (.slice a l.length cap) l ((hv.nw (hV.alloc _)).mono (fun _ h => h.elim)) (by simp; omega)
    rw [List.nil_append] at hO1
    obtain ⟨xs, rfl, h2, h3, h4, h5⟩ := hO1
    have hsz := hV.size
    have hOw : Ow g1 (.slice (some ⟨g1, 0, none⟩) l.length xs.length) l W1 := ⟨xs, rfl, h2, h3, h4, h5⟩
    have hat := hOw.at p hpl
    rw [← hy] at hat
    refine ⟨g1, l.length, xs.length, W1, hap1, rfl, h3, h4, hOw, Fr.then (hV.alloc _) hF1 (fun i hi => .inr (by omega)), ?_, hat.1, hat.2⟩
    show _ ≤ _
    rcases hg1 with h | h
    · omega
    · simp at h; omega
  have HB : Hid (∀ V, Nw w V → Old V (.slice a l.length cap) l) := fun V hV => Sl.later hv hV
  have hlz : ((l.length : Int) == 0) = false := by rw [beq_eq_false_iff_ne]; omega
  rw [← hp] at hw
  have hqz : (q : Int) < 9223372036854775808 := by omega
  have hlzz : ¬ (l.length : Int) = 0 := by omega
  have hlz2 : (0 : Int) < (l.length : Int) := by omega
  have hlz3 : (l.length : Int) ≤ 140737488351232 := by omega
  have hp4 : (p : Int) / 4 * 4 + 4 ≤ (l.length : Int) := by omega
  clear hv hp hy
  generalize hn : l.length = n at *
  have hnH : Hid (l.length = n) := hn
  clear hn
  have hbH : Hid (n ≤ 140737488351232) := hb
  clear hqz hq hb
  go_enter Try.func6, Try.ntmps6
  go_wp2_with (first
      | (go_at_call 19; with_reducible refine (HL.out _ ?_).mono ?_; (first | assumption | exact Fr.refl _ _); rintro e w1 ⟨rfl, hN1⟩; obtain ⟨g, n1, c1, W1, hap, hn1, hnc, hc1, hO, hNW, hge, c2, c3⟩ := HAP.out w1 hN1; subst hn1)
      | (at_builtin; refine Lib.wpList_append_run _ rfl _ _ 24 24 rfl (.slice (some ⟨w1.heap.size, 0, none⟩) 0 0) (.slice a _ cap) (by simp [Act.eval]) (by simp [Act.eval]) _ _ (hap.out _) ?_))
  obtain ⟨m, hm⟩ : ∃ m, m = p / 4 * 4 := ⟨_, rfl⟩
  have hmz : (p : Int) / 4 * 4 = (m : Int) := by rw [hm]; simp
  have hm4 : Hid (m % 4 = 0) := by show _ = _; omega
  have hmn : m + 4 ≤ n1 := by rw [hm]; exact hw
  rw [hmz]
  generalize (p : Int) / 4 = e1
  generalize (m : Int) + 4 = e2
  try generalize decide ((q : Int) < 0) = e3
  have HS0 : Hid (Near m 4 l l ∧ Ow g (.slice (some ⟨g, 0, none⟩) n1 c1) l W1 ∧ Nw w W1) := ⟨Near.refl m 4 l (by rw [hnH.out]; exact hmn), hO.out, hNW.out⟩
  have hn47 := hbH.out
  clear hp4 hw hmod hm hmz hap hO hNW hpl hbH c2 c3
  go_loopg [11] 4 (fun kx t wr => ∃ (i : Nat) (z : Int) (L : List By), i ≤ 4 ∧ 4 - i ≤ kx ∧ t = .int .i64 z ∧ z = i ∧ Hid (Near m 4 l L ∧ Ow g (.slice (some ⟨g, 0, none⟩) n1 c1) L wr ∧ Nw w wr))
  case atStart => exact ⟨0, 0, l, by decide, by decide, rfl, rfl, HS0⟩
  case round =>
    obtain ⟨i, z, L, hi, hkx, rfl, hz', HI⟩ := hrel
    by_cases hlt : i < 4
    · have hLn : L.length = n1 := by rw [HI.out.1.length]; exact hnH.out
      have hat := HI.out.2.1.at (m + i) (by omega)
      obtain ⟨y, hy⟩ : ∃ y, y = L[m + i]'(by omega) := ⟨_, rfl⟩
      rw [← hy] at hat
      have FIN : Hid (∀ V k, Nw wr V → ∃ L', Near m 4 l L' ∧ Ow g (.slice (some ⟨g, 0, none⟩) n1 c1) L' (V.setCell ⟨g, m + i, none⟩ (.int .u8 (bits .xor .u8 (y.toNat : Int) k))) ∧ Nw w (V.setCell ⟨g, m + i, none⟩ (.int .u8 (bits .xor .u8 (y.toNat : Int) k)))) := by
        intro V k hV
        obtain ⟨zb, hzb⟩ := xor_byte (y.toNat : Int) k
        exact ⟨L.set (m + i) zb, HI.out.1.put i hlt zb, (HI.out.2.1.nw hV).put (m + i) (by omega) zb _ hzb, (HI.out.2.2.trans hV).setCell _ _ (.inr hge.out)⟩
      have KC : Hid (∀ V, Nw wr V → V.cell? ⟨g, m + i, none⟩ = some (.int .u8 y.toNat) ∧ V.frozen? ⟨g, m + i, none⟩ = false) := by
        intro V hV
        have := (HI.out.2.1.nw hV).at (m + i) (by omega)
        rw [← hy] at this; exact this
      obtain ⟨c2, c3⟩ := hat
      clear HI hLn hy hn47
      obtain rfl | rfl | rfl | rfl : i = 0 ∨ i = 1 ∨ i = 2 ∨ i = 3 := by omega
      · obtain rfl : z = 0 := hz'
        skip
        skip
        skip
        skip
        have hx5 : IntKind.i64.wrap 0 = 0 := by decide
        have hx6 : IntKind.i64.wrap (m : Int) = (m : Int) := by rw [IntKind.wrap_i64]; omega
        have hx7 : (m : Int) < (n1 : Int) := by omega
        rw [Nat.add_zero] at c2 c3
        go_wp2_with fail
        go_region_with fail
        all_goals go_wp2
        all_goals (obtain ⟨L', hL1, hL2, hL3⟩ := FIN.out _ _ (by first | assumption | exact (Fr.refl _ _).drew | exact Fr.refl _ _ | exact (Fr.refl _ _).drewN _))
        all_goals go_roundg 3
        all_goals (first | omega | exact ⟨1, 1, L', by decide, by decide, rfl, rfl, ⟨hL1, hL2, hL3⟩⟩)
      · obtain rfl : z = 1 := hz'
        have hx1 : IntKind.i64.wrap ((m : Int) + 1) = (m : Int) + 1 := by rw [IntKind.wrap_i64]; omega
        have hx2 : ((m : Int) + 1).toNat = m + 1 := by omega
        have hx3 : (m : Int) + 1 < (n1 : Int) := by omega
        have hx4 : (0 : Int) ≤ (m : Int) + 1 := by omega
        have hx5 : IntKind.i64.wrap 8 = 8 := by decide
        skip
        skip
        skip
        go_wp2_with fail
        go_region_with fail
        all_goals go_wp2
        all_goals (obtain ⟨L', hL1, hL2, hL3⟩ := FIN.out _ _ (by first | assumption | exact (Fr.refl _ _).drew | exact Fr.refl _ _ | exact (Fr.refl _ _).drewN _))
        all_goals go_roundg 2
        all_goals (first | omega | exact ⟨2, 2, L', by decide, by decide, rfl, rfl, ⟨hL1, hL2, hL3⟩⟩)
      · obtain rfl : z = 2 := hz'
        have hx1 : IntKind.i64.wrap ((m : Int) + 2) = (m : Int) + 2 := by rw [IntKind.wrap_i64]; omega
        have hx2 : ((m : Int) + 2).toNat = m + 2 := by omega
        have hx3 : (m : Int) + 2 < (n1 : Int) := by omega
        have hx4 : (0 : Int) ≤ (m : Int) + 2 := by omega
        have hx5 : IntKind.i64.wrap 16 = 16 := by decide
        skip
        skip
        skip
        go_wp2_with fail
        go_region_with fail
        all_goals go_wp2
        all_goals (obtain ⟨L', hL1, hL2, hL3⟩ := FIN.out _ _ (by first | assumption | exact (Fr.refl _ _).drew | exact Fr.refl _ _ | exact (Fr.refl _ _).drewN _))
        all_goals go_roundg 1
        all_goals (first | omega | exact ⟨3, 3, L', by decide, by decide, rfl, rfl, ⟨hL1, hL2, hL3⟩⟩)
      · obtain rfl : z = 3 := hz'
        have hx1 : IntKind.i64.wrap ((m : Int) + 3) = (m : Int) + 3 := by rw [IntKind.wrap_i64]; omega
        have hx2 : ((m : Int) + 3).toNat = m + 3 := by omega
        have hx3 : (m : Int) + 3 < (n1 : Int) := by omega
        have hx4 : (0 : Int) ≤ (m : Int) + 3 := by omega
        have hx5 : IntKind.i64.wrap 24 = 24 := by decide
        skip
        skip
        skip
        go_wp2_with fail
        go_region_with fail
        all_goals go_wp2
        all_goals (obtain ⟨L', hL1, hL2, hL3⟩ := FIN.out _ _ (by first | assumption | exact (Fr.refl _ _).drew | exact Fr.refl _ _ | exact (Fr.refl _ _).drewN _))
        all_goals go_roundg 0
        all_goals (first | omega | exact ⟨4, 4, L', by decide, by decide, rfl, rfl, ⟨hL1, hL2, hL3⟩⟩)
    · obtain rfl : i = 4 := by omega
      obtain rfl : z = 4 := hz'
      obtain ⟨hNr, hOx, hNx⟩ := HI.out
      have H1 : Hid (∀ V, Nw wr V → Calls Try.prog 9 #[.int .u32 s.toNat, .slice (some ⟨g, 0, none⟩) n1 c1] V fun e w' => e = .returned (.int .u32 (s32 s L).toNat) ∧ Nw wr w') := fun V hV => cbase hV (sumf32_any s _ L V (hOx.nw hV).old)
      have H2 : Hid (∀ V, Nw wr V → Calls Try.prog 9 #[.int .u32 s.toNat, .slice a n1 cap] V fun e w' => e = .returned (.int .u32 (s32 s l).toNat) ∧ Nw wr w') := fun V hV => cbase hV (sumf32_any s _ l V (HB.out V (hNx.trans hV)))
      have KEY : Hid (∀ V, Nw wr V → (convert 24 9 (.slice (some ⟨g, 0, none⟩) n1 c1)).run Try.prog V = .ok (.string (str L)) V ∧ (convert 24 9 (.slice a n1 cap)).run Try.prog V = .ok (.string (str l)) V) := fun V hV => ⟨conv_any (hOx.nw hV).old, conv_any (HB.out V (hNx.trans hV))⟩
      have hEQ : Hid ((((s32 s L).toNat : Int) == ((s32 s l).toNat : Int)) = ((str L).toList == (str l).toList)) := by
        show _ = _
        rw [strs_eq, Bool.eq_iff_iff]
        simp only [beq_iff_eq, decide_eq_true_eq]
        rw [← near32 hNr hm4.out s]
        constructor
        · intro e; exact BitVec.eq_of_toNat_eq (by omega)
        · intro e; rw [e]
      have hNxH : Hid (Nw w wr) := hNx
      clear HI hNr hOx hNx
      generalize s32 s L = S1 at *
      generalize s32 s l = S2 at *
      go_wp2_with fail
      go_region_held3 (fun w' => (convert 24 9 (.slice (some ⟨g, 0, none⟩) n1 c1)).run Try.prog w' = .ok (.string (str L)) w' ∧ (convert 24 9 (.slice a n1 cap)).run Try.prog w' = .ok (.string (str l)) w')
        (first | exact KEY.out _ (by assumption) | exact KEY.out _ (Fr.refl _ _).drew | exact KEY.out _ (Fr.refl _ _))
        (first
          | (go_at_call 9; with_reducible refine (H1.out _ ?_).mono ?_; (first | assumption | exact (Fr.refl _ _).drew | exact Fr.refl _ _ | exact (Fr.refl _ _).drewN _); rintro e w2 ⟨rfl, hN2⟩)
          | (go_at_call 9; with_reducible refine (H2.out _ ?_).mono ?_; (first | assumption | exact (Fr.refl _ _).drew | exact Fr.refl _ _ | exact (Fr.refl _ _).drewN _); rintro e w3 ⟨rfl, hN3⟩))
      all_goals go_wp2
      all_goals go_ret
      all_goals exact ⟨by rw [hEQ.out]; simp, hNxH.out.trans (by assumption)⟩
set_option maxHeartbeats 40000000 in
set_option maxRecDepth 100000 in
theorem posByte (l : List By) (a : Option Addr) (cap : Nat) (s oth : BitVec 32) (q : Nat) (hq : q < 9223372036854775808) (w : World) (hv : Old w (.slice a l.length cap) l) (hb : l.length ≤ 140737488351232) (hl0 : 0 < l.length) (hw : ¬ q % l.length / 4 * 4 + 4 ≤ l.length) :
    Calls Try.prog 6 #[.int .u32 s.toNat, .slice a l.length cap, .int .i64 (q : Int), .int .u32 oth.toNat] w fun e w' => e = .returned (.bool true) ∧ Nw w w' := by
  have HL : Hid (∀ V, Nw w V → Calls Try.prog 19 #[] V fun e w' => e = .returned (.bool true) ∧ Nw w w') := fun V hV => cbase hV (lives_any V)
  obtain ⟨p, hp⟩ : ∃ p, p = q % l.length := ⟨_, rfl⟩
  have hpl : p < l.length := by rw [hp]; exact Nat.mod_lt _ hl0
  have hmod : (q : Int) % (l.length : Int) = (p : Int) := by rw [hp]; simp
  obtain ⟨y, hy⟩ : ∃ y, y = l[p]'hpl := ⟨_, rfl⟩
  have HAP : Hid (∀ V, Nw w V → ∃ g n1 c1 W1, Hid (∀ ty, (Builtin.append_ #[24, 24] ty #[.slice (some ⟨V.heap.size, 0, none⟩) 0 0, .slice a l.length cap]).run Try.prog (V.alloc (.cells #[] 5)) = .ok (.slice (some ⟨g, 0, none⟩) n1 c1) W1) ∧ n1 = l.length ∧ n1 ≤ c1 ∧ c1 < 9223372036854775808 ∧ Hid (Ow g (.slice (some ⟨g, 0, none⟩) n1 c1) l W1) ∧ Hid (Nw w W1) ∧ Hid (w.heap.size ≤ g) ∧ W1.cell? ⟨g, p, none⟩ = some (.int .u8 y.toNat) ∧ W1.frozen? ⟨g, p, none⟩ = false) := by
    intro V hV
    obtain ⟨v1, g1, W1, hap1, hO1, hF1, hg1⟩ := app_any (V.alloc (.cells #[] 5)) V.heap.size _ [] (Ow.empty V) (.slice a l.length cap) l ((hv.nw (hV.alloc _)).mono (fun _ h => h.elim)) (by simp; omega)
    rw [List.nil_append] at hO1
    obtain ⟨xs, rfl, h2, h3, h4, h5⟩ := hO1
    have hsz := hV.size
    have hOw : Ow g1 (.slice (some ⟨g1, 0, none⟩) l.length xs.length) l W1 := ⟨xs, rfl, h2, h3, h4, h5⟩
    have hat := hOw.at p hpl
    rw [← hy] at hat
    refine ⟨g1, l.length, xs.length, W1, hap1, rfl, h3, h4, hOw, Fr.then (hV.alloc _) hF1 (fun i hi => .inr (by omega)), ?_, hat.1, hat.2⟩
    show _ ≤ _
    rcases hg1 with h | h
    · omega
    · simp at h; omega
  have HB : Hid (∀ V, Nw w V → Old V (.slice a l.length cap) l) := fun V hV => Sl.later hv hV
  have hlz : ((l.length : Int) == 0) = false := by rw [beq_eq_false_iff_ne]; omega
  rw [← hp] at hw
  have hqz : (q : Int) < 9223372036854775808 := by omega
  have hlzz : ¬ (l.length : Int) = 0 := by omega
  have hlz2 : (0 : Int) < (l.length : Int) := by omega
  have hlz3 : (l.length : Int) ≤ 140737488351232 := by omega
  have hp4 : (p : Int) / 4 * 4 + 4 > (l.length : Int) := by omega
  clear hv hp hy
  generalize hn : l.length = n at *
  have hnH : Hid (l.length = n) := hn
  clear hn
  have hbH : Hid (n ≤ 140737488351232) := hb
  clear hqz hq hb
  have hp5 : (p : Int) < (n : Int) := by omega
  go_enter Try.func6, Try.ntmps6
  go_wp2_with (first
      | (go_at_call 19; with_reducible refine (HL.out _ ?_).mono ?_; (first | assumption | exact Fr.refl _ _); rintro e w1 ⟨rfl, hN1⟩; obtain ⟨g, n1, c1, W1, hap, hn1, hnc, hc1, hO, hNW, hge, c2, c3⟩ := HAP.out w1 hN1; subst hn1)
      | (at_builtin; refine Lib.wpList_append_run _ rfl _ _ 24 24 rfl (.slice (some ⟨w1.heap.size, 0, none⟩) 0 0) (.slice a _ cap) (by simp [Act.eval]) (by simp [Act.eval]) _ _ (hap.out _) ?_))
  have FIN : Hid (∀ k, ∃ L, Near p 1 l L ∧ Ow g (.slice (some ⟨g, 0, none⟩) n1 c1) L (W1.setCell ⟨g, p, none⟩ (.int .u8 (bits .xor .u8 (y.toNat : Int) k))) ∧ Nw w (W1.setCell ⟨g, p, none⟩ (.int .u8 (bits .xor .u8 (y.toNat : Int) k)))) := by
    intro k
    obtain ⟨zb, hzb⟩ := xor_byte (y.toNat : Int) k
    exact ⟨l.set p zb, (Near.refl p 1 l (by rw [hnH.out]; omega)).put 0 (by decide) zb, hO.out.put p (by rw [hnH.out]; exact hpl) zb _ hzb, hNW.out.setCell _ _ (.inr hge.out)⟩
  have hp47 : Hid (l.length / 4 * 4 ≤ p) := by show _ ≤ _; rw [hnH.out]; omega
  obtain ⟨L, hNr, hOx, hNx⟩ := FIN.out ((oth.toNat : Int) % 256)
  have HI := hNr
  clear FIN hO c2 c3 hap hNW
  generalize W1.setCell ⟨g, p, none⟩ (.int .u8 (bits .xor .u8 (y.toNat : Int) ((oth.toNat : Int) % 256))) = wr at *
  have H1 : Hid (∀ V, Nw wr V → Calls Try.prog 9 #[.int .u32 s.toNat, .slice (some ⟨g, 0, none⟩) n1 c1] V fun e w' => e = .returned (.int .u32 (s32 s L).toNat) ∧ Nw wr w') := fun V hV => cbase hV (sumf32_any s _ L V (hOx.nw hV).old)
  have H2 : Hid (∀ V, Nw wr V → Calls Try.prog 9 #[.int .u32 s.toNat, .slice a n1 cap] V fun e w' => e = .returned (.int .u32 (s32 s l).toNat) ∧ Nw wr w') := fun V hV => cbase hV (sumf32_any s _ l V (HB.out V (hNx.trans hV)))
  have KEY : Hid (∀ V, Nw wr V → (convert 24 9 (.slice (some ⟨g, 0, none⟩) n1 c1)).run Try.prog V = .ok (.string (str L)) V ∧ (convert 24 9 (.slice a n1 cap)).run Try.prog V = .ok (.string (str l)) V) := fun V hV => ⟨conv_any (hOx.nw hV).old, conv_any (HB.out V (hNx.trans hV))⟩
  have hEQ : Hid ((((s32 s L).toNat : Int) == ((s32 s l).toNat : Int)) = ((str L).toList == (str l).toList)) := by
    show _ = _
    rw [strs_eq, Bool.eq_iff_iff]
    simp only [beq_iff_eq, decide_eq_true_eq]
    rw [← near32b hNr hp47.out s]
    constructor
    · intro e; exact BitVec.eq_of_toNat_eq (by omega)
    · intro e; rw [e]
  have hNxH : Hid (Nw w wr) := hNx
  clear HI hNr hOx hNx
  generalize s32 s L = S1 at *
  generalize s32 s l = S2 at *
  go_wp2_with fail
  go_region_held3 (fun w' => (convert 24 9 (.slice (some ⟨g, 0, none⟩) n1 c1)).run Try.prog w' = .ok (.string (str L)) w' ∧ (convert 24 9 (.slice a n1 cap)).run Try.prog w' = .ok (.string (str l)) w')
    (first | exact KEY.out _ (by assumption) | exact KEY.out _ (Fr.refl _ _).drew | exact KEY.out _ (Fr.refl _ _))
    (first
      | (go_at_call 9; with_reducible refine (H1.out _ ?_).mono ?_; (first | assumption | exact (Fr.refl _ _).drew | exact Fr.refl _ _ | exact (Fr.refl _ _).drewN _); rintro e w2 ⟨rfl, hN2⟩)
      | (go_at_call 9; with_reducible refine (H2.out _ ?_).mono ?_; (first | assumption | exact (Fr.refl _ _).drew | exact Fr.refl _ _ | exact (Fr.refl _ _).drewN _); rintro e w3 ⟨rfl, hN3⟩))
  all_goals go_wp2
  all_goals go_ret
  all_goals exact ⟨by rw [hEQ.out]; simp, hNxH.out.trans (by assumption)⟩
set_option maxHeartbeats 40000000 in
set_option maxRecDepth 100000 in
theorem negWord (l : List By) (a : Option Addr) (cap : Nat) (s oth : BitVec 32) (q : Nat) (hq : q < 9223372036854775808) (w : World) (hv : Old w (.slice a l.length cap) l) (hb : l.length ≤ 140737488351232) (hl0 : 0 < l.length) (hw : q % l.length / 4 * 4 + 4 ≤ l.length) :
    Calls Try.prog 6 #[.int .u32 s.toNat, .slice a l.length cap, .int .i64 (-((q : Int) + 1)), .int .u32 oth.toNat] w fun e w' => e = .returned (.bool true) ∧ Nw w w' := by
  have HL : Hid (∀ V, Nw w V → Calls Try.prog 19 #[] V fun e w' => e = .returned (.bool true) ∧ Nw w w') := fun V hV => cbase hV (lives_any V)
  obtain ⟨p, hp⟩ : ∃ p, p = q % l.length := ⟨_, rfl⟩
  have hpl : p < l.length := by rw [hp]; exact Nat.mod_lt _ hl0
  have hmod : (q : Int) % (l.length : Int) = (p : Int) := by rw [hp]; simp
  obtain ⟨y, hy⟩ : ∃ y, y = l[p]'hpl := ⟨_, rfl⟩
  have HAP : Hid (∀ V, Nw w V → ∃ g n1 c1 W1, Hid (∀ ty, (Builtin.append_ #[24, 24] ty #[.slice (some ⟨V.heap.size, 0, none⟩) 0 0, .slice a l.length cap]).run Try.prog (V.alloc (.cells #[] 5)) = .ok (.slice (some ⟨g, 0, none⟩) n1 c1) W1) ∧ n1 = l.length ∧ n1 ≤ c1 ∧ c1 < 9223372036854775808 ∧ Hid (Ow g (.slice (some ⟨g, 0, none⟩) n1 c1) l W1) ∧ Hid (Nw w W1) ∧ Hid (w.heap.size ≤ g) ∧ W1.cell? ⟨g, p, none⟩ = some (.int .u8 y.toNat) ∧ W1.frozen? ⟨g, p, none⟩ = false) := by
    intro V hV
    obtain ⟨v1, g1, W1, hap1, hO1, hF1, hg1⟩ := app_any (V.alloc (.cells #[] 5)) V.heap.size _ [] (Ow.empty V) (.slice a l.length cap) l ((hv.nw (hV.alloc _)).mono (fun _ h => h.elim)) (by simp; omega)
    rw [List.nil_append] at hO1
    obtain ⟨xs, rfl, h2, h3, h4, h5⟩ := hO1
    have hsz := hV.size
    have hOw : Ow g1 (.slice (some ⟨g1, 0, none⟩) l.length xs.length) l W1 := ⟨xs, rfl, h2, h3, h4, h5⟩
    have hat := hOw.at p hpl
    rw [← hy] at hat
    refine ⟨g1, l.length, xs.length, W1, hap1, rfl, h3, h4, hOw, Fr.then (hV.alloc _) hF1 (fun i hi => .inr (by omega)), ?_, hat.1, hat.2⟩
    show _ ≤ _
    rcases hg1 with h | h
    · omega
    · simp at h; omega
  have HB : Hid (∀ V, Nw w V → Old V (.slice a l.length cap) l) := fun V hV => Sl.later hv hV
  have hlz : ((l.length : Int) == 0) = false := by rw [beq_eq_false_iff_ne]; omega
  rw [← hp] at hw
  have hqz : (q : Int) < 9223372036854775808 := by omega
  have hlzz : ¬ (l.length : Int) = 0 := by omega
  have hlz2 : (0 : Int) < (l.length : Int) := by omega
  have hlz3 : (l.length : Int) ≤ 140737488351232 := by omega
  have hp4 : (p : Int) / 4 * 4 + 4 ≤ (l.length : Int) := by omega
  clear hv hp hy
  generalize hn : l.length = n at *
  have hnH : Hid (l.length = n) := hn
  clear hn
  have hbH : Hid (n ≤ 140737488351232) := hb
  have hz1 : IntKind.i64.wrap (-((q : Int) + 1) + 1) = -(q : Int) := by rw [IntKind.wrap_i64]; omega
  have hz2 : IntKind.i64.wrap (-(-(q : Int))) = (q : Int) := by rw [IntKind.wrap_i64]; omega
  have hz3 : IntKind.i64.wrap (q : Int) = (q : Int) := by rw [IntKind.wrap_i64]; omega
  have hz4 : (-((q : Int) + 1) < 0) := by omega
  clear hqz hq hb
  go_enter Try.func6, Try.ntmps6
  go_wp2_with (first
      | (go_at_call 19; with_reducible refine (HL.out _ ?_).mono ?_; (first | assumption | exact Fr.refl _ _); rintro e w1 ⟨rfl, hN1⟩; obtain ⟨g, n1, c1, W1, hap, hn1, hnc, hc1, hO, hNW, hge, c2, c3⟩ := HAP.out w1 hN1; subst hn1)
      | (at_builtin; refine Lib.wpList_append_run _ rfl _ _ 24 24 rfl (.slice (some ⟨w1.heap.size, 0, none⟩) 0 0) (.slice a _ cap) (by simp [Act.eval]) (by simp [Act.eval]) _ _ (hap.out _) ?_))
  obtain ⟨m, hm⟩ : ∃ m, m = p / 4 * 4 := ⟨_, rfl⟩
  have hmz : (p : Int) / 4 * 4 = (m : Int) := by rw [hm]; simp
  have hm4 : Hid (m % 4 = 0) := by show _ = _; omega
  have hmn : m + 4 ≤ n1 := by rw [hm]; exact hw
  rw [hmz]
  generalize (p : Int) / 4 = e1
  generalize (m : Int) + 4 = e2
  try generalize decide ((q : Int) < 0) = e3
  have HS0 : Hid (Near m 4 l l ∧ Ow g (.slice (some ⟨g, 0, none⟩) n1 c1) l W1 ∧ Nw w W1) := ⟨Near.refl m 4 l (by rw [hnH.out]; exact hmn), hO.out, hNW.out⟩
  have hn47 := hbH.out
  clear hp4 hw hmod hm hmz hap hO hNW hpl hbH c2 c3
  go_loopg [11] 4 (fun kx t wr => ∃ (i : Nat) (z : Int) (L : List By), i ≤ 4 ∧ 4 - i ≤ kx ∧ t = .int .i64 z ∧ z = i ∧ Hid (Near m 4 l L ∧ Ow g (.slice (some ⟨g, 0, none⟩) n1 c1) L wr ∧ Nw w wr))
  case atStart => exact ⟨0, 0, l, by decide, by decide, rfl, rfl, HS0⟩
  case round =>
    obtain ⟨i, z, L, hi, hkx, rfl, hz', HI⟩ := hrel
    by_cases hlt : i < 4
    · have hLn : L.length = n1 := by rw [HI.out.1.length]; exact hnH.out
      have hat := HI.out.2.1.at (m + i) (by omega)
      obtain ⟨y, hy⟩ : ∃ y, y = L[m + i]'(by omega) := ⟨_, rfl⟩
      rw [← hy] at hat
      have FIN : Hid (∀ V k, Nw wr V → ∃ L', Near m 4 l L' ∧ Ow g (.slice (some ⟨g, 0, none⟩) n1 c1) L' (V.setCell ⟨g, m + i, none⟩ (.int .u8 (bits .xor .u8 (y.toNat : Int) k))) ∧ Nw w (V.setCell ⟨g, m + i, none⟩ (.int .u8 (bits .xor .u8 (y.toNat : Int) k)))) := by
        intro V k hV
        obtain ⟨zb, hzb⟩ := xor_byte (y.toNat : Int) k
        exact ⟨L.set (m + i) zb, HI.out.1.put i hlt zb, (HI.out.2.1.nw hV).put (m + i) (by omega) zb _ hzb, (HI.out.2.2.trans hV).setCell _ _ (.inr hge.out)⟩
      have KC : Hid (∀ V, Nw wr V → V.cell? ⟨g, m + i, none⟩ = some (.int .u8 y.toNat) ∧ V.frozen? ⟨g, m + i, none⟩ = false) := by
        intro V hV
        have := (HI.out.2.1.nw hV).at (m + i) (by omega)
        rw [← hy] at this; exact this
      obtain ⟨c2, c3⟩ := hat
      clear HI hLn hy hn47
      obtain rfl | rfl | rfl | rfl : i = 0 ∨ i = 1 ∨ i = 2 ∨ i = 3 := by omega
      · obtain rfl : z = 0 := hz'
        skip
        skip
        skip
        skip
        have hx5 : IntKind.i64.wrap 0 = 0 := by decide
        have hx6 : IntKind.i64.wrap (m : Int) = (m : Int) := by rw [IntKind.wrap_i64]; omega
        have hx7 : (m : Int) < (n1 : Int) := by omega
        rw [Nat.add_zero] at c2 c3
        go_wp2_with fail
        go_region_with fail
        all_goals go_wp2
        all_goals (obtain ⟨L', hL1, hL2, hL3⟩ := FIN.out _ _ (by first | assumption | exact (Fr.refl _ _).drew | exact Fr.refl _ _ | exact (Fr.refl _ _).drewN _))
        all_goals go_roundg 3
        all_goals (first | omega | exact ⟨1, 1, L', by decide, by decide, rfl, rfl, ⟨hL1, hL2, hL3⟩⟩)
      · obtain rfl : z = 1 := hz'
        have hx1 : IntKind.i64.wrap ((m : Int) + 1) = (m : Int) + 1 := by rw [IntKind.wrap_i64]; omega
        have hx2 : ((m : Int) + 1).toNat = m + 1 := by omega
        have hx3 : (m : Int) + 1 < (n1 : Int) := by omega
        have hx4 : (0 : Int) ≤ (m : Int) + 1 := by omega
        have hx5 : IntKind.i64.wrap 8 = 8 := by decide
        skip
        skip
        skip
        go_wp2_with fail
        go_region_with fail
        all_goals go_wp2
        all_goals (obtain ⟨L', hL1, hL2, hL3⟩ := FIN.out _ _ (by first | assumption | exact (Fr.refl _ _).drew | exact Fr.refl _ _ | exact (Fr.refl _ _).drewN _))
        all_goals go_roundg 2
        all_goals (first | omega | exact ⟨2, 2, L', by decide, by decide, rfl, rfl, ⟨hL1, hL2, hL3⟩⟩)
      · obtain rfl : z = 2 := hz'
        have hx1 : IntKind.i64.wrap ((m : Int) + 2) = (m : Int) + 2 := by rw [IntKind.wrap_i64]; omega
        have hx2 : ((m : Int) + 2).toNat = m + 2 := by omega
        have hx3 : (m : Int) + 2 < (n1 : Int) := by omega
        have hx4 : (0 : Int) ≤ (m : Int) + 2 := by omega
        have hx5 : IntKind.i64.wrap 16 = 16 := by decide
        skip
        skip
        skip
        go_wp2_with fail
        go_region_with fail
        all_goals go_wp2
        all_goals (obtain ⟨L', hL1, hL2, hL3⟩ := FIN.out _ _ (by first | assumption | exact (Fr.refl _ _).drew | exact Fr.refl _ _ | exact (Fr.refl _ _).drewN _))
        all_goals go_roundg 1
        all_goals (first | omega | exact ⟨3, 3, L', by decide, by decide, rfl, rfl, ⟨hL1, hL2, hL3⟩⟩)
      · obtain rfl : z = 3 := hz'
        have hx1 : IntKind.i64.wrap ((m : Int) + 3) = (m : Int) + 3 := by rw [IntKind.wrap_i64]; omega
        have hx2 : ((m : Int) + 3).toNat = m + 3 := by omega
        have hx3 : (m : Int) + 3 < (n1 : Int) := by omega
        have hx4 : (0 : Int) ≤ (m : Int) + 3 := by omega
        have hx5 : IntKind.i64.wrap 24 = 24 := by decide
        skip
        skip
        skip
        go_wp2_with fail
        go_region_with fail
        all_goals go_wp2
        all_goals (obtain ⟨L', hL1, hL2, hL3⟩ := FIN.out _ _ (by first | assumption | exact (Fr.refl _ _).drew | exact Fr.refl _ _ | exact (Fr.refl _ _).drewN _))
        all_goals go_roundg 0
        all_goals (first | omega | exact ⟨4, 4, L', by decide, by decide, rfl, rfl, ⟨hL1, hL2, hL3⟩⟩)
    · obtain rfl : i = 4 := by omega
      obtain rfl : z = 4 := hz'
      obtain ⟨hNr, hOx, hNx⟩ := HI.out
      have H1 : Hid (∀ V, Nw wr V → Calls Try.prog 9 #[.int .u32 s.toNat, .slice (some ⟨g, 0, none⟩) n1 c1] V fun e w' => e = .returned (.int .u32 (s32 s L).toNat) ∧ Nw wr w') := fun V hV => cbase hV (sumf32_any s _ L V (hOx.nw hV).old)
      have H2 : Hid (∀ V, Nw wr V → Calls Try.prog 9 #[.int .u32 s.toNat, .slice a n1 cap] V fun e w' => e = .returned (.int .u32 (s32 s l).toNat) ∧ Nw wr w') := fun V hV => cbase hV (sumf32_any s _ l V (HB.out V (hNx.trans hV)))
      have KEY : Hid (∀ V, Nw wr V → (convert 24 9 (.slice (some ⟨g, 0, none⟩) n1 c1)).run Try.prog V = .ok (.string (str L)) V ∧ (convert 24 9 (.slice a n1 cap)).run Try.prog V = .ok (.string (str l)) V) := fun V hV => ⟨conv_any (hOx.nw hV).old, conv_any (HB.out V (hNx.trans hV))⟩
      have hEQ : Hid ((((s32 s L).toNat : Int) == ((s32 s l).toNat : Int)) = ((str L).toList == (str l).toList)) := by
        show _ = _
        rw [strs_eq, Bool.eq_iff_iff]
        simp only [beq_iff_eq, decide_eq_true_eq]
        rw [← near32 hNr hm4.out s]
        constructor
        · intro e; exact BitVec.eq_of_toNat_eq (by omega)
        · intro e; rw [e]
      have hNxH : Hid (Nw w wr) := hNx
      clear HI hNr hOx hNx
      generalize s32 s L = S1 at *
      generalize s32 s l = S2 at *
      go_wp2_with fail
      go_region_held3 (fun w' => (convert 24 9 (.slice (some ⟨g, 0, none⟩) n1 c1)).run Try.prog w' = .ok (.string (str L)) w' ∧ (convert 24 9 (.slice a n1 cap)).run Try.prog w' = .ok (.string (str l)) w')
        (first | exact KEY.out _ (by assumption) | exact KEY.out _ (Fr.refl _ _).drew | exact KEY.out _ (Fr.refl _ _))
        (first
          | (go_at_call 9; with_reducible refine (H1.out _ ?_).mono ?_; (first | assumption | exact (Fr.refl _ _).drew | exact Fr.refl _ _ | exact (Fr.refl _ _).drewN _); rintro e w2 ⟨rfl, hN2⟩)
          | (go_at_call 9; with_reducible refine (H2.out _ ?_).mono ?_; (first | assumption | exact (Fr.refl _ _).drew | exact Fr.refl _ _ | exact (Fr.refl _ _).drewN _); rintro e w3 ⟨rfl, hN3⟩))
      all_goals go_wp2
      all_goals go_ret
      all_goals exact ⟨by rw [hEQ.out]; simp, hNxH.out.trans (by assumption)⟩
set_option maxHeartbeats 40000000 in
set_option maxRecDepth 100000 in
theorem negByte (l : List By) (a : Option Addr) (cap : Nat) (s oth : BitVec 32) (q : Nat) (hq : q < 9223372036854775808) (w : World) (hv : Old w (.slice a l.length cap) l) (hb : l.length ≤ 140737488351232) (hl0 : 0 < l.length) (hw : ¬ q % l.length / 4 * 4 + 4 ≤ l.length) :
    Calls Try.prog 6 #[.int .u32 s.toNat, .slice a l.length cap, .int .i64 (-((q : Int) + 1)), .int .u32 oth.toNat] w fun e w' => e = .returned (.bool true) ∧ Nw w w' := by
  have HL : Hid (∀ V, Nw w V → Calls Try.prog 19 #[] V fun e w' => e = .returned (.bool true) ∧ Nw w w') := fun V hV => cbase hV (lives_any V)
  obtain ⟨p, hp⟩ : ∃ p, p = q % l.length := ⟨_, rfl⟩
  have hpl : p < l.length := by rw [hp]; exact Nat.mod_lt _ hl0
  have hmod : (q : Int) % (l.length : Int) = (p : Int) := by rw [hp]; simp
  obtain ⟨y, hy⟩ : ∃ y, y = l[p]'hpl := ⟨_, rfl⟩
  have HAP : Hid (∀ V, Nw w V → ∃ g n1 c1 W1, Hid (∀ ty, (Builtin.append_ #[24, 24] ty #[.slice (some ⟨V.heap.size, 0, none⟩) 0 0, .slice a l.length cap]).run Try.prog (V.alloc (.cells #[] 5)) = .ok (.slice (some ⟨g, 0, none⟩) n1 c1) W1) ∧ n1 = l.length ∧ n1 ≤ c1 ∧ c1 < 9223372036854775808 ∧ Hid (Ow g (.slice (some ⟨g, 0, none⟩) n1 c1) l W1) ∧ Hid (Nw w W1) ∧ Hid (w.heap.size ≤ g) ∧ W1.cell? ⟨g, p, none⟩ = some (.int .u8 y.toNat) ∧ W1.frozen? ⟨g, p, none⟩ = false) := by
    intro V hV
    obtain ⟨v1, g1, W1, hap1, hO1, hF1, hg1⟩ := app_any (V.alloc (.cells #[] 5)) V.heap.size _ [] (Ow.empty V) (.slice a l.length cap) l ((hv.nw (hV.alloc _)).mono (fun _ h => h.elim)) (by simp; omega)
    rw [List.nil_append] at hO1
    obtain ⟨xs, rfl, h2, h3, h4, h5⟩ := hO1
    have hsz := hV.size
    have hOw : Ow g1 (.slice (some ⟨g1, 0, none⟩) l.length xs.length) l W1 := ⟨xs, rfl, h2, h3, h4, h5⟩
    have hat := hOw.at p hpl
    rw [← hy] at hat
    refine ⟨g1, l.length, xs.length, W1, hap1, rfl, h3, h4, hOw, Fr.then (hV.alloc _) hF1 (fun i hi => .inr (by omega)), ?_, hat.1, hat.2⟩
    show _ ≤ _
    rcases hg1 with h | h
    · omega
    · simp at h; omega
  have HB : Hid (∀ V, Nw w V → Old V (.slice a l.length cap) l) := fun V hV => Sl.later hv hV
  have hlz : ((l.length : Int) == 0) = false := by rw [beq_eq_false_iff_ne]; omega
  rw [← hp] at hw
  have hqz : (q : Int) < 9223372036854775808 := by omega
  have hlzz : ¬ (l.length : Int) = 0 := by omega
  have hlz2 : (0 : Int) < (l.length : Int) := by omega
  have hlz3 : (l.length : Int) ≤ 140737488351232 := by omega
  have hp4 : (p : Int) / 4 * 4 + 4 > (l.length : Int) := by omega
  clear hv hp hy
  generalize hn : l.length = n at *
  have hnH : Hid (l.length = n) := hn
  clear hn
  have hbH : Hid (n ≤ 140737488351232) := hb
  have hz1 : IntKind.i64.wrap (-((q : Int) + 1) + 1) = -(q : Int) := by rw [IntKind.wrap_i64]; omega
  have hz2 : IntKind.i64.wrap (-(-(q : Int))) = (q : Int) := by rw [IntKind.wrap_i64]; omega
  have hz3 : IntKind.i64.wrap (q : Int) = (q : Int) := by rw [IntKind.wrap_i64]; omega
  have hz4 : (-((q : Int) + 1) < 0) := by omega
  clear hqz hq hb
  have hp5 : (p : Int) < (n : Int) := by omega
  go_enter Try.func6, Try.ntmps6
  go_wp2_with (first
      | (go_at_call 19; with_reducible refine (HL.out _ ?_).mono ?_; (first | assumption | exact Fr.refl _ _); rintro e w1 ⟨rfl, hN1⟩; obtain ⟨g, n1, c1, W1, hap, hn1, hnc, hc1, hO, hNW, hge, c2, c3⟩ := HAP.out w1 hN1; subst hn1)
      | (at_builtin; refine Lib.wpList_append_run _ rfl _ _ 24 24 rfl (.slice (some ⟨w1.heap.size, 0, none⟩) 0 0) (.slice a _ cap) (by simp [Act.eval]) (by simp [Act.eval]) _ _ (hap.out _) ?_))
  have FIN : Hid (∀ k, ∃ L, Near p 1 l L ∧ Ow g (.slice (some ⟨g, 0, none⟩) n1 c1) L (W1.setCell ⟨g, p, none⟩ (.int .u8 (bits .xor .u8 (y.toNat : Int) k))) ∧ Nw w (W1.setCell ⟨g, p, none⟩ (.int .u8 (bits .xor .u8 (y.toNat : Int) k)))) := by
    intro k
    obtain ⟨zb, hzb⟩ := xor_byte (y.toNat : Int) k
    exact ⟨l.set p zb, (Near.refl p 1 l (by rw [hnH.out]; omega)).put 0 (by decide) zb, hO.out.put p (by rw [hnH.out]; exact hpl) zb _ hzb, hNW.out.setCell _ _ (.inr hge.out)⟩
  have hp47 : Hid (l.length / 4 * 4 ≤ p) := by show _ ≤ _; rw [hnH.out]; omega
  obtain ⟨L, hNr, hOx, hNx⟩ := FIN.out ((oth.toNat : Int) % 256)
  have HI := hNr
  clear FIN hO c2 c3 hap hNW
  generalize W1.setCell ⟨g, p, none⟩ (.int .u8 (bits .xor .u8 (y.toNat : Int) ((oth.toNat : Int) % 256))) = wr at *
  have H1 : Hid (∀ V, Nw wr V → Calls Try.prog 9 #[.int .u32 s.toNat, .slice (some ⟨g, 0, none⟩) n1 c1] V fun e w' => e = .returned (.int .u32 (s32 s L).toNat) ∧ Nw wr w') := fun V hV => cbase hV (sumf32_any s _ L V (hOx.nw hV).old)
  have H2 : Hid (∀ V, Nw wr V → Calls Try.prog 9 #[.int .u32 s.toNat, .slice a n1 cap] V fun e w' => e = .returned (.int .u32 (s32 s l).toNat) ∧ Nw wr w') := fun V hV => cbase hV (sumf32_any s _ l V (HB.out V (hNx.trans hV)))
  have KEY : Hid (∀ V, Nw wr V → (convert 24 9 (.slice (some ⟨g, 0, none⟩) n1 c1)).run Try.prog V = .ok (.string (str L)) V ∧ (convert 24 9 (.slice a n1 cap)).run Try.prog V = .ok (.string (str l)) V) := fun V hV => ⟨conv_any (hOx.nw hV).old, conv_any (HB.out V (hNx.trans hV))⟩
  have hEQ : Hid ((((s32 s L).toNat : Int) == ((s32 s l).toNat : Int)) = ((str L).toList == (str l).toList)) := by
    show _ = _
    rw [strs_eq, Bool.eq_iff_iff]
    simp only [beq_iff_eq, decide_eq_true_eq]
    rw [← near32b hNr hp47.out s]
    constructor
    · intro e; exact BitVec.eq_of_toNat_eq (by omega)
    · intro e; rw [e]
  have hNxH : Hid (Nw w wr) := hNx
  clear HI hNr hOx hNx
  generalize s32 s L = S1 at *
  generalize s32 s l = S2 at *
  go_wp2_with fail
  go_region_held3 (fun w' => (convert 24 9 (.slice (some ⟨g, 0, none⟩) n1 c1)).run Try.prog w' = .ok (.string (str L)) w' ∧ (convert 24 9 (.slice a n1 cap)).run Try.prog w' = .ok (.string (str l)) w')
    (first | exact KEY.out _ (by assumption) | exact KEY.out _ (Fr.refl _ _).drew | exact KEY.out _ (Fr.refl _ _))
    (first
      | (go_at_call 9; with_reducible refine (H1.out _ ?_).mono ?_; (first | assumption | exact (Fr.refl _ _).drew | exact Fr.refl _ _ | exact (Fr.refl _ _).drewN _); rintro e w2 ⟨rfl, hN2⟩)
      | (go_at_call 9; with_reducible refine (H2.out _ ?_).mono ?_; (first | assumption | exact (Fr.refl _ _).drew | exact Fr.refl _ _ | exact (Fr.refl _ _).drewN _); rintro e w3 ⟨rfl, hN3⟩))
  all_goals go_wp2
  all_goals go_ret
  all_goals exact ⟨by rw [hEQ.out]; simp, hNxH.out.trans (by assumption)⟩
set_option maxHeartbeats 4000000 in
theorem none (a : Option Addr) (cap : Nat) (s oth : BitVec 32) (at' : Int) (w : World) :
    Calls Try.prog 6 #[.int .u32 s.toNat, .slice a 0 cap, .int .i64 at', .int .u32 oth.toNat] w fun e w' => e = .returned (.bool true) ∧ Nw w w' := by
  have HL : Hid (∀ V, Nw w V → Calls Try.prog 19 #[] V fun e w' => e = .returned (.bool true) ∧ Nw w w') := fun V hV => cbase hV (lives_any V)
  go_enter Try.func6, Try.ntmps6
  go_wp2_with (go_at_call 19; with_reducible refine (HL.out _ ?_).mono ?_; (first | assumption | exact Fr.refl _ _); rintro e w1 ⟨rfl, hN1⟩)
  go_ret
  exact ⟨rfl, hN1⟩
theorem all (l : List By) (a : Option Addr) (cap : Nat) (s oth : BitVec 32) (at' : Int) (h1 : -9223372036854775808 ≤ at') (h2 : at' ≤ 9223372036854775807) (w : World) (hv : Old w (.slice a l.length cap) l) (hb : l.length ≤ 140737488351232) :
    Calls Try.prog 6 #[.int .u32 s.toNat, .slice a l.length cap, .int .i64 at', .int .u32 oth.toNat] w fun e w' => e = .returned (.bool true) ∧ Nw w w' := by
  by_cases hl : l.length = 0
  · rw [hl]; exact none a cap s oth at' w
  · by_cases hn : at' < 0
    · obtain ⟨q, hq⟩ : ∃ q : Nat, at' = -((q : Int) + 1) := ⟨(-(at' + 1)).toNat, by omega⟩
      subst hq
      by_cases hw : q % l.length / 4 * 4 + 4 ≤ l.length
      · exact negWord l a cap s oth q (by omega) w hv hb (by omega) hw
      · exact negByte l a cap s oth q (by omega) w hv hb (by omega) hw
    · obtain ⟨q, hq⟩ : ∃ q : Nat, at' = (q : Int) := ⟨at'.toNat, by omega⟩
      subst hq
      by_cases hw : q % l.length / 4 * 4 + 4 ≤ l.length
      · exact posWord l a cap s oth q (by omega) w hv hb (by omega) hw
      · exact posByte l a cap s oth q (by omega) w hv hb (by omega) hw
end xxhWord
end Go.Proofs.Ytlfcgldbgejfbaa

import Derived.Test.YtlfcgldbgejfbaaLoB
import Derived.Test.YtlfcgldbgejfbaaLoC
namespace Go.Proofs.Ytlfcgldbgejfbaa
namespace xxhLong
open Go.RowKit
set_option linter.unusedVariables false
set_option maxHeartbeats 40000000 in
set_option maxRecDepth 100000 in
theorem posByte (l : List By) (a : Option Addr) (cap : Nat) (s oth : BitVec 64) (q : Nat) (hq : q < 9223372036854775808) (w : World) (hv : Old w (.slice a l.length cap) l) (hb : l.length ≤ 140737488351232) (hl0 : 0 < l.length - l.length / 32 * 32) (hw : ¬ q % (l.length - l.length / 32 * 32) / 8 * 8 + 8 ≤ l.length - l.length / 32 * 32 ∧ ¬ q % (l.length - l.length / 32 * 32) / 4 * 4 + 4 ≤ l.length - l.length / 32 * 32) :
    Calls Try.prog 7 #[.int .u64 s.toNat, .slice a l.length cap, .int .i64 (q : Int), .int .u64 oth.toNat] w fun e w' => e = .returned (.bool true) ∧ Nw w w' := by
  have HL : Hid (∀ V, Nw w V → Calls Try.prog 19 #[] V fun e w' => e = .returned (.bool true) ∧ Nw w w') := fun V hV => cbase hV (lives_any V)
  obtain ⟨F, hF⟩ : ∃ F, F = l.length / 32 * 32 := ⟨_, rfl⟩
  rw [← hF] at hl0 hw
  obtain ⟨R, hR⟩ : ∃ R, R = l.length - F := ⟨_, rfl⟩
  rw [← hR] at hl0 hw
  have hFR : F + R = l.length := by omega
  have hFz : (l.length : Int) / 32 * 32 = (F : Int) := by rw [hF]; simp
  have hRz : (l.length : Int) - (F : Int) = (R : Int) := by omega
  obtain ⟨p, hp⟩ : ∃ p, p = q % R := ⟨_, rfl⟩
  have hpl : p < R := by rw [hp]; exact Nat.mod_lt _ hl0
  have hmod : (q : Int) % (R : Int) = (p : Int) := by rw [hp]; simp
  have hFpl : F + p < l.length := by omega
  obtain ⟨y, hy⟩ : ∃ y, y = l[F + p]'hFpl := ⟨_, rfl⟩
  have HAP : Hid (∀ V, Nw w V → ∃ g n1 c1 W1, Hid (∀ ty, (Builtin.append_ #[24, 24] ty #[.slice (some ⟨V.heap.size, 0, none⟩) 0 0, .slice a l.length cap]).run Try.prog (V.alloc (.cells #[] 5)) = .ok (.slice (some ⟨g, 0, none⟩) n1 c1) W1) ∧ n1 = l.length ∧ n1 ≤ c1 ∧ c1 < 9223372036854775808 ∧ Hid (Ow g (.slice (some ⟨g, 0, none⟩) n1 c1) l W1) ∧ Hid (Nw w W1) ∧ Hid (w.heap.size ≤ g) ∧ W1.cell? ⟨g, F + p, none⟩ = some (.int .u8 y.toNat) ∧ W1.frozen? ⟨g, F + p, none⟩ = false) := by
    intro V hV
    obtain ⟨v1, g1, W1, hap1, hO1, hF1, hg1⟩ := app_any (V.alloc (.cells #[] 5)) V.heap.size _ [] (Ow.empty V) (.slice a l.length cap) l ((hv.nw (hV.alloc _)).mono (fun _ h => h.elim)) (by simp; omega)
    rw [List.nil_append] at hO1
    obtain ⟨xs, rfl, h2, h3, h4, h5⟩ := hO1
    have hsz := hV.size
    have hOw : Ow g1 (.slice (some ⟨g1, 0, none⟩) l.length xs.length) l W1 := ⟨xs, rfl, h2, h3, h4, h5⟩
    have hat := hOw.at (F + p) hFpl
    rw [← hy] at hat
    refine ⟨g1, l.length, xs.length, W1, hap1, rfl, h3, h4, hOw, Fr.then (hV.alloc _) hF1 (fun i hi => .inr (by omega)), ?_, hat.1, hat.2⟩
    show _ ≤ _
    rcases hg1 with h | h
    · omega
    · simp at h; omega
  have HB : Hid (∀ V, Nw w V → Old V (.slice a l.length cap) l) := fun V hV => Sl.later hv hV
  have hlz : ((R : Int) == 0) = false := by rw [beq_eq_false_iff_ne]; omega
  rw [← hp] at hw
  have hlzz : ¬ (R : Int) = 0 := by omega
  have hlz2 : (0 : Int) < (R : Int) := by omega
  have hlz3 : (l.length : Int) ≤ 140737488351232 := by omega
  have hlz4 : (R : Int) ≤ 140737488351232 := by omega
  have hlz5 : (F : Int) ≤ 140737488351232 := by omega
  have hlz6 : (p : Int) < (R : Int) := by omega
  have hp8 : ¬ (p : Int) / 8 * 8 + 8 ≤ (R : Int) := by omega
  have hp4 : ¬ (p : Int) / 4 * 4 + 4 ≤ (R : Int) := by omega
  have hFp1 : IntKind.i64.wrap ((F : Int) + (p : Int)) = (F : Int) + (p : Int) := by rw [IntKind.wrap_i64]; omega
  have hFp2 : ((F : Int) + (p : Int)).toNat = F + p := by omega
  have hFp3 : (F : Int) + (p : Int) < (l.length : Int) := by omega
  have hFp4 : (0 : Int) ≤ (F : Int) + (p : Int) := by omega
  clear hv hp hy
  have hFH : Hid (F = l.length / 32 * 32) := hF
  clear hF hR
  generalize hn : l.length = n at *
  have hnH : Hid (l.length = n) := hn
  clear hn
  have hbH : Hid (n ≤ 140737488351232) := hb
  clear hq hb
  go_enter Try.func7, Try.ntmps7
  go_wp2_with (first
      | (go_at_call 19; with_reducible refine (HL.out _ ?_).mono ?_; (first | assumption | exact Fr.refl _ _); rintro e w1 ⟨rfl, hN1⟩; obtain ⟨g, n1, c1, W1, hap, hn1, hnc, hc1, hO, hNW, hge, c2, c3⟩ := HAP.out w1 hN1; subst hn1)
      | (at_builtin; refine Lib.wpList_append_run _ rfl _ _ 24 24 rfl (.slice (some ⟨w1.heap.size, 0, none⟩) 0 0) (.slice a _ cap) (by simp [Act.eval]) (by simp [Act.eval]) _ _ (hap.out _) ?_))
  have FIN : Hid (∀ k, ∃ L, Near (F + p) 1 l L ∧ Ow g (.slice (some ⟨g, 0, none⟩) n1 c1) L (W1.setCell ⟨g, F + p, none⟩ (.int .u8 (bits .xor .u8 (y.toNat : Int) k))) ∧ Nw w (W1.setCell ⟨g, F + p, none⟩ (.int .u8 (bits .xor .u8 (y.toNat : Int) k)))) := by
    intro k
    obtain ⟨zb, hzb⟩ := xor_byte (y.toNat : Int) k
    exact ⟨l.set (F + p) zb, (Near.refl (F + p) 1 l (by rw [hnH.out]; omega)).put 0 (by decide) zb, hO.out.put (F + p) (by rw [hnH.out]; exact hFpl) zb _ hzb, hNW.out.setCell _ _ (.inr hge.out)⟩
  have hp47 : Hid (l.length / 4 * 4 ≤ F + p) := by
    have := hFH.out
    show _ ≤ _
    rw [hnH.out] at *
    omega
  obtain ⟨L, hNr, hOx, hNx⟩ := FIN.out ((oth.toNat : Int) % 256)
  have HI := hNr
  clear FIN hO c2 c3 hap hNW
  generalize W1.setCell ⟨g, F + p, none⟩ (.int .u8 (bits .xor .u8 (y.toNat : Int) ((oth.toNat : Int) % 256))) = wr at *
  have H1 : Hid (∀ V, Nw wr V → Calls Try.prog 10 #[.int .u64 s.toNat, .slice (some ⟨g, 0, none⟩) n1 c1] V fun e w' => e = .returned (.int .u64 (s64 s L).toNat) ∧ Nw wr w') := fun V hV => cbase hV (sumf64_any s _ L V (hOx.nw hV).old)
  have H2 : Hid (∀ V, Nw wr V → Calls Try.prog 10 #[.int .u64 s.toNat, .slice a n1 cap] V fun e w' => e = .returned (.int .u64 (s64 s l).toNat) ∧ Nw wr w') := fun V hV => cbase hV (sumf64_any s _ l V (HB.out V (hNx.trans hV)))
  have KEY : Hid (∀ V, Nw wr V → (convert 24 9 (.slice (some ⟨g, 0, none⟩) n1 c1)).run Try.prog V = .ok (.string (str L)) V ∧ (convert 24 9 (.slice a n1 cap)).run Try.prog V = .ok (.string (str l)) V) := fun V hV => ⟨conv_any (hOx.nw hV).old, conv_any (HB.out V (hNx.trans hV))⟩
  have hEQ : Hid ((((s64 s L).toNat : Int) == ((s64 s l).toNat : Int)) = ((str L).toList == (str l).toList)) := by
    show _ = _
    rw [strs_eq, Bool.eq_iff_iff]
    simp only [beq_iff_eq, decide_eq_true_eq]
    rw [← near64b hNr hp47.out s]
    constructor
    · intro e; exact BitVec.eq_of_toNat_eq (by omega)
    · intro e; rw [e]
  have hNxH : Hid (Nw w wr) := hNx
  clear HI hNr hOx hNx
  generalize s64 s L = S1 at *
  generalize s64 s l = S2 at *
  go_wp2_with fail
  go_region_held3 (fun w' => (convert 24 9 (.slice (some ⟨g, 0, none⟩) n1 c1)).run Try.prog w' = .ok (.string (str L)) w' ∧ (convert 24 9 (.slice a n1 cap)).run Try.prog w' = .ok (.string (str l)) w')
    (first | exact KEY.out _ (by assumption) | exact KEY.out _ (Fr.refl _ _).drew | exact KEY.out _ (Fr.refl _ _))
    (first
      | (go_at_call 10; with_reducible refine (H1.out _ ?_).mono ?_; (first | assumption | exact (Fr.refl _ _).drew | exact Fr.refl _ _ | exact (Fr.refl _ _).drewN _); rintro e w2 ⟨rfl, hN2⟩)
      | (go_at_call 10; with_reducible refine (H2.out _ ?_).mono ?_; (first | assumption | exact (Fr.refl _ _).drew | exact Fr.refl _ _ | exact (Fr.refl _ _).drewN _); rintro e w3 ⟨rfl, hN3⟩))
  all_goals go_wp2
  all_goals go_ret
  all_goals exact ⟨by rw [hEQ.out]; simp, hNxH.out.trans (by assumption)⟩
set_option maxHeartbeats 40000000 in
set_option maxRecDepth 100000 in
theorem posNone (l : List By) (a : Option Addr) (cap : Nat) (s oth : BitVec 64) (q : Nat) (hq : q < 9223372036854775808) (w : World) (hv : Old w (.slice a l.length cap) l) (hb : l.length ≤ 140737488351232) (hl0 : 0 < l.length - l.length / 32 * 32) (hw : ¬ q % (l.length - l.length / 32 * 32) / 8 * 8 + 8 ≤ l.length - l.length / 32 * 32 ∧ q % (l.length - l.length / 32 * 32) / 4 * 4 + 4 ≤ l.length - l.length / 32 * 32) :
    Calls Try.prog 7 #[.int .u64 s.toNat, .slice a l.length cap, .int .i64 (q : Int), .int .u64 oth.toNat] w fun e w' => e = .returned (.bool true) ∧ Nw w w' := by
  have HL : Hid (∀ V, Nw w V → Calls Try.prog 19 #[] V fun e w' => e = .returned (.bool true) ∧ Nw w w') := fun V hV => cbase hV (lives_any V)
  obtain ⟨F, hF⟩ : ∃ F, F = l.length / 32 * 32 := ⟨_, rfl⟩
  rw [← hF] at hl0 hw
  obtain ⟨R, hR⟩ : ∃ R, R = l.length - F := ⟨_, rfl⟩
  rw [← hR] at hl0 hw
  have hFR : F + R = l.length := by omega
  have hFz : (l.length : Int) / 32 * 32 = (F : Int) := by rw [hF]; simp
  have hRz : (l.length : Int) - (F : Int) = (R : Int) := by omega
  obtain ⟨p, hp⟩ : ∃ p, p = q % R := ⟨_, rfl⟩
  have hpl : p < R := by rw [hp]; exact Nat.mod_lt _ hl0
  have hmod : (q : Int) % (R : Int) = (p : Int) := by rw [hp]; simp
  have hFpl : F + p < l.length := by omega
  obtain ⟨y, hy⟩ : ∃ y, y = l[F + p]'hFpl := ⟨_, rfl⟩
  have HAP : Hid (∀ V, Nw w V → ∃ g n1 c1 W1, Hid (∀ ty, (Builtin.append_ #[24, 24] ty #[.slice (some ⟨V.heap.size, 0, none⟩) 0 0, .slice a l.length cap]).run Try.prog (V.alloc (.cells #[] 5)) = .ok (.slice (some ⟨g, 0, none⟩) n1 c1) W1) ∧ n1 = l.length ∧ n1 ≤ c1 ∧ c1 < 9223372036854775808 ∧ Hid (Ow g (.slice (some ⟨g, 0, none⟩) n1 c1) l W1) ∧ Hid (Nw w W1) ∧ Hid (w.heap.size ≤ g) ∧ W1.cell? ⟨g, F + p, none⟩ = some (.int .u8 y.toNat) ∧ W1.frozen? ⟨g, F + p, none⟩ = false) := by
    intro V hV
    obtain ⟨v1, g1, W1, hap1, hO1, hF1, hg1⟩ := app_any (V.alloc (.cells #[] 5)) V.heap.size _ [] (Ow.empty V) (.slice a l.length cap) l ((hv.nw (hV.alloc _)).mono (fun _ h => h.elim)) (by simp; omega)
    rw [List.nil_append] at hO1
    obtain ⟨xs, rfl, h2, h3, h4, h5⟩ := hO1
    have hsz := hV.size
    have hOw : Ow g1 (.slice (some ⟨g1, 0, none⟩) l.length xs.length) l W1 := ⟨xs, rfl, h2, h3, h4, h5⟩
    have hat := hOw.at (F + p) hFpl
    rw [← hy] at hat
    refine ⟨g1, l.length, xs.length, W1, hap1, rfl, h3, h4, hOw, Fr.then (hV.alloc _) hF1 (fun i hi => .inr (by omega)), ?_, hat.1, hat.2⟩
    show _ ≤ _
    rcases hg1 with h | h
    · omega
    · simp at h; omega
  have HB : Hid (∀ V, Nw w V → Old V (.slice a l.length cap) l) := fun V hV => Sl.later hv hV
  have hlz : ((R : Int) == 0) = false := by rw [beq_eq_false_iff_ne]; omega
  rw [← hp] at hw
  have hlzz : ¬ (R : Int) = 0 := by omega
  have hlz2 : (0 : Int) < (R : Int) := by omega
  have hlz3 : (l.length : Int) ≤ 140737488351232 := by omega
  have hlz4 : (R : Int) ≤ 140737488351232 := by omega
  have hlz5 : (F : Int) ≤ 140737488351232 := by omega
  have hlz6 : (p : Int) < (R : Int) := by omega
  have hp8 : ¬ (p : Int) / 8 * 8 + 8 ≤ (R : Int) := by omega
  have hp4 : (p : Int) / 4 * 4 + 4 ≤ (R : Int) := by omega
  have hFp1 : IntKind.i64.wrap ((F : Int) + (p : Int)) = (F : Int) + (p : Int) := by rw [IntKind.wrap_i64]; omega
  have hFp2 : ((F : Int) + (p : Int)).toNat = F + p := by omega
  have hFp3 : (F : Int) + (p : Int) < (l.length : Int) := by omega
  have hFp4 : (0 : Int) ≤ (F : Int) + (p : Int) := by omega
  clear hv hp hy
  have hFH : Hid (F = l.length / 32 * 32) := hF
  clear hF hR
  generalize hn : l.length = n at *
  have hnH : Hid (l.length = n) := hn
  clear hn
  have hbH : Hid (n ≤ 140737488351232) := hb
  clear hq hb
  go_enter Try.func7, Try.ntmps7
  go_wp2_with (first
      | (go_at_call 19; with_reducible refine (HL.out _ ?_).mono ?_; (first | assumption | exact Fr.refl _ _); rintro e w1 ⟨rfl, hN1⟩; obtain ⟨g, n1, c1, W1, hap, hn1, hnc, hc1, hO, hNW, hge, c2, c3⟩ := HAP.out w1 hN1; subst hn1)
      | (at_builtin; refine Lib.wpList_append_run _ rfl _ _ 24 24 rfl (.slice (some ⟨w1.heap.size, 0, none⟩) 0 0) (.slice a _ cap) (by simp [Act.eval]) (by simp [Act.eval]) _ _ (hap.out _) ?_))
  obtain ⟨L, hLe⟩ : ∃ L, L = l := ⟨_, rfl⟩
  obtain ⟨wr, hwr⟩ : ∃ z, z = W1 := ⟨_, rfl⟩
  have hOx := hO.out
  have hNx := hNW.out
  have hNr : s64 s L = s64 s l ↔ L = l := by rw [hLe]; simp
  rw [← hwr] at hOx hNx ⊢
  have hOx : Ow g (.slice (some ⟨g, 0, none⟩) n1 c1) L wr := by rw [hLe]; exact hOx
  have HI := hwr
  clear hO hNW hap c2 c3 hwr
  have H1 : Hid (∀ V, Nw wr V → Calls Try.prog 10 #[.int .u64 s.toNat, .slice (some ⟨g, 0, none⟩) n1 c1] V fun e w' => e = .returned (.int .u64 (s64 s L).toNat) ∧ Nw wr w') := fun V hV => cbase hV (sumf64_any s _ L V (hOx.nw hV).old)
  have H2 : Hid (∀ V, Nw wr V → Calls Try.prog 10 #[.int .u64 s.toNat, .slice a n1 cap] V fun e w' => e = .returned (.int .u64 (s64 s l).toNat) ∧ Nw wr w') := fun V hV => cbase hV (sumf64_any s _ l V (HB.out V (hNx.trans hV)))
  have KEY : Hid (∀ V, Nw wr V → (convert 24 9 (.slice (some ⟨g, 0, none⟩) n1 c1)).run Try.prog V = .ok (.string (str L)) V ∧ (convert 24 9 (.slice a n1 cap)).run Try.prog V = .ok (.string (str l)) V) := fun V hV => ⟨conv_any (hOx.nw hV).old, conv_any (HB.out V (hNx.trans hV))⟩
  have hEQ : Hid ((((s64 s L).toNat : Int) == ((s64 s l).toNat : Int)) = ((str L).toList == (str l).toList)) := by
    show _ = _
    rw [strs_eq, Bool.eq_iff_iff]
    simp only [beq_iff_eq, decide_eq_true_eq]
    rw [← hNr]
    constructor
    · intro e; exact BitVec.eq_of_toNat_eq (by omega)
    · intro e; rw [e]
  have hNxH : Hid (Nw w wr) := hNx
  clear HI hNr hOx hNx hLe
  generalize s64 s L = S1 at *
  generalize s64 s l = S2 at *
  go_wp2_with fail
  go_region_held3 (fun w' => (convert 24 9 (.slice (some ⟨g, 0, none⟩) n1 c1)).run Try.prog w' = .ok (.string (str L)) w' ∧ (convert 24 9 (.slice a n1 cap)).run Try.prog w' = .ok (.string (str l)) w')
    (first | exact KEY.out _ (by assumption) | exact KEY.out _ (Fr.refl _ _).drew | exact KEY.out _ (Fr.refl _ _))
    (first
      | (go_at_call 10; with_reducible refine (H1.out _ ?_).mono ?_; (first | assumption | exact (Fr.refl _ _).drew | exact Fr.refl _ _ | exact (Fr.refl _ _).drewN _); rintro e w2 ⟨rfl, hN2⟩)
      | (go_at_call 10; with_reducible refine (H2.out _ ?_).mono ?_; (first | assumption | exact (Fr.refl _ _).drew | exact Fr.refl _ _ | exact (Fr.refl _ _).drewN _); rintro e w3 ⟨rfl, hN3⟩))
  all_goals go_wp2
  all_goals go_ret
  all_goals exact ⟨by rw [hEQ.out]; simp, hNxH.out.trans (by assumption)⟩
set_option maxHeartbeats 40000000 in
set_option maxRecDepth 100000 in
theorem negByte (l : List By) (a : Option Addr) (cap : Nat) (s oth : BitVec 64) (q : Nat) (hq : q < 9223372036854775808) (w : World) (hv : Old w (.slice a l.length cap) l) (hb : l.length ≤ 140737488351232) (hl0 : 0 < l.length - l.length / 32 * 32) (hw : ¬ q % (l.length - l.length / 32 * 32) / 8 * 8 + 8 ≤ l.length - l.length / 32 * 32 ∧ ¬ q % (l.length - l.length / 32 * 32) / 4 * 4 + 4 ≤ l.length - l.length / 32 * 32) :
    Calls Try.prog 7 #[.int .u64 s.toNat, .slice a l.length cap, .int .i64 (-((q : Int) + 1)), .int .u64 oth.toNat] w fun e w' => e = .returned (.bool true) ∧ Nw w w' := by
  have HL : Hid (∀ V, Nw w V → Calls Try.prog 19 #[] V fun e w' => e = .returned (.bool true) ∧ Nw w w') := fun V hV => cbase hV (lives_any V)
  obtain ⟨F, hF⟩ : ∃ F, F = l.length / 32 * 32 := ⟨_, rfl⟩
  rw [← hF] at hl0 hw
  obtain ⟨R, hR⟩ : ∃ R, R = l.length - F := ⟨_, rfl⟩
  rw [← hR] at hl0 hw
  have hFR : F + R = l.length := by omega
  have hFz : (l.length : Int) / 32 * 32 = (F : Int) := by rw [hF]; simp
  have hRz : (l.length : Int) - (F : Int) = (R : Int) := by omega
  obtain ⟨p, hp⟩ : ∃ p, p = q % R := ⟨_, rfl⟩
  have hpl : p < R := by rw [hp]; exact Nat.mod_lt _ hl0
  have hmod : (q : Int) % (R : Int) = (p : Int) := by rw [hp]; simp
  have hFpl : F + p < l.length := by omega
  obtain ⟨y, hy⟩ : ∃ y, y = l[F + p]'hFpl := ⟨_, rfl⟩
  have HAP : Hid (∀ V, Nw w V → ∃ g n1 c1 W1, Hid (∀ ty, (Builtin.append_ #[24, 24] ty #[.slice (some ⟨V.heap.size, 0, none⟩) 0 0, .slice a l.length cap]).run Try.prog (V.alloc (.cells #[] 5)) = .ok (.slice (some ⟨g, 0, none⟩) n1 c1) W1) ∧ n1 = l.length ∧ n1 ≤ c1 ∧ c1 < 9223372036854775808 ∧ Hid (Ow g (.slice (some ⟨g, 0, none⟩) n1 c1) l W1) ∧ Hid (Nw w W1) ∧ Hid (w.heap.size ≤ g) ∧ W1.cell? ⟨g, F + p, none⟩ = some (.int .u8 y.toNat) ∧ W1.frozen? ⟨g, F + p, none⟩ = false) := by
    intro V hV
    obtain ⟨v1, g1, W1, hap1, hO1, hF1, hg1⟩ := app_any (V.alloc (.cells #[] 5)) V.heap.size _ [] (Ow.empty V) (.slice a l.length cap) l ((hv.nw (hV.alloc _)).mono (fun _ h => h.elim)) (by simp; omega)
    rw [List.nil_append] at hO1
    obtain ⟨xs, rfl, h2, h3, h4, h5⟩ := hO1
    have hsz := hV.size
    have hOw : Ow g1 (.slice (some ⟨g1, 0, none⟩) l.length xs.length) l W1 := ⟨xs, rfl, h2, h3, h4, h5⟩
    have hat := hOw.at (F + p) hFpl
    rw [← hy] at hat
    refine ⟨g1, l.length, xs.length, W1, hap1, rfl, h3, h4, hOw, Fr.then (hV.alloc _) hF1 (fun i hi => .inr (by omega)), ?_, hat.1, hat.2⟩
    show _ ≤ _
    rcases hg1 with h | h
    · omega
    · simp at h; omega
  have HB : Hid (∀ V, Nw w V → Old V (.slice a l.length cap) l) := fun V hV => Sl.later hv hV
  have hlz : ((R : Int) == 0) = false := by rw [beq_eq_false_iff_ne]; omega
  rw [← hp] at hw
  have hlzz : ¬ (R : Int) = 0 := by omega
  have hlz2 : (0 : Int) < (R : Int) := by omega
  have hlz3 : (l.length : Int) ≤ 140737488351232 := by omega
  have hlz4 : (R : Int) ≤ 140737488351232 := by omega
  have hlz5 : (F : Int) ≤ 140737488351232 := by omega
  have hlz6 : (p : Int) < (R : Int) := by omega
  have hp8 : ¬ (p : Int) / 8 * 8 + 8 ≤ (R : Int) := by omega
  have hp4 : ¬ (p : Int) / 4 * 4 + 4 ≤ (R : Int) := by omega
  have hFp1 : IntKind.i64.wrap ((F : Int) + (p : Int)) = (F : Int) + (p : Int) := by rw [IntKind.wrap_i64]; omega
  have hFp2 : ((F : Int) + (p : Int)).toNat = F + p := by omega
  have hFp3 : (F : Int) + (p : Int) < (l.length : Int) := by omega
  have hFp4 : (0 : Int) ≤ (F : Int) + (p : Int) := by omega
  clear hv hp hy
  have hFH : Hid (F = l.length / 32 * 32) := hF
  clear hF hR
  generalize hn : l.length = n at *
  have hnH : Hid (l.length = n) := hn
  clear hn
  have hbH : Hid (n ≤ 140737488351232) := hb
  have hz1 : IntKind.i64.wrap (-((q : Int) + 1) + 1) = -(q : Int) := by rw [IntKind.wrap_i64]; omega
  have hz2 : IntKind.i64.wrap (-(-(q : Int))) = (q : Int) := by rw [IntKind.wrap_i64]; omega
  have hz3 : IntKind.i64.wrap (q : Int) = (q : Int) := by rw [IntKind.wrap_i64]; omega
  have hz4 : (-((q : Int) + 1) < 0) := by omega
  clear hq hb
  go_enter Try.func7, Try.ntmps7
  go_wp2_with (first
      | (go_at_call 19; with_reducible refine (HL.out _ ?_).mono ?_; (first | assumption | exact Fr.refl _ _); rintro e w1 ⟨rfl, hN1⟩; obtain ⟨g, n1, c1, W1, hap, hn1, hnc, hc1, hO, hNW, hge, c2, c3⟩ := HAP.out w1 hN1; subst hn1)
      | (at_builtin; refine Lib.wpList_append_run _ rfl _ _ 24 24 rfl (.slice (some ⟨w1.heap.size, 0, none⟩) 0 0) (.slice a _ cap) (by simp [Act.eval]) (by simp [Act.eval]) _ _ (hap.out _) ?_))
  have FIN : Hid (∀ k, ∃ L, Near (F + p) 1 l L ∧ Ow g (.slice (some ⟨g, 0, none⟩) n1 c1) L (W1.setCell ⟨g, F + p, none⟩ (.int .u8 (bits .xor .u8 (y.toNat : Int) k))) ∧ Nw w (W1.setCell ⟨g, F + p, none⟩ (.int .u8 (bits .xor .u8 (y.toNat : Int) k)))) := by
    intro k
    obtain ⟨zb, hzb⟩ := xor_byte (y.toNat : Int) k
    exact ⟨l.set (F + p) zb, (Near.refl (F + p) 1 l (by rw [hnH.out]; omega)).put 0 (by decide) zb, hO.out.put (F + p) (by rw [hnH.out]; exact hFpl) zb _ hzb, hNW.out.setCell _ _ (.inr hge.out)⟩
  have hp47 : Hid (l.length / 4 * 4 ≤ F + p) := by
    have := hFH.out
    show _ ≤ _
    rw [hnH.out] at *
    omega
  obtain ⟨L, hNr, hOx, hNx⟩ := FIN.out ((oth.toNat : Int) % 256)
  have HI := hNr
  clear FIN hO c2 c3 hap hNW
  generalize W1.setCell ⟨g, F + p, none⟩ (.int .u8 (bits .xor .u8 (y.toNat : Int) ((oth.toNat : Int) % 256))) = wr at *
  have H1 : Hid (∀ V, Nw wr V → Calls Try.prog 10 #[.int .u64 s.toNat, .slice (some ⟨g, 0, none⟩) n1 c1] V fun e w' => e = .returned (.int .u64 (s64 s L).toNat) ∧ Nw wr w') := fun V hV => cbase hV (sumf64_any s _ L V (hOx.nw hV).old)
  have H2 : Hid (∀ V, Nw wr V → Calls Try.prog 10 #[.int .u64 s.toNat, .slice a n1 cap] V fun e w' => e = .returned (.int .u64 (s64 s l).toNat) ∧ Nw wr w') := fun V hV => cbase hV (sumf64_any s _ l V (HB.out V (hNx.trans hV)))
  have KEY : Hid (∀ V, Nw wr V → (convert 24 9 (.slice (some ⟨g, 0, none⟩) n1 c1)).run Try.prog V = .ok (.string (str L)) V ∧ (convert 24 9 (.slice a n1 cap)).run Try.prog V = .ok (.string (str l)) V) := fun V hV => ⟨conv_any (hOx.nw hV).old, conv_any (HB.out V (hNx.trans hV))⟩
  have hEQ : Hid ((((s64 s L).toNat : Int) == ((s64 s l).toNat : Int)) = ((str L).toList == (str l).toList)) := by
    show _ = _
    rw [strs_eq, Bool.eq_iff_iff]
    simp only [beq_iff_eq, decide_eq_true_eq]
    rw [← near64b hNr hp47.out s]
    constructor
    · intro e; exact BitVec.eq_of_toNat_eq (by omega)
    · intro e; rw [e]
  have hNxH : Hid (Nw w wr) := hNx
  clear HI hNr hOx hNx
  generalize s64 s L = S1 at *
  generalize s64 s l = S2 at *
  go_wp2_with fail
  go_region_held3 (fun w' => (convert 24 9 (.slice (some ⟨g, 0, none⟩) n1 c1)).run Try.prog w' = .ok (.string (str L)) w' ∧ (convert 24 9 (.slice a n1 cap)).run Try.prog w' = .ok (.string (str l)) w')
    (first | exact KEY.out _ (by assumption) | exact KEY.out _ (Fr.refl _ _).drew | exact KEY.out _ (Fr.refl _ _))
    (first
      | (go_at_call 10; with_reducible refine (H1.out _ ?_).mono ?_; (first | assumption | exact (Fr.refl _ _).drew | exact Fr.refl _ _ | exact (Fr.refl _ _).drewN _); rintro e w2 ⟨rfl, hN2⟩)
      | (go_at_call 10; with_reducible refine (H2.out _ ?_).mono ?_; (first | assumption | exact (Fr.refl _ _).drew | exact Fr.refl _ _ | exact (Fr.refl _ _).drewN _); rintro e w3 ⟨rfl, hN3⟩))
  all_goals go_wp2
  all_goals go_ret
  all_goals exact ⟨by rw [hEQ.out]; simp, hNxH.out.trans (by assumption)⟩
set_option maxHeartbeats 40000000 in
set_option maxRecDepth 100000 in
theorem negNone (l : List By) (a : Option Addr) (cap : Nat) (s oth : BitVec 64) (q : Nat) (hq : q < 9223372036854775808) (w : World) (hv : Old w (.slice a l.length cap) l) (hb : l.length ≤ 140737488351232) (hl0 : 0 < l.length - l.length / 32 * 32) (hw : ¬ q % (l.length - l.length / 32 * 32) / 8 * 8 + 8 ≤ l.length - l.length / 32 * 32 ∧ q % (l.length - l.length / 32 * 32) / 4 * 4 + 4 ≤ l.length - l.length / 32 * 32) :
    Calls Try.prog 7 #[.int .u64 s.toNat, .slice a l.length cap, .int .i64 (-((q : Int) + 1)), .int .u64 oth.toNat] w fun e w' => e = .returned (.bool true) ∧ Nw w w' := by
  have HL : Hid (∀ V, Nw w V → Calls Try.prog 19 #[] V fun e w' => e = .returned (.bool true) ∧ Nw w w') := fun V hV => cbase hV (lives_any V)
  obtain ⟨F, hF⟩ : ∃ F, F = l.length / 32 * 32 := ⟨_, rfl⟩
  rw [← hF] at hl0 hw
  obtain ⟨R, hR⟩ : ∃ R, R = l.length - F := ⟨_, rfl⟩
  rw [← hR] at hl0 hw
  have hFR : F + R = l.length := by omega
  have hFz : (l.length : Int) / 32 * 32 = (F : Int) := by rw [hF]; simp
  have hRz : (l.length : Int) - (F : Int) = (R : Int) := by omega
  obtain ⟨p, hp⟩ : ∃ p, p = q % R := ⟨_, rfl⟩
  have hpl : p < R := by rw [hp]; exact Nat.mod_lt _ hl0
  have hmod : (q : Int) % (R : Int) = (p : Int) := by rw [hp]; simp
  have hFpl : F + p < l.length := by omega
  obtain ⟨y, hy⟩ : ∃ y, y = l[F + p]'hFpl := ⟨_, rfl⟩
  have HAP : Hid (∀ V, Nw w V → ∃ g n1 c1 W1, Hid (∀ ty, (Builtin.append_ #[24, 24] ty #[.slice (some ⟨V.heap.size, 0, none⟩) 0 0, .slice a l.length cap]).run Try.prog (V.alloc (.cells #[] 5)) = .ok (.slice (some ⟨g, 0, none⟩) n1 c1) W1) ∧ n1 = l.length ∧ n1 ≤ c1 ∧ c1 < 9223372036854775808 ∧ Hid (Ow g (.slice (some ⟨g, 0, none⟩) n1 c1) l W1) ∧ Hid (Nw w W1) ∧ Hid (w.heap.size ≤ g) ∧ W1.cell? ⟨g, F + p, none⟩ = some (.int .u8 y.toNat) ∧ W1.frozen? ⟨g, F + p, none⟩ = false) := by
    intro V hV
    obtain ⟨v1, g1, W1, hap1, hO1, hF1, hg1⟩ := app_any (V.alloc (.cells #[] 5)) V.heap.size _ [] (Ow.empty V) (.slice a l.length cap) l ((hv.nw (hV.alloc _)).mono (fun _ h => h.elim)) (by simp; omega)
    rw [List.nil_append] at hO1
    obtain ⟨xs, rfl, h2, h3, h4, h5⟩ := hO1
    have hsz := hV.size
    have hOw : Ow g1 (.slice (some ⟨g1, 0, none⟩) l.length xs.length) l W1 := ⟨xs, rfl, h2, h3, h4, h5⟩
    have hat := hOw.at (F + p) hFpl
    rw [← hy] at hat
    refine ⟨g1, l.length, xs.length, W1, hap1, rfl, h3, h4, hOw, Fr.then (hV.alloc _) hF1 (fun i hi => .inr (by omega)), ?_, hat.1, hat.2⟩
    show _ ≤ _
    rcases hg1 with h | h
    · omega
    · simp at h; omega
  have HB : Hid (∀ V, Nw w V → Old V (.slice a l.length cap) l) := fun V hV => Sl.later hv hV
  have hlz : ((R : Int) == 0) = false := by rw [beq_eq_false_iff_ne]; omega
  rw [← hp] at hw
  have hlzz : ¬ (R : Int) = 0 := by omega
  have hlz2 : (0 : Int) < (R : Int) := by omega
  have hlz3 : (l.length : Int) ≤ 140737488351232 := by omega
  have hlz4 : (R : Int) ≤ 140737488351232 := by omega
  have hlz5 : (F : Int) ≤ 140737488351232 := by omega
  have hlz6 : (p : Int) < (R : Int) := by omega
  have hp8 : ¬ (p : Int) / 8 * 8 + 8 ≤ (R : Int) := by omega
  have hp4 : (p : Int) / 4 * 4 + 4 ≤ (R : Int) := by omega
  have hFp1 : IntKind.i64.wrap ((F : Int) + (p : Int)) = (F : Int) + (p : Int) := by rw [IntKind.wrap_i64]; omega
  have hFp2 : ((F : Int) + (p : Int)).toNat = F + p := by omega
  have hFp3 : (F : Int) + (p : Int) < (l.length : Int) := by omega
  have hFp4 : (0 : Int) ≤ (F : Int) + (p : Int) := by omega
  clear hv hp hy
  have hFH : Hid (F = l.length / 32 * 32) := hF
  clear hF hR
  generalize hn : l.length = n at *
  have hnH : Hid (l.length = n) := hn
  clear hn
  have hbH : Hid (n ≤ 140737488351232) := hb
  have hz1 : IntKind.i64.wrap (-((q : Int) + 1) + 1) = -(q : Int) := by rw [IntKind.wrap_i64]; omega
  have hz2 : IntKind.i64.wrap (-(-(q : Int))) = (q : Int) := by rw [IntKind.wrap_i64]; omega
  have hz3 : IntKind.i64.wrap (q : Int) = (q : Int) := by rw [IntKind.wrap_i64]; omega
  have hz4 : (-((q : Int) + 1) < 0) := by omega
  clear hq hb
  go_enter Try.func7, Try.ntmps7
  go_wp2_with (first
      | (go_at_call 19; with_reducible refine (HL.out _ ?_).mono ?_; (first | assumption | exact Fr.refl _ _); rintro e w1 ⟨rfl, hN1⟩; obtain ⟨g, n1, c1, W1, hap, hn1, hnc, hc1, hO, hNW, hge, c2, c3⟩ := HAP.out w1 hN1; subst hn1)
      | (at_builtin; refine Lib.wpList_append_run _ rfl _ _ 24 24 rfl (.slice (some ⟨w1.heap.size, 0, none⟩) 0 0) (.slice a _ cap) (by simp [Act.eval]) (by simp [Act.eval]) _ _ (hap.out _) ?_))
  obtain ⟨L, hLe⟩ : ∃ L, L = l := ⟨_, rfl⟩
  obtain ⟨wr, hwr⟩ : ∃ z, z = W1 := ⟨_, rfl⟩
  have hOx := hO.out
  have hNx := hNW.out
  have hNr : s64 s L = s64 s l ↔ L = l := by rw [hLe]; simp
  rw [← hwr] at hOx hNx ⊢
  have hOx : Ow g (.slice (some ⟨g, 0, none⟩) n1 c1) L wr := by rw [hLe]; exact hOx
  have HI := hwr
  clear hO hNW hap c2 c3 hwr
  have H1 : Hid (∀ V, Nw wr V → Calls Try.prog 10 #[.int .u64 s.toNat, .slice (some ⟨g, 0, none⟩) n1 c1] V fun e w' => e = .returned (.int .u64 (s64 s L).toNat) ∧ Nw wr w') := fun V hV => cbase hV (sumf64_any s _ L V (hOx.nw hV).old)
  have H2 : Hid (∀ V, Nw wr V → Calls Try.prog 10 #[.int .u64 s.toNat, .slice a n1 cap] V fun e w' => e = .returned (.int .u64 (s64 s l).toNat) ∧ Nw wr w') := fun V hV => cbase hV (sumf64_any s _ l V (HB.out V (hNx.trans hV)))
  have KEY : Hid (∀ V, Nw wr V → (convert 24 9 (.slice (some ⟨g, 0, none⟩) n1 c1)).run Try.prog V = .ok (.string (str L)) V ∧ (convert 24 9 (.slice a n1 cap)).run Try.prog V = .ok (.string (str l)) V) := fun V hV => ⟨conv_any (hOx.nw hV).old, conv_any (HB.out V (hNx.trans hV))⟩
  have hEQ : Hid ((((s64 s L).toNat : Int) == ((s64 s l).toNat : Int)) = ((str L).toList == (str l).toList)) := by
    show _ = _
    rw [strs_eq, Bool.eq_iff_iff]
    simp only [beq_iff_eq, decide_eq_true_eq]
    rw [← hNr]
    constructor
    · intro e; exact BitVec.eq_of_toNat_eq (by omega)
    · intro e; rw [e]
  have hNxH : Hid (Nw w wr) := hNx
  clear HI hNr hOx hNx hLe
  generalize s64 s L = S1 at *
  generalize s64 s l = S2 at *
  go_wp2_with fail
  go_region_held3 (fun w' => (convert 24 9 (.slice (some ⟨g, 0, none⟩) n1 c1)).run Try.prog w' = .ok (.string (str L)) w' ∧ (convert 24 9 (.slice a n1 cap)).run Try.prog w' = .ok (.string (str l)) w')
    (first | exact KEY.out _ (by assumption) | exact KEY.out _ (Fr.refl _ _).drew | exact KEY.out _ (Fr.refl _ _))
    (first
      | (go_at_call 10; with_reducible refine (H1.out _ ?_).mono ?_; (first | assumption | exact (Fr.refl _ _).drew | exact Fr.refl _ _ | exact (Fr.refl _ _).drewN _); rintro e w2 ⟨rfl, hN2⟩)
      | (go_at_call 10; with_reducible refine (H2.out _ ?_).mono ?_; (first | assumption | exact (Fr.refl _ _).drew | exact Fr.refl _ _ | exact (Fr.refl _ _).drewN _); rintro e w3 ⟨rfl, hN3⟩))
  all_goals go_wp2
  all_goals go_ret
  all_goals exact ⟨by rw [hEQ.out]; simp, hNxH.out.trans (by assumption)⟩
set_option maxHeartbeats 4000000 in
theorem none (a : Option Addr) (n cap : Nat) (s oth : BitVec 64) (at' : Int) (w : World) (hn : n - n / 32 * 32 = 0) (hb : n ≤ 140737488351232) :
    Calls Try.prog 7 #[.int .u64 s.toNat, .slice a n cap, .int .i64 at', .int .u64 oth.toNat] w fun e w' => e = .returned (.bool true) ∧ Nw w w' := by
  have HL : Hid (∀ V, Nw w V → Calls Try.prog 19 #[] V fun e w' => e = .returned (.bool true) ∧ Nw w w') := fun V hV => cbase hV (lives_any V)
  have hz : (n : Int) / 32 * 32 = (n : Int) := by omega
  have hz2 : (n : Int) ≤ 140737488351232 := by omega
  clear hn hb
  go_enter Try.func7, Try.ntmps7
  go_wp2_with (go_at_call 19; with_reducible refine (HL.out _ ?_).mono ?_; (first | assumption | exact Fr.refl _ _); rintro e w1 ⟨rfl, hN1⟩)
  go_ret
  exact ⟨rfl, hN1⟩
theorem all (l : List By) (a : Option Addr) (cap : Nat) (s oth : BitVec 64) (at' : Int) (h1 : -9223372036854775808 ≤ at') (h2 : at' ≤ 9223372036854775807) (w : World) (hv : Old w (.slice a l.length cap) l) (hb : l.length ≤ 140737488351232) :
    Calls Try.prog 7 #[.int .u64 s.toNat, .slice a l.length cap, .int .i64 at', .int .u64 oth.toNat] w fun e w' => e = .returned (.bool true) ∧ Nw w w' := by
  by_cases hl : l.length - l.length / 32 * 32 = 0
  · exact none a l.length cap s oth at' w hl hb
  · by_cases hn : at' < 0
    · obtain ⟨q, hq⟩ : ∃ q : Nat, at' = -((q : Int) + 1) := ⟨(-(at' + 1)).toNat, by omega⟩
      subst hq
      by_cases hw : q % (l.length - l.length / 32 * 32) / 8 * 8 + 8 ≤ l.length - l.length / 32 * 32
      · exact negWord l a cap s oth q (by omega) w hv hb (by omega) hw
      · by_cases hw2 : q % (l.length - l.length / 32 * 32) / 4 * 4 + 4 ≤ l.length - l.length / 32 * 32
        · exact negNone l a cap s oth q (by omega) w hv hb (by omega) ⟨hw, hw2⟩
        · exact negByte l a cap s oth q (by omega) w hv hb (by omega) ⟨hw, hw2⟩
    · obtain ⟨q, hq⟩ : ∃ q : Nat, at' = (q : Int) := ⟨at'.toNat, by omega⟩
      subst hq
      by_cases hw : q % (l.length - l.length / 32 * 32) / 8 * 8 + 8 ≤ l.length - l.length / 32 * 32
      · exact posWord l a cap s oth q (by omega) w hv hb (by omega) hw
      · by_cases hw2 : q % (l.length - l.length / 32 * 32) / 4 * 4 + 4 ≤ l.length - l.length / 32 * 32
        · exact posNone l a cap s oth q (by omega) w hv hb (by omega) ⟨hw, hw2⟩
        · exact posByte l a cap s oth q (by omega) w hv hb (by omega) ⟨hw, hw2⟩
end xxhLong
end Go.Proofs.Ytlfcgldbgejfbaa

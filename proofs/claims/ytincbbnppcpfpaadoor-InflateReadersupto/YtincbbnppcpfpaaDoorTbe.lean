import Derived.Test.YtincbbnppcpfpaaDoorTbd
namespace Go.Proofs.YtincbbnppcpfpaaDoor
open Go.RowKit
set_option linter.unusedVariables false
variable {sb rb : Nat} {K : Nat → Prop} {rv : Value} {v : Value} {b : List By} {p : Nat} {skip left : Int} {most told : Nat} {m : Mm} {s : Sx} {w : World}
/-- A reader is put into a stream. -/
theorem SmI.opened (h : SmI sb K (.pointer none) skip left most told m s w) (rb : Nat) : SmI sb K (.pointer (some ⟨rb, 0, none⟩)) skip left most told m s (w.setCell ⟨sb, 0, none⟩ (.pointer (some ⟨rb, 0, none⟩))) ∧ Fr (fun k => k = sb) w (w.setCell ⟨sb, 0, none⟩ (.pointer (some ⟨rb, 0, none⟩))) :=
  h.set 0 (.pointer (some ⟨rb, 0, none⟩)) (.pointer (some ⟨rb, 0, none⟩)) skip left m s rfl rfl rfl rfl rfl rfl rfl h.ls h.cs h.cf h.pu h.pd
/-- A stream is closed: its plain bytes are told. -/
theorem SmI.closed (h : SmI sb K (.pointer (some ⟨rb, 0, none⟩)) skip left most told m s w) (z : Int) :
    SmI sb K (.pointer none) z left most s.out.length { m with vp := .slice none 0 0, op := none } s (((w.setCell ⟨sb, 1, none⟩ (.int .i64 z)).setCell ⟨sb, 0, none⟩ (.pointer none)).setCell ⟨sb, 6, none⟩ (.slice none 0 0)) ∧ Fr (fun k => k = sb) w (((w.setCell ⟨sb, 1, none⟩ (.int .i64 z)).setCell ⟨sb, 0, none⟩ (.pointer none)).setCell ⟨sb, 6, none⟩ (.slice none 0 0)) := by
  have hks : ∀ k, K k → ¬ k = sb := fun k hk e => h.ks (by rw [← e]; exact hk)
  have fa : Fr (fun k => k = sb) w (((w.setCell ⟨sb, 1, none⟩ (.int .i64 z)).setCell ⟨sb, 0, none⟩ (.pointer none)).setCell ⟨sb, 6, none⟩ (.slice none 0 0)) := Fr.setCell (Fr.setCell (Fr.setCell (Fr.refl (fun k => k = sb) w) ⟨sb, 1, none⟩ _ (.inl rfl)) ⟨sb, 0, none⟩ _ (.inl rfl)) ⟨sb, 6, none⟩ _ (.inl rfl)
  refine ⟨⟨row_set (row_set (row_set h.row 1 _) 0 _) 6 _, h.ks, fun k hk => Nat.lt_of_lt_of_le (h.lt k hk) fa.size, h.win.kept fa (fun g hg e => (h.nw g hg).2 e), h.wi, ⟨rfl, by simp⟩, h.nw, fun g hg => (by cases hg), h.ls, fun e => ⟨(h.cs e).1.kept fa hks, (h.cs e).2.kept fa hks⟩, fun e => ⟨(h.cf e).1.kept fa hks, (h.cf e).2.kept fa hks⟩, h.pu, h.pd, h.ol, h.ml, Nat.le_refl _⟩, fa⟩
/-- What read answers. -/
def Rdd (sb : Nat) (K : Nat → Prop) (b : List By) (most told : Nat) (p : Nat) (s : Sx) (w : World) (e : Ending) (w' : World) : Prop :=
  ∃ s' p' m' K' y a c lf, run most s (bt b p) = (s', bt b p', y) ∧ e = .returned (.tuple #[.slice a (s'.out.length - told) c, .int .i64 ((8 * b.length - p' + 7) / 8 : Nat), .int .i64 (y : Nat)]) ∧ p' ≤ 8 * b.length ∧ Bd most p' s' ∧ told ≤ s'.out.length ∧
    SmI sb K' (.pointer none) ((8 * ((8 * b.length - p' + 7) / 8) - (8 * b.length - p') : Nat) : Int) lf most s'.out.length m' s' w' ∧ m'.op = none ∧ (∃ og, Og og (.slice a (s'.out.length - told) c) (s'.out.drop told) w' ∧ ∀ g, og = some g → ¬ K' g ∧ g ≠ sb ∧ m'.ow ≠ some g) ∧ (∀ k, K k → K' k) ∧ (∀ k, K' k → K k ∨ w.heap.size ≤ k) ∧ Fr (fun k => ¬ K k) w w'
set_option maxHeartbeats 16000000 in
set_option maxRecDepth 100000 in
theorem read_any' {sk : Nat} (h : SmI sb K (.pointer none) sk left most told m s w) (hop : m.op = none) (hs : Sl (fun k => ¬ K k) v b w) (hbl : b.length ≤ 200000000000000) (hsk : sk ≤ 7) (hsk2 : sk ≤ 8 * b.length) (hb : Bd most sk s) (hT : Tab w) (h0 : K 0) :
    Calls Tryd.prog 24 #[.pointer (some ⟨sb, 0, none⟩), v] w (Rdd sb K b most told sk s w) := by
  obtain ⟨P, hP⟩ : ∃ P : Ending → World → Prop, P = Rdd sb K b most told sk s w := ⟨_, rfl⟩
  rw [← hP]
  have hlt := h.lts
  have hrk : ¬ K w.heap.size := fun hk => by have := h.lt _ hk; omega
  obtain ⟨a, c, rfl, _, _⟩ := hs.form
  -- the reader
  have HNR : Hid (Calls Tryd.prog 32 #[.slice a b.length c] w fun e w1 => e = .returned (.pointer (some ⟨w.heap.size, 0, none⟩)) ∧ w1.cell? ⟨sb, 0, none⟩ = some (.pointer none) ∧ w1.frozen? ⟨sb, 0, none⟩ = false ∧ Hid (StI sb w.heap.size K (.slice a b.length c) b 0 sk left most told m s (w1.setCell ⟨sb, 0, none⟩ (.pointer (some ⟨w.heap.size, 0, none⟩))) ∧ Fr (fun k => ¬ K k) w (w1.setCell ⟨sb, 0, none⟩ (.pointer (some ⟨w.heap.size, 0, none⟩))))) := (newReader_any w (fun k => ¬ K k) _ b hs hrk hbl).mono (fun e w1 ⟨a1, a2, a3⟩ => by
    have h1 := h.keep a3 (fun h => h) (fun _ _ h => h) (fun _ _ h => h) (fun _ _ h => h)
    obtain ⟨q1, q2⟩ := h1.opened w.heap.size
    obtain ⟨c1, c2⟩ := sc0 h1.row
    refine ⟨a1, c1, c2, ⟨q1, a2.kept q2 (fun e => by omega) (fun g hg => by rw [hg]; exact h.ks), by omega, fun e => by have := h.win.lt _ e; omega, by rw [hop]; simp, by omega⟩, a3.any.trans (q2.mono (fun i hi => .inl (by rw [hi]; exact h.ks)))⟩)
  have HTK : Hid (∀ w2, StI sb w.heap.size K (.slice a b.length c) b 0 sk left most told m s w2 → Fr (fun k => ¬ K k) w w2 → ∀ V, Nw w2 V → Calls Tryd.prog 33 #[.pointer (some ⟨w.heap.size, 0, none⟩), .int .i64 sk] V fun e w3 => (∃ x y, e = .returned (.tuple #[.int .u32 x, .int .i64 y])) ∧ Hid (StI sb w.heap.size K (.slice a b.length c) b sk sk left most told m s w3 ∧ Fr (fun k => ¬ K k) w w3)) := fun w2 h2 f2 V hV => by
    have h3 := h2.nw hV
    have hF : takeF (8 * b.length) (le b) 0 sk = (le b / 2 ^ 0 % 2 ^ sk, 0, 0 + sk) := by rw [takeF, if_neg (by omega), if_neg (by omega), Int.toNat_natCast]
    have ht := btake_any h3.rr h3.bl sk
    rw [hF, Nat.zero_add] at ht
    refine ht.mono (fun e w3 ⟨a1, a2, a3⟩ => ⟨⟨_, _, a1⟩, h3.go (h3.lt.go a2 a3 hsk2) a3, (f2.trans hV.any).trans (h3.frr a3)⟩)
  have HSS : Hid (∀ w3, StI sb w.heap.size K (.slice a b.length c) b sk sk left most told m s w3 → Fr (fun k => ¬ K k) w w3 → Calls Tryd.prog 34 #[.pointer (some ⟨sb, 0, none⟩)] w3 (Stp sb w.heap.size K b sk sk most told s w3)) := fun w3 h3 f3 => steps_any h3 hb (hT.kept f3 (fun e => e h0)) h0
  have HP : Hid (P = Rdd sb K b most told sk s w) := hP
  clear hP h hs hT h0 hb hop
  obtain ⟨rb, hrb⟩ : ∃ rb, rb = w.heap.size := ⟨_, rfl⟩
  rw [← hrb] at HNR HTK HSS
  have HLT : Hid (sb < w.heap.size) := hlt
  clear hrb hrk hlt
  generalize hLL : b.length = L at *
  have HL : Hid (b.length = L) := hLL
  clear hLL
  go_enter Tryd.func24, Tryd.ntmps24
  go_upto_region 2 with (first | (go_at_call 32; (with_reducible refine HNR.out.mono ?_); rintro e w1 ⟨rfl, x0, x1, H1⟩))
  obtain ⟨w2, hw2⟩ : ∃ w2, w1.setCell ⟨sb, 0, none⟩ (.pointer (some ⟨rb, 0, none⟩)) = w2 := ⟨_, rfl⟩
  rw [hw2] at H1 ⊢
  clear hw2 x0 x1 HNR
  obtain ⟨h2, f2⟩ := H1.out
  have d0 := (sc0 h2.sm.row).1
  have d1 := (sc1 h2.sm.row).1
  have HT2 : Hid (∀ V, Nw w2 V → Calls Tryd.prog 33 #[.pointer (some ⟨rb, 0, none⟩), .int .i64 sk] V fun e w3 => (∃ x y, e = .returned (.tuple #[.int .u32 x, .int .i64 y])) ∧ Hid (StI sb rb K (.slice a L c) b sk sk left most told m s w3 ∧ Fr (fun k => ¬ K k) w w3)) := HTK.out w2 h2 f2
  have hNN : Nw w2 w2 := Fr.refl _ _
  clear h2 f2 H1 HTK
  go_cut [10] (fun x wx => Hid (StI sb rb K (.slice a L c) b sk sk left most told m s wx ∧ Fr (fun k => ¬ K k) w wx))
  case first =>
    clear HSS HP
    go_region_with (first
      | (go_at_call 33; with_reducible refine (HT2.out _ ?_).mono ?_; (first | assumption | exact (Fr.refl _ _).drew | exact Fr.refl _ _ | exact (Fr.refl _ _).drewN _); rintro e w3 ⟨⟨x, y, rfl⟩, H3⟩))
    all_goals go_wp2_with fail
    all_goals go_meet
    all_goals exact H3
  case rest =>
  have HS2 : Hid (Calls Tryd.prog 34 #[.pointer (some ⟨sb, 0, none⟩)] wc (Stp sb rb K b sk sk most told s wc)) := HSS.out wc hcut.out.1 hcut.out.2
  clear HSS HT2 d0 d1 hNN
  go_wp2_with fail
  go_at_call 34
  with_reducible refine HS2.out.mono ?_
  unfold Stp
  rintro e w4 ⟨s', p', m', K', y, b1, rfl, b3, b4, b5, b6, b7, b8⟩
  rw [HL.out] at b3 b4
  obtain ⟨Lf, hLf⟩ : ∃ Lf, Lf = 8 * L - p' := ⟨_, rfl⟩
  obtain ⟨q, hq⟩ : ∃ q, q = (Lf + 7) / 8 := ⟨_, rfl⟩
  obtain ⟨sk', hsk'⟩ : ∃ sk', sk' = 8 * q - Lf := ⟨_, rfl⟩
  rw [← hLf] at b3
  obtain ⟨z1, z2⟩ := b3.closed (sk' : Int)
  obtain ⟨pa, pc, hvp, _, _⟩ := b3.pl.form
  have hdl : (s'.out.drop told).length = s'.out.length - told := List.length_drop
  rw [hdl] at hvp
  obtain ⟨n, hn⟩ : ∃ n, n = s'.out.length - told := ⟨_, rfl⟩
  have HF : Hid (∀ z : Int, z = (q : Int) → P (.returned (.tuple #[.slice pa n pc, .int .i64 z, .int .i64 y])) (((w4.setCell ⟨sb, 1, none⟩ (.int .i64 sk')).setCell ⟨sb, 0, none⟩ (.pointer none)).setCell ⟨sb, 6, none⟩ (.slice none 0 0))) := by
    intro z hz
    subst hz
    rw [HP.out, hn]
    have hcf := hcut.out.2
    refine ⟨s', p', { m' with vp := .slice none 0 0, op := none }, K', y, pa, pc, Lf, b1, ?_, by rw [HL.out]; exact b4, b5, b3.td, ?_, rfl, ⟨m'.op, ?_, fun g hg => b3.np g hg⟩, b6, fun k hk => ?_, (hcf.trans b8).then z2 (fun i hi => .inl (by rw [hi]; exact fun hk => b3.ks (b6 _ hk)))⟩
    · rw [HL.out, ← hLf, ← hq]
    · rw [HL.out, ← hLf, ← hq, ← hsk']
      exact z1
    · rw [← hvp]
      exact b3.pl.kept z2 (fun g hg e => (b3.np g hg).2.1 e)
    · rcases b7 k hk with e | e
      · exact .inl e
      · exact .inr (Nat.le_trans hcf.size e)
  obtain ⟨c20, c21⟩ := sc2 b3.row
  obtain ⟨c10, c11⟩ := sc1 b3.row
  have r1 := row_set b3.row 1 (.int .i64 sk')
  have e6 : (w4.setCell ⟨sb, 1, none⟩ (.int .i64 sk')).cell? ⟨sb, 6, none⟩ = some (.slice pa n pc) := by
    rw [hn, ← hvp]; exact (row_cell r1 6 _ rfl).1
  have e0 : (w4.setCell ⟨sb, 1, none⟩ (.int .i64 sk')).cell? ⟨sb, 0, none⟩ = some (.pointer (some ⟨rb, 0, none⟩)) := (row_cell r1 0 _ rfl).1
  have e0f : (w4.setCell ⟨sb, 1, none⟩ (.int .i64 sk')).frozen? ⟨sb, 0, none⟩ = false := (row_cell r1 0 (.pointer (some ⟨rb, 0, none⟩)) rfl).2
  have r2 := row_set r1 0 (.pointer none)
  have e6b : ((w4.setCell ⟨sb, 1, none⟩ (.int .i64 sk')).setCell ⟨sb, 0, none⟩ (.pointer none)).cell? ⟨sb, 6, none⟩ = some m'.vp := (row_cell r2 6 _ rfl).1
  have e6f : ((w4.setCell ⟨sb, 1, none⟩ (.int .i64 sk')).setCell ⟨sb, 0, none⟩ (.pointer none)).frozen? ⟨sb, 6, none⟩ = false := (row_cell r2 6 m'.vp rfl).2
  have y1 : ((Lf : Int) + 7) / 8 = (q : Int) := by omega
  have y2 : (8 : Int) * (q : Int) - (Lf : Int) = (sk' : Int) := by omega
  have y3 : Lf ≤ 1600000000000000 := by
    have := HL.out
    omega
  have y4 : q ≤ 200000000000000 := by omega
  have y5 : sk' ≤ 7 := by omega
  clear b1 b3 b4 b5 b6 b7 b8 z1 z2 hvp hdl hLf hq hsk' hn r1 r2 HP hcut HS2
  go_wp2_with fail
  exact HF.out _ y1
end Go.Proofs.YtincbbnppcpfpaaDoor

namespace Go.Proofs.YtincbbnppcpfpaaDoor
open Go.RowKit
set_option linter.unusedVariables false
/-- A stream's beginning. -/
def ini : Sx := ⟨0, false, 0, [], [], []⟩
def mini : Mm := ⟨.slice none 0 0, .slice none 0 0, .pointer none, .pointer none, false, false, none, none, []⟩
/-- Decode, as the document has it. -/
noncomputable def idec (b : List By) (most : Int) : List By × Nat × Nat :=
  if most < 0 ∨ 4194304 < most then ([], 0, 1) else
    if (run most.toNat ini (bt b 0)).2.2 = 0 then ((run most.toNat ini (bt b 0)).1.out, b.length - ((run most.toNat ini (bt b 0)).2.1.n + 7) / 8, 0) else ([], 0, (run most.toNat ini (bt b 0)).2.2)
/-- Decode's answer. -/
def Dcd (r : List By × Nat × Nat) (w : World) (e : Ending) (w' : World) : Prop :=
  ∃ a c, e = .returned (.tuple #[.slice a r.1.length c, .int .i64 r.2.1, .int .i64 r.2.2]) ∧ Mine (fun k => k < w.heap.size) (.slice a r.1.length c) r.1 w' ∧ Nw w w'
theorem mayBe_any (most : Int) (w : World) : Calls Tryd.prog 23 #[.int .i64 most] w fun e w' => e = .returned (.bool (decide (0 ≤ most ∧ most ≤ 4194304))) ∧ w = w' := by
  obtain ⟨P, hP⟩ : ∃ P : Ending → World → Prop, P = fun e w' => e = .returned (.bool (decide (0 ≤ most ∧ most ≤ 4194304))) ∧ w = w' := ⟨_, rfl⟩
  rw [← hP]
  by_cases h1 : 0 ≤ most
  · by_cases h2 : most ≤ 4194304
    · have HF : Hid (P (.returned (.bool true)) w) := by
        show P _ _
        rw [hP, decide_eq_true ⟨h1, h2⟩]; exact ⟨rfl, rfl⟩
      clear hP
      go_enter Tryd.func23, Tryd.ntmps23
      go_wp2
      exact HF.out
    · have HF : Hid (P (.returned (.bool false)) w) := by
        show P _ _
        rw [hP, decide_eq_false (by omega)]; exact ⟨rfl, rfl⟩
      clear hP
      go_enter Tryd.func23, Tryd.ntmps23
      go_wp2
      exact HF.out
  · have HF : Hid (P (.returned (.bool false)) w) := by
      show P _ _
      rw [hP, decide_eq_false (by omega)]; exact ⟨rfl, rfl⟩
    clear hP
    go_enter Tryd.func23, Tryd.ntmps23
    go_wp2
    exact HF.out
/-- A new stream. -/
theorem smi_new (w : World) (K : Nat → Prop) (most : Nat) (hm : most ≤ 4194304) (hK : ∀ k, K k → k < w.heap.size) : SmI w.heap.size K (.pointer none) 0 0 most 0 mini ini (w.alloc (.cells (srow (.pointer none) 0 0 most mini ini) 61)) := by
  have hN : Nw w (w.alloc (.cells (srow (.pointer none) 0 0 most mini ini) 61)) := (Fr.refl _ _).alloc _
  refine ⟨new_heap _ _, fun hk => by have := hK _ hk; omega, fun k hk => Nat.lt_of_lt_of_le (hK k hk) hN.size, ⟨rfl, rfl⟩, ⟨rfl, fun i hi => by simp [ini] at hi⟩, ⟨rfl, rfl⟩, fun g hg => (by cases hg), fun g hg => (by cases hg), fun e => absurd rfl e, fun e => (by cases e), fun e => (by cases e), ⟨_, rfl⟩, ⟨_, rfl⟩, by simp [ini], hm, by simp⟩
theorem bd_ini (most p : Nat) : Bd most p ini := ⟨by simp [ini], fun e => by simp [ini] at e⟩
set_option maxHeartbeats 16000000 in
set_option maxRecDepth 100000 in
theorem idecode_any (w : World) (vb : Value) (b : List By) (most : Int) (hb : Old w vb b) (hbl : b.length ≤ 200000000000000) (hT : Tab w) :
    Calls Tryd.prog 10 #[vb, .int .i64 most] w (Dcd (idec b most) w) := by
  obtain ⟨P, hP⟩ : ∃ P : Ending → World → Prop, P = Dcd (idec b most) w := ⟨_, rfl⟩
  rw [← hP]
  obtain ⟨a, c, rfl, hc, hc2⟩ := hb.form
  have HMB : Hid (Calls Tryd.prog 23 #[.int .i64 most] w fun e w' => e = .returned (.bool (decide (0 ≤ most ∧ most ≤ 4194304))) ∧ w = w') := mayBe_any most w
  by_cases hm : most < 0 ∨ 4194304 < most
  · have HF : Hid (P (.returned (.tuple #[.slice none 0 0, .int .i64 0, .int .i64 1])) w) := by
      show P _ _
      rw [hP, idec, if_pos hm]
      exact ⟨none, 0, rfl, .inl ⟨rfl, rfl⟩, Fr.refl _ _⟩
    rw [decide_eq_false (by omega)] at HMB
    clear hP hb
    generalize b.length = L at *
    go_enter Tryd.func10, Tryd.ntmps10
    go_wp2_with (first | (go_at_call 23; (with_reducible refine HMB.out.mono ?_); rintro e w1 ⟨rfl, rfl⟩))
    exact HF.out
  · obtain ⟨mo, rfl⟩ : ∃ mo : Nat, most = mo := ⟨most.toNat, by omega⟩
    rw [decide_eq_true (by omega)] at HMB
    obtain ⟨W1, hW1⟩ : ∃ W1, w.alloc (.cells (srow (.pointer none) 0 0 mo mini ini) 61) = W1 := ⟨_, rfl⟩
    have hN1 : Nw w W1 := by rw [← hW1]; exact (Fr.refl _ _).alloc _
    have hS1 := smi_new w (fun k => k < w.heap.size) mo (by omega) (fun _ h => h)
    rw [hW1] at hS1
    have h00 : 0 < w.heap.size := World.block_lt_of_cell? _ _ (hT 0 (by decide))
    have hRD := read_any' (sk := 0) hS1 rfl ((hb.nw hN1).mono (fun g hg => by omega)) hbl (by decide) (by omega) (bd_ini mo 0) (hT.kept hN1 (fun h => h)) h00
    have HRD : Hid (Calls Tryd.prog 24 #[.pointer (some ⟨w.heap.size, 0, none⟩), .slice a b.length c] W1 fun e w2 => ∃ pa n pc q y, e = .returned (.tuple #[.slice pa n pc, .int .i64 (q : Nat), .int .i64 (y : Nat)]) ∧ q ≤ b.length ∧ ((y ≠ 0 ∧ Hid (P (.returned (.tuple #[.slice none 0 0, .int .i64 0, .int .i64 y])) w2)) ∨ (y = 0 ∧ Hid (P (.returned (.tuple #[.slice pa n pc, .int .i64 (b.length - q : Nat), .int .i64 0])) w2)))) := hRD.mono (by
      rintro e w2 ⟨s', p', m', K', y, pa, pc, lf, r1, r2, r3, r4, r5, r6, r7, ⟨og, r8, r9⟩, r10, r11, r12⟩
      refine ⟨pa, _, pc, _, y, r2, by omega, ?_⟩
      have hNw : Nw w w2 := Fr.then hN1 r12 (fun i hi => .inr (by omega))
      have hd : idec b mo = if y = 0 then (s'.out, b.length - ((bt b p').n + 7) / 8, 0) else ([], 0, y) := by
        rw [idec, if_neg (by omega), Int.toNat_natCast, r1]
      by_cases hy : y = 0
      · refine .inr ⟨hy, ?_⟩
        show P _ _
        rw [hP, hd, if_pos hy]
        rw [Nat.sub_zero] at r8 ⊢
        rw [List.drop_zero] at r8
        refine ⟨pa, pc, by rw [bt_n]; rfl, ?_, hNw⟩
        cases og with
        | none => exact .inl r8
        | some g => exact .inr ⟨g, fun hg => (r9 g rfl).1 (r10 g hg), r8⟩
      · refine .inl ⟨hy, ?_⟩
        show P _ _
        rw [hP, hd, if_neg hy]
        exact ⟨none, 0, rfl, .inl ⟨rfl, rfl⟩, hNw⟩)
    clear hP hb hRD hS1 hN1 hT
    have hW1' : w.alloc (.cells #[.pointer none, .int .i64 0, .int .i64 0, .int .i64 mo, .int .i64 0, .slice none 0 0, .slice none 0 0, .int .i64 0, .bool false, .int .i64 0, .pointer none, .pointer none, .bool false] 61) = W1 := hW1
    clear hW1
    generalize b.length = L at *
    go_enter Tryd.func10, Tryd.ntmps10
    go_wp2_with (first | (go_at_call 23; (with_reducible refine HMB.out.mono ?_); rintro e w1 ⟨rfl, rfl⟩))
    go_at_call 24
    with_reducible refine HRD.out.mono ?_
    rintro e w2 ⟨pa, n, pc, q, y, rfl, hq, (⟨hy, HF⟩ | ⟨hy, HF⟩)⟩
    · have hz : ((y : Int) != 0) = true := by simp only [bne_iff_ne, ne_eq]; omega
      go_wp2_with fail
      exact HF.out
    · subst hy
      have hs : (L : Int) - (q : Int) = ((L - q : Nat) : Int) := by omega
      go_wp2_with fail
      exact HF.out
end Go.Proofs.YtincbbnppcpfpaaDoor

namespace Go.Proofs.YtincbbnppcpfpaaDoor
open Go.RowKit
set_option linter.unusedVariables false
/-! ### More room changes nothing that came -/
def Mo {α : Type} (f f' : Rdr α) : Prop := ∀ t, f t = .bad 32 ∨ f' t = f t
theorem Mo.refl {α : Type} (f : Rdr α) : Mo f f := fun _ => .inr rfl
theorem Mo.bind {α β : Type} {f f' : Rdr α} {g g' : α → Rdr β} (hf : Mo f f') (hg : ∀ a, Mo (g a) (g' a)) : Mo (bindR f g) (bindR f' g') := fun t => by
  rcases hf t with h | h
  · exact .inl (bindR_bad h)
  · unfold bindR
    rw [h]
    cases f t with
    | bad e => exact .inr rfl
    | ok r => exact hg r.1 r.2
theorem Mo.ite {α : Type} {c : Prop} [Decidable c] {f g f' g' : Rdr α} (hf : Mo f f') (hg : Mo g g') : Mo (if c then f else g) (if c then f' else g') := by
  by_cases h : c
  · rw [if_pos h, if_pos h]; exact hf
  · rw [if_neg h, if_neg h]; exact hg
theorem Mo.need {α : Type} {m m' l n : Nat} (h : m ≤ m') {f : Rdr α} : Mo (if m - l < n then failR 32 else f) (if m' - l < n then failR 32 else f) := by
  by_cases h1 : m - l < n
  · rw [if_pos h1]; exact fun _ => .inl rfl
  · rw [if_neg h1, if_neg (by omega)]; exact Mo.refl _
theorem Mo.step {m m' : Nat} (h : m ≤ m') (s : Sx) : Mo (stepR m s) (stepR m' s) := by
  refine .ite ?_ (.ite (Mo.refl _) (.ite ?_ (Mo.refl _)))
  · exact .bind (Mo.refl _) fun _ => .bind (Mo.refl _) fun _ => .ite (.bind (Mo.refl _) fun _ => .bind (Mo.refl _) fun _ => .bind (Mo.refl _) fun _ => .ite (Mo.refl _) (Mo.need h)) (Mo.refl _)
  · exact .bind (Mo.refl _) fun _ => .ite (Mo.need h) (.ite (Mo.refl _) (.ite (.bind (Mo.refl _) fun _ => .bind (Mo.refl _) fun _ => .ite (Mo.refl _) (Mo.need h)) (Mo.refl _)))
theorem run_room {m m' : Nat} (h : m ≤ m') (s : Sx) (t : Bt) : (run m s t).2.2 ≠ 32 → run m' s t = run m s t := by
  refine run_ind (most := m) (P := fun s t r => r.2.2 ≠ 32 → run m' s t = r) ?_ ?_ ?_ s t
  · intro s t hm _; exact run_end hm
  · intro s t e hm hs he
    rcases Mo.step h s t with h1 | h1
    · rw [hs] at h1; injection h1 with h1; exact absurd h1 he
    · exact run_bad hm (h1.trans hs)
  · intro s t s' t' hm hs ih he
    rw [run_ok hm hs] at he ⊢
    rcases Mo.step h s t with h1 | h1
    · rw [hs] at h1; cases h1
    · rw [run_ok hm (h1.trans hs)]; exact ih he
/-! ### No error is 0 -/
def Nz {α : Type} (f : Rdr α) : Prop := ∀ t e, f t = .bad e → e ≠ 0
theorem Nz.ret {α : Type} (a : α) : Nz (retR a) := fun t e h => by cases h
theorem Nz.fail {α : Type} (e : Nat) (he : e ≠ 0) : Nz (failR e : Rdr α) := fun t e' h => by injection h with h; rw [← h]; exact he
theorem Nz.bind {α β : Type} {f : Rdr α} {g : α → Rdr β} (hf : Nz f) (hg : ∀ a, Nz (g a)) : Nz (bindR f g) := fun t e h => by
  unfold bindR at h
  cases hq : f t with
  | bad e' => rw [hq] at h; injection h with h; rw [← h]; exact hf t e' hq
  | ok r => rw [hq] at h; exact hg r.1 r.2 e h
theorem Nz.ite {α : Type} {c : Prop} [Decidable c] {f g : Rdr α} (hf : Nz f) (hg : Nz g) : Nz (if c then f else g) := by
  by_cases h : c
  · rw [if_pos h]; exact hf
  · rw [if_neg h]; exact hg
theorem Nz.take (k : Nat) : Nz (takeR k) := fun t e h => by
  unfold takeR at h
  split at h
  · injection h with h; omega
  · cases h
theorem Nz.align : Nz alignR := fun t e h => by cases h
theorem Nz.sym (ls : List Nat) : Nz (symR ls) := fun t e h => by
  by_cases hx : Cod ls ∧ ∃ i, Hits ls (rev 15 t.x) i
  · obtain ⟨hk, i, hi⟩ := hx
    rw [symR_hit hk hi] at h
    split at h
    · injection h with h; omega
    · cases h
  · rw [symR_none (fun i hk hi => hx ⟨hk, i, hi⟩)] at h
    injection h with h; omega
theorem Nz.endB (s : Sx) : Nz (endB s) := .ite (.bind .align fun _ => .ret _) (.ret _)
theorem Nz.fur (y g : Nat) : Nz (furR y g) := .ite (.ret _) (.bind (.take _) fun _ => .ret _)
theorem Nz.small (i k : Nat) (l : List Nat) : Nz (smallR i k l) := by
  induction k generalizing i l with
  | zero => exact .ret _
  | succ k ih => exact .bind (.take _) fun _ => ih _ _
theorem Nz.lens (sm : List Nat) (N k : Nat) (l : List Nat) : Nz (lensR sm N k l) := by
  induction k generalizing l with
  | zero => exact .ite (.fail _ (by decide)) (.ret _)
  | succ k ih => exact .ite (.bind (.sym _) fun _ => .ite (.ite (.fail _ (by decide)) (.bind (.take _) fun _ => ih _)) (.ite (.bind (.take _) fun _ => ih _) (.ite (.bind (.take _) fun _ => ih _) (ih _)))) (.ite (.fail _ (by decide)) (.ret _))
open Classical in
theorem Nz.own : Nz ownR := .bind (.take _) fun _ => .bind (.take _) fun _ => .bind (.take _) fun _ => .ite (.fail _ (by decide)) (.bind (.small _ _ _) fun _ => .ite (.fail _ (by decide)) (.bind (.lens _ _ _ _) fun _ => .ite (.ret _) (.fail _ (by decide))))
theorem Nz.step (most : Nat) (s : Sx) : Nz (stepR most s) := by
  refine .ite ?_ (.ite ?_ (.ite ?_ (.fail _ (by decide))))
  · exact .bind (.take _) fun _ => .bind (.take _) fun _ => .ite (.bind .align fun _ => .bind (.take _) fun _ => .bind (.take _) fun _ => .ite (.fail _ (by decide)) (.ite (.fail _ (by decide)) (.ite (.endB _) (.ret _)))) (.ite (.ret _) (.ite (.bind .own fun _ => .ret _) (.fail _ (by decide))))
  · exact .bind (.take _) fun _ => .ite (.endB _) (.ret _)
  · exact .bind (.sym _) fun _ => .ite (.ite (.fail _ (by decide)) (.ret _)) (.ite (.endB _) (.ite (.bind (.ite (.ret _) (.bind (.fur _ _) fun _ => .ret _)) fun _ => .bind (.bind (.sym _) fun _ => .ite (.fail _ (by decide)) (.bind (.fur _ _) fun _ => .ret _)) fun _ => .ite (.fail _ (by decide)) (.ite (.fail _ (by decide)) (.ret _))) (.fail _ (by decide))))
/-! ### What comes out is bounded -/
structure Iv (most : Nat) (t : Bt) (s : Sx) : Prop where
  ol : s.out.length ≤ most
  st : s.md = 1 → 1 ≤ s.sto ∧ s.sto ≤ most - s.out.length
  en : s.md = 3 → t.n % 8 = 0
/-- What a step adds. -/
def Ad (most : Nat) (t : Bt) (s : Sx) (t' : Bt) (s' : Sx) : Prop := Iv most t' s' ∧ s'.out.length + 129 * t'.n ≤ s.out.length + 129 * t.n ∧ ∃ m, s'.out = s.out ++ m
theorem endB_iv {most : Nat} {s s' : Sx} {t t' : Bt} (ho : s.out.length ≤ most) (h : endB s t = .ok (s', t')) : Iv most t' s' ∧ s'.out = s.out ∧ t'.n ≤ t.n := by
  have hd := Dec.endB s t s' t' h
  unfold endB at h
  split at h
  · obtain ⟨_, t1, q1, q2⟩ := bindR_ok h
    unfold alignR at q1
    injection q1 with q1
    injection q1 with _ q1
    injection q2 with q2
    injection q2 with q2 q3
    rw [← q2, ← q3]
    refine ⟨⟨ho, fun e => by simp at e, fun _ => ?_⟩, rfl, by rw [← q1]; simp⟩
    rw [← q1]; simp only; omega
  · injection h with h
    injection h with h h2
    rw [← h, ← h2]
    exact ⟨⟨ho, fun e => by simp at e, fun e => by simp at e⟩, rfl, Nat.le_refl _⟩
theorem lenR_258 {y x : Nat} {t t' : Bt} (h1 : 257 ≤ y) (h2 : y ≤ 285) (hq : lenR y t = .ok (x, t')) : x ≤ 258 := by
  unfold lenR at hq
  split at hq
  · injection hq with hq; injection hq with hq; omega
  · rename_i hne
    obtain ⟨a, t1, q1, q2⟩ := bindR_ok hq
    injection q2 with q2
    injection q2 with q2
    unfold furR at q1
    split at q1
    · injection q1 with q1; injection q1 with q1; omega
    · obtain ⟨a2, t2, q3, q4⟩ := bindR_ok q1
      injection q4 with q4
      injection q4 with q4
      have k1 := takeR_lt q3
      obtain ⟨k, hk⟩ : ∃ k, k = (y - 257) / 4 - 1 := ⟨_, rfl⟩
      rw [← hk] at q4 k1
      have hk5 : k ≤ 5 := by omega
      have k2 : 2 ^ k ≤ 2 ^ 5 := Nat.pow_le_pow_right (by decide) hk5
      have k3 : (4 + (y - 257) % 4) * 2 ^ k ≤ 7 * 2 ^ k := Nat.mul_le_mul_right _ (by omega)
      have k4 : (2 : Nat) ^ 5 = 32 := by decide
      omega
theorem copyN_pre (d n : Nat) (out : List By) : ∃ m, copyN d n out = out ++ m := by
  induction n with
  | zero => exact ⟨[], by simp [copyN]⟩
  | succ n ih =>
    obtain ⟨m, hm⟩ := ih
    rw [copyN_succ, hm]
    exact ⟨m ++ _, by rw [List.append_assoc]⟩
theorem step_ad {most : Nat} {s s' : Sx} {t t' : Bt} (hi : Iv most t s) (h : stepR most s t = .ok (s', t')) : Ad most t s t' s' := by
  have ho := hi.ol
  unfold stepR at h
  split at h
  · rename_i h0
    have hd := Dec.head most s t s' t' h
    obtain ⟨l, t1, q1, q2⟩ := bindR_ok h
    obtain ⟨k, t2, q3, q4⟩ := bindR_ok q2
    split at q4
    · obtain ⟨_, t3, q5, q6⟩ := bindR_ok q4
      obtain ⟨n, t4, q7, q8⟩ := bindR_ok q6
      obtain ⟨m, t5, q9, q10⟩ := bindR_ok q8
      split at q10
      · cases q10
      · split at q10
        · cases q10
        · split at q10
          · obtain ⟨e1, e2, e3⟩ := endB_iv (s := { s with lst := decide (l = 1), md := 1, sto := 0 }) ho q10
            exact ⟨e1, by rw [e2]; simp only; omega, [], by rw [e2]; simp⟩
          · rename_i g1 g2 g3
            have g2' : ¬ most - s.out.length < n := g2
            injection q10 with q10
            injection q10 with q10 q11
            rw [← q10]
            exact ⟨⟨ho, fun _ => ⟨by simp only; omega, by simp only; omega⟩, fun e => by simp at e⟩, by simp only; omega, [], by simp⟩
    · split at q4
      · injection q4 with q4
        injection q4 with q4 q5
        rw [← q4]
        exact ⟨⟨ho, fun e => by simp at e, fun e => by simp at e⟩, by simp only; omega, [], by simp⟩
      · split at q4
        · obtain ⟨c, t3, q5, q6⟩ := bindR_ok q4
          injection q6 with q6
          injection q6 with q6 q7
          rw [← q6]
          exact ⟨⟨ho, fun e => by simp at e, fun e => by simp at e⟩, by simp only; omega, [], by simp⟩
        · cases q4
  · split at h
    · rename_i h1
      obtain ⟨s1, s2⟩ := hi.st h1
      obtain ⟨x, t1, q1, q2⟩ := bindR_ok h
      have hn := takeR_n q1
      split at q2
      · obtain ⟨e1, e2, e3⟩ := endB_iv (s := { s with sto := 0, out := s.out ++ [BitVec.ofNat 8 x] }) (most := most) (by simp; omega) q2
        exact ⟨e1, by rw [e2]; simp; omega, _, by rw [e2]⟩
      · injection q2 with q2
        injection q2 with q2 q3
        rw [← q2, ← q3]
        exact ⟨⟨by simp; omega, fun _ => ⟨by simp only; omega, by simp; omega⟩, fun e => by simp only at e; omega⟩, by simp; omega, _, rfl⟩
    · split at h
      · rename_i h2
        have hds := Dec.symbol most s t s' t' h
        obtain ⟨y, t1, q1, q2⟩ := bindR_ok h
        have hd1 := Dec.sym s.la t y t1 q1
        split at q2
        · split at q2
          · cases q2
          · injection q2 with q2
            injection q2 with q2 q3
            rw [← q2]
            exact ⟨⟨by simp; omega, fun e => by simp only at e; omega, fun e => by simp only at e; omega⟩, by simp; omega, _, rfl⟩
        · split at q2
          · obtain ⟨e1, e2, e3⟩ := endB_iv ho q2
            exact ⟨e1, by rw [e2]; omega, [], by rw [e2]; simp⟩
          · split at q2
            · obtain ⟨n, t2, q3, q4⟩ := bindR_ok q2
              obtain ⟨d, t3, q5, q6⟩ := bindR_ok q4
              have hd2 := Dec.len y t1 n t2 q3
              have hd3 := Dec.dist s.lb t2 d t3 q5
              have hn := lenR_258 (by omega) (by assumption) q3
              split at q6
              · cases q6
              · split at q6
                · cases q6
                · injection q6 with q6
                  injection q6 with q6 q7
                  rw [← q6, ← q7]
                  exact ⟨⟨by rw [copyN_length]; omega, fun e => by simp only at e; omega, fun e => by simp only at e; omega⟩, by rw [copyN_length]; omega, copyN_pre d n s.out⟩
            · cases q2
      · cases h
theorem run_ad {most : Nat} (s : Sx) (t : Bt) : Iv most t s → Iv most (run most s t).2.1 (run most s t).1 ∧ (run most s t).1.out.length + 129 * (run most s t).2.1.n ≤ s.out.length + 129 * t.n ∧ (run most s t).2.1.n ≤ t.n ∧ ((run most s t).2.2 = 0 → (run most s t).1.md = 3 ∧ (s.md ≠ 3 → (run most s t).2.1.n < t.n)) ∧ ∃ m, (run most s t).1.out = s.out ++ m := by
  refine run_ind (most := most) (P := fun s t r => Iv most t s → Iv most r.2.1 r.1 ∧ r.1.out.length + 129 * r.2.1.n ≤ s.out.length + 129 * t.n ∧ r.2.1.n ≤ t.n ∧ (r.2.2 = 0 → r.1.md = 3 ∧ (s.md ≠ 3 → r.2.1.n < t.n)) ∧ ∃ m, r.1.out = s.out ++ m) ?_ ?_ ?_ s t
  · intro s t hm hi
    exact ⟨hi, Nat.le_refl _, Nat.le_refl _, fun _ => ⟨hm, fun h => absurd hm h⟩, [], by simp⟩
  · intro s t e hm hs hi
    exact ⟨hi, Nat.le_refl _, Nat.le_refl _, fun h => absurd h (Nz.step most s t e hs), [], by simp⟩
  · intro s t s' t' hm hs ih hi
    obtain ⟨a1, a2, m, a3⟩ := step_ad hi hs
    have hd := Dec.step most s t s' t' hs
    rw [run_ok hm hs]
    obtain ⟨b1, b2, b3, b4, m2, b5⟩ := ih a1
    refine ⟨b1, by omega, by omega, fun h => ⟨(b4 h).1, fun _ => by omega⟩, m ++ m2, by rw [b5, a3, List.append_assoc]⟩
theorem iv_ini (most : Nat) (t : Bt) : Iv most t ini := ⟨by simp [ini], fun e => by simp [ini] at e, fun e => by simp [ini] at e⟩
end Go.Proofs.YtincbbnppcpfpaaDoor

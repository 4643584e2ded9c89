import Derived.Test.YtffhpoilifgcdaaDoorNmB
namespace Go.Proofs.YtffhpoilifgcdaaDoor
open Go.RowKit
set_option linter.unusedVariables false
/-! ### zeros, Read -/
def ZrA (w : World) (Tb : Nat) (a : Option Addr) (n c : Nat) (r : Nat × Nat) (e : Ending) (V : World) : Prop := e = .returned (.int .i64 (r.2 : Int)) ∧ Hid (Fr (fun k => k = Tb) w V ∧ (r.2 = 0 → TX Tb a n c r.1 V))
set_option maxHeartbeats 8000000 in
set_option maxRecDepth 100000 in
theorem zeros_any (w : World) (Tb : Nat) (a : Option Addr) (n c P : Nat) (b : List By) (hb : Sl (fun k => k = Tb) (.slice a n c) b w) (hn : n ≤ 140737488351232) (hP : P ≤ n) (hT : TX Tb a n c P w) :
    Calls Tryd.prog 29 #[.pointer (some ⟨Tb, 0, none⟩)] w (ZrA w Tb a n c (zrF b (padN P) P)) := by
  obtain ⟨Q, hQ⟩ : ∃ Q : Ending → World → Prop, Q = ZrA w Tb a n c (zrF b (padN P) P) := ⟨_, rfl⟩
  rw [← hQ]
  obtain ⟨hbn, k1, k2⟩ := slx_len hb
  have HFin : Hid (∀ V p (e : Nat), zrF b (padN P) P = (p, e) → Fr (fun k => k = Tb) w V → (e = 0 → TX Tb a n c p V) → Q (.returned (.int .i64 (e : Int))) V) := fun V p e h1 h2 h3 => by
    rw [hQ, h1]; exact ⟨rfl, h2, h3⟩
  have HCB : Hid (∀ V, Fr (fun k => k = Tb) w V → ∀ i (h : i < b.length), ∃ g o, a = some ⟨g, o, none⟩ ∧ V.cell? ⟨g, o + i, none⟩ = some (.int .u8 b[i].toNat)) := fun V hV i h => slx_at (hb.kept hV (fun g h => h)) i h
  have HT := tHid hT
  have HBN := tHid hbn
  clear hQ hb hT hbn
  go_enter Tryd.func29, Tryd.ntmps29
  go_upto_region 1 with fail
  go_loopg [] 512 (fun kx wr => ∃ p : Nat, p ≤ n ∧ padN p ≤ kx ∧ Hid (Fr (fun k => k = Tb) w wr ∧ TX Tb a n c p wr ∧ zrF b (padN P) P = zrF b (padN p) p))
  case atStart => exact ⟨P, hP, by have := padN_lt P; omega, Fr.refl _ _, HT.out, rfl⟩
  case round =>
    obtain ⟨p, hp, hkx, HI⟩ := hrel
    obtain ⟨hF, hTx, hZ⟩ := HI.out
    obtain ⟨t0, t1, t2⟩ := hTx.cells
    have hrem := rem512 p
    by_cases hz : p % 512 = 0
    · rw [padN_zero hz, zrF] at hZ
      rw [hz] at hrem
      have hrem2 : (p : Int) % 512 = 0 := by omega
      have HQ := tHid (HFin.out wr p 0 hZ hF (fun _ => hTx))
      clear HFin HCB HI hF hTx hZ HT
      go_wp2_with fail
      first | exact HQ.out | (go_ret; exact HQ.out)
    · have hps := padN_succ hz
      rw [hps, zrF] at hZ
      obtain ⟨R, hR⟩ : ∃ R, p % 512 = R := ⟨_, rfl⟩
      rw [hR] at hrem hz
      have hrem2 : (p : Int) % 512 = (R : Int) := by omega
      have hRz : ¬ ((R : Int) = 0) := by omega
      by_cases hpe : p = n
      · rw [if_pos (by rw [HBN.out]; omega)] at hZ
        have HQ : Hid (∀ V, Nw wr V → Q (.returned (.int .i64 4)) V) := fun V hV => HFin.out V 0 4 hZ (hF.trans hV.any) (fun h => by cases h)
        subst hpe
        clear HFin HCB HI hF hTx hZ HT hR
        go_upto_region 3 with fail
        go_quiet (fail)
        go_wp2_with fail
        first | exact HQ.out _ ((Fr.refl _ _).drewN _) | (go_ret; exact HQ.out _ ((Fr.refl _ _).drewN _))
      · rw [if_neg (by rw [HBN.out]; omega)] at hZ
        have hpb : p < b.length := by rw [HBN.out]; omega
        obtain ⟨g, o, rfl, hcell⟩ := HCB.out wr hF p hpb
        have hne : ¬ ((p : Int) = (n : Int)) := by omega
        have hneb : ((p : Int) == (n : Int)) = false := by rw [beq_eq_false_iff_ne]; exact hne
        have hpi : (p : Int) < (n : Int) := by omega
        have hnc : (n : Int) ≤ (c : Int) := by omega
        rw [List.getElem?_eq_getElem hpb] at hZ
        by_cases hx : b[p] = 0#8
        · rw [if_pos (by rw [hx])] at hZ
          rw [hx] at hcell
          simp only [BitVec.toNat_ofNat, Nat.zero_mod, Int.natCast_zero] at hcell
          obtain ⟨p1, hp1⟩ : ∃ p1, p + 1 = p1 := ⟨_, rfl⟩
          rw [hp1] at hps hZ
          have hp1i : (p : Int) + 1 = (p1 : Int) := by omega
          have HNX : Hid (∀ V, Nw wr V → Hid (Fr (fun k => k = Tb) w (V.setCell ⟨Tb, 1, none⟩ (.int .i64 (p1 : Int))) ∧ TX Tb (some ⟨g, o, none⟩) n c p1 (V.setCell ⟨Tb, 1, none⟩ (.int .i64 (p1 : Int))) ∧ zrF b (padN P) P = zrF b (padN p1) p1)) := fun V hV => by
            obtain ⟨q1, q2⟩ := (hTx.kept hV (fun h => h)).set p1
            exact ⟨(hF.trans hV.any).trans q2, q1, hZ⟩
          have hpd : padN p1 < padN p := by omega
          clear HFin HCB HI hF hTx hZ HT hR hx
          go_upto_region 3 with fail
          go_quiet (fail)
          go_upto_region 5 with fail
          go_quiet (fail)
          go_upto_region 2 with fail
          go_wp2_with fail
          go_roundg (padN p1)
          case measure => omega
          case rel => exact ⟨p1, by omega, Nat.le_refl _, HNX.out _ ((Fr.refl _ _).drewN _)⟩
        · rw [if_neg (fun h => by injection h with h; exact hx h)] at hZ
          have hxi := by_ne hx
          have hxb : (((b[p]'hpb).toNat : Int) != 0) = true := by rw [bne, beq_eq_false_iff_ne.2 hxi]; rfl
          have HQ : Hid (∀ V, Nw wr V → Q (.returned (.int .i64 3)) V) := fun V hV => HFin.out V 0 3 hZ (hF.trans hV.any) (fun h => by cases h)
          clear HFin HCB HI hF hTx hZ HT hR hx
          generalize (b[p]'hpb).toNat = y at *
          go_upto_region 3 with fail
          go_quiet (fail)
          go_upto_region 5 with fail
          go_quiet (fail)
          go_wp2_with fail
          first | exact HQ.out _ ((Fr.refl _ _).drewN _) | exact HQ.out _ (((Fr.refl _ _).drewN _).drewN _) | (go_ret; exact HQ.out _ ((Fr.refl _ _).drewN _)) | (go_ret; exact HQ.out _ (((Fr.refl _ _).drewN _).drewN _))
/-- What Read answers. -/
def RdA (w : World) (b : List By) (e : Ending) (V : World) : Prop := ∃ a' m' c', e = .returned (.tuple #[.slice a' m' c', .int .i64 ((rdT b).2.1 : Int), .int .i64 ((rdT b).2.2 : Int)]) ∧ Hid (Nw w V ∧ NewG w (.slice a' m' c') (rgL (rdT b).1) V)
theorem rsT_bound (b : List By) (h : (rsT b).2.2 = 0) : (rsT b).2.1 ≤ b.length := by
  unfold rsT at h ⊢
  simp only at h ⊢
  by_cases h1 : (nr 0 0 b).2.2 ≠ 0
  · rw [if_pos h1] at h; exact absurd h h1
  · rw [if_neg h1] at h ⊢
    by_cases h2 : 65536 < (nr 0 0 b).1
    · rw [if_pos h2] at h; cases h
    · rw [if_neg h2] at h ⊢
      have hi := num_inv b _ _ (Prod.ext rfl (Prod.ext rfl (Classical.not_not.1 h1)))
      obtain ⟨l, _, _, _, _, h5, _⟩ := rdA_inv b _ 0 _ [] _ _ hi.2.2.1 (Prod.ext rfl (Prod.ext rfl h))
      exact h5
set_option maxHeartbeats 8000000 in
set_option maxRecDepth 100000 in
theorem read_any15 (w : World) (a : Option Addr) (n c : Nat) (b : List By) (hb : Old w (.slice a n c) b) (hn : n ≤ 140737488351232) :
    Calls Tryd.prog 9 #[.slice a n c] w (RdA w b) := by
  obtain ⟨Q, hQ⟩ : ∃ Q : Ending → World → Prop, Q = RdA w b := ⟨_, rfl⟩
  rw [← hQ]
  obtain ⟨hbn, k1, k2⟩ := slx_len hb
  obtain ⟨Tb, hTb⟩ : ∃ Tb, w.heap.size = Tb := ⟨_, rfl⟩
  obtain ⟨w0, hw0⟩ : ∃ w0, w.alloc (.cells #[.slice a n c, .int .i64 0] 54) = w0 := ⟨_, rfl⟩
  have hN0 : Nw w w0 := by rw [← hw0]; exact (Fr.refl _ _).alloc _
  have hsz : w0.heap.size = Tb + 1 := by rw [← hw0, ← hTb]; simp
  have hT0 : TX Tb a n c 0 w0 := by unfold TX; rw [← hw0, ← hTb]; exact nHeap _ _
  have hb0 : Sl (fun k => k = Tb ∨ w0.heap.size ≤ k) (.slice a n c) b w0 := (hb.nw hN0).mono (fun g hg => by omega)
  have hC := rs_any w0 Tb a n c b hb0 hn hT0
  unfold RsA at hC
  have hrd := rdT_rs b
  have HBad : Hid (∀ V (e : Nat), rdT b = ([], 0, e) → Fr (fun k => k = Tb) w0 V → Q (.returned (.tuple #[.slice none 0 0, .int .i64 0, .int .i64 (e : Int)])) V) := fun V e h1 h2 => by
    rw [hQ]
    unfold RdA
    rw [h1]
    exact ⟨none, 0, 0, rfl, hN0.then h2 (fun i hi => .inr (by omega)), none, ⟨rfl, rfl⟩, fun g h => by cases h⟩
  have HOk : Hid (∀ V L p a' m' c', rdT b = (L, p, 0) → Fr (fun k => k = Tb) w0 V → NewG w0 (.slice a' m' c') (rgL L) V → Q (.returned (.tuple #[.slice a' m' c', .int .i64 (p : Int), .int .i64 0])) V) := fun V L p a' m' c' h1 h2 h3 => by
    rw [hQ]
    unfold RdA
    rw [h1]
    obtain ⟨og, q1, q2⟩ := h3
    exact ⟨a', m', c', rfl, hN0.then h2 (fun i hi => .inr (by omega)), og, q1, fun g hg => by have := q2 g hg; omega⟩
  have HZ : Hid (∀ V p, Fr (fun k => k = Tb) w0 V → TX Tb a n c p V → p ≤ n → Calls Tryd.prog 29 #[.pointer (some ⟨Tb, 0, none⟩)] V (ZrA V Tb a n c (zrF b (padN p) p))) := fun V p hV ht hp => zeros_any V Tb a n c p b ((hb0.kept hV (fun g h => .inl h)).mono (fun g h => .inl h)) hn hp ht
  have HLE : Hid ((rsT b).2.2 = 0 → (rsT b).2.1 ≤ n) := fun h => by have := rsT_bound b h; omega
  have HTB := tHid hTb
  have HW0 := tHid hw0
  have hTw0 : Hid (Tb < w0.heap.size) := by show _ < _; omega
  clear hQ hb hb0 hT0 hN0 hbn hTb hw0 hsz
  cases hrs : rsT b with
  | mk L r' =>
  obtain ⟨p, e1⟩ := r'
  rw [hrs] at hC hrd HLE
  simp only at hC hrd HLE
  have HC := tHid hC
  by_cases he1 : e1 = 0
  · subst he1
    rw [if_neg (by simp)] at hrd
    have hpn := HLE.out rfl
    cases hzr : zrF b (padN p) p with
    | mk p2 e2 =>
    rw [hzr] at hrd
    simp only at hrd
    have HZ2 : Hid (∀ V, Fr (fun k => k = Tb) w0 V → TX Tb a n c p V → Calls Tryd.prog 29 #[.pointer (some ⟨Tb, 0, none⟩)] V fun e V' => e = .returned (.int .i64 (e2 : Int)) ∧ Hid (Fr (fun k => k = Tb) V V' ∧ (e2 = 0 → TX Tb a n c p2 V'))) := fun V hV ht => by
      have := HZ.out V p hV ht hpn
      unfold ZrA at this
      rw [hzr] at this
      exact this
    by_cases he2 : e2 = 0
    · subst he2
      rw [if_neg (by simp)] at hrd
      clear HZ hC hrs hzr HBad HLE
      go_enter Tryd.func9, Tryd.ntmps9
      go_upto_region 2 with fail
      rw [HTB.out, HW0.out]
      go_upto_region 7 with (first
        | (go_at_call 28; with_reducible refine HC.out.mono ?_; rintro e w1 ⟨a', m', c', rfl, H1⟩)
        | (go_at_call 29; (with_reducible refine (HZ2.out w1 H1.out.1 H1.out.2.1).mono ?_); rintro e w2 ⟨rfl, H2⟩)
        | (go_at_call 29; (with_reducible refine (HZ2.out w1 H1.out.1 (H1.out.2 trivial).1).mono ?_); rintro e w2 ⟨rfl, H2⟩))
      have h1 := H1.out.1
      have h2 : NewG w0 (.slice a' m' c') (rgL L) w1 := by first | exact H1.out.2.2 | exact (H1.out.2 trivial).2
      have h3 := H2.out.1
      have h4 : TX Tb a n c p2 w2 := by first | exact H2.out.2 | exact H2.out.2 trivial
      obtain ⟨t0, t1, t2⟩ := h4.cells
      have hnew : NewG w0 (.slice a' m' c') (rgL L) w2 := by
        obtain ⟨og, q1, q2⟩ := h2
        exact ⟨og, q1.kept h3 (fun g hg e => by have := q2 g hg; have := hTw0.out; omega), q2⟩
      have HQ : Hid (∀ V, Nw w2 V → Q (.returned (.tuple #[.slice a' m' c', .int .i64 (p2 : Int), .int .i64 0])) V) := fun V hV => HOk.out V L p2 a' m' c' hrd ((h1.trans h3).trans hV.any) (hnew.nw hV)
      clear HOk HC HZ2 H1 H2 h1 h2 h3 h4 hnew hrd
      go_quiet (fail)
      go_wp2_with fail
      first | exact HQ.out _ ((Fr.refl _ _).drewN _) | (go_ret; exact HQ.out _ ((Fr.refl _ _).drewN _))
    · rw [if_pos he2] at hrd
      have he2i : ¬ ((e2 : Int) = 0) := by omega
      clear HZ hC hrs hzr HOk HLE
      go_enter Tryd.func9, Tryd.ntmps9
      go_upto_region 2 with fail
      rw [HTB.out, HW0.out]
      go_wp2_with (first
        | (go_at_call 28; with_reducible refine HC.out.mono ?_; rintro e w1 ⟨a', m', c', rfl, H1⟩)
        | (go_at_call 29; (with_reducible refine (HZ2.out w1 H1.out.1 H1.out.2.1).mono ?_); rintro e w2 ⟨rfl, H2⟩)
        | (go_at_call 29; (with_reducible refine (HZ2.out w1 H1.out.1 (H1.out.2 trivial).1).mono ?_); rintro e w2 ⟨rfl, H2⟩))
      first | exact HBad.out _ e2 hrd (H1.out.1.trans H2.out.1) | (go_ret; exact HBad.out _ e2 hrd (H1.out.1.trans H2.out.1))
  · rw [if_pos he1] at hrd
    have he1i : ¬ ((e1 : Int) = 0) := by omega
    clear HZ hC hrs HOk HLE
    go_enter Tryd.func9, Tryd.ntmps9
    go_upto_region 2 with fail
    rw [HTB.out, HW0.out]
    go_wp2_with (first
      | (go_at_call 28; with_reducible refine HC.out.mono ?_; rintro e w1 ⟨a', m', c', rfl, H1⟩))
    first | exact HBad.out _ e1 hrd H1.out.1 | (go_ret; exact HBad.out _ e1 hrd H1.out.1)
end Go.Proofs.YtffhpoilifgcdaaDoor

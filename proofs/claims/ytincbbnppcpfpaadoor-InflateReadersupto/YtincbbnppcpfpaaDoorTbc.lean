import Derived.Test.YtincbbnppcpfpaaDoorTbb
namespace Go.Proofs.YtincbbnppcpfpaaDoor
open Go.RowKit
set_option linter.unusedVariables false
variable {sb rb : Nat} {K : Nat → Prop} {rv : Value} {v : Value} {b : List By} {p : Nat} {skip left : Int} {most told : Nat} {m : Mm} {s : Sx} {w : World}
/-- At a head nothing hangs on whether the block ahead was the last. -/
theorem SmI.head {B : Bool} (h : SmI sb K rv skip left most told m { s with lst := B } w) (hm : s.md = 0) : SmI sb K rv skip left most told m s w :=
  ⟨h.row, h.ks, h.lt, h.win, h.wi, h.pl, h.nw, h.np, fun e => absurd hm e, fun e => by omega, h.cf, h.pu, h.pd, h.ol, h.ml, h.td⟩
theorem StI.last {B : Bool} (h : StI sb rb K v b p skip left most told m s w) (hm : s.md = 0) : StI sb rb K v b p skip left most told { m with l := B } s (w.setCell ⟨sb, 8, none⟩ (.bool B)) ∧ StI sb rb K v b p skip left most told { m with l := B } { s with lst := B } (w.setCell ⟨sb, 8, none⟩ (.bool B)) ∧ Fr (fun k => k = sb) w (w.setCell ⟨sb, 8, none⟩ (.bool B)) := by
  obtain ⟨q1, q2⟩ := h.sm.set 8 (.bool B) (.pointer (some ⟨rb, 0, none⟩)) skip left { m with l := B } s rfl rfl rfl rfl rfl rfl rfl (fun e => absurd hm e) h.sm.cs h.sm.cf h.sm.pu h.sm.pd
  obtain ⟨q3, q4⟩ := h.sm.set 8 (.bool B) (.pointer (some ⟨rb, 0, none⟩)) skip left { m with l := B } { s with lst := B } rfl rfl rfl rfl rfl rfl rfl (fun e => absurd hm e) (fun e => absurd e (by simp only; omega)) h.sm.cf h.sm.pu h.sm.pd
  exact ⟨h.sm' q1 q2 rfl rfl, h.sm' q3 q4 rfl rfl, q2⟩
set_option maxHeartbeats 16000000 in
set_option maxRecDepth 100000 in
theorem head_any (h : StI sb rb K v b p skip left most told m s w) (hm : s.md = 0) (hT : Tab w) (h0 : K 0) :
    Calls Tryd.prog 53 #[.pointer (some ⟨sb, 0, none⟩)] w (Ps sb rb K v b skip left most told m s w (headR most s (bt b p))) := by
  obtain ⟨P, hP⟩ : ∃ P : Ending → World → Prop, P = Ps sb rb K v b skip left most told m s w (headR most s (bt b p)) := ⟨_, rfl⟩
  rw [← hP]
  have BAD : Hid (∀ y W l', headR most s (bt b p) = .bad y → SmI sb K (.pointer (some ⟨rb, 0, none⟩)) skip left most told { m with l := l' } s W → Fr (fun k => ¬ K k) w W → P (gv y) W) := fun y W l' h1 h2 h3 => by
    rw [hP]
    exact .inl ⟨y, h1, rfl, ⟨l', h2⟩, h3⟩
  have OK : Hid (∀ s' p' m' K' r W, headR most s (bt b p) = .ok (s', bt b p') → StI sb rb K' v b p' skip left most told m' s' W → (∀ k, K k → K' k) → (∀ k, K' k → K k ∨ w.heap.size ≤ k) → Fr (fun k => ¬ K k) w W → P (.returned r) W) := fun s' p' m' K' r W h1 h2 h3 h4 h5 => by
    rw [hP]
    exact .inr ⟨s', p', m', K', r, h1, rfl, h2, h3, h4, h5⟩
  have H : Hid (Tab w ∧ K 0 ∧ ¬ K rb) := ⟨hT, h0, h.kr⟩
  have HN0 : Hid (Calls Tryd.prog 60 #[.pointer (some ⟨sb, 0, none⟩), .int .i64 1] w (Rsn sb rb K v b skip left most told m s w (takeR 1 (bt b p)))) := num_st h 1 (by decide) 1 rfl
  have HG : Hid (∀ V, Calls Tryd.prog 64 #[.int .i64 60] V fun e w' => e = gv 60 ∧ V = w') := fun V => (giveUp_any 60 V).mono (fun e w' ⟨a1, a2⟩ => ⟨a1, a2.symm⟩)
  have HPP : Hid (P = Ps sb rb K v b skip left most told m s w (headR most s (bt b p))) := hP
  clear hP h hT h0
  go_enter Tryd.func53, Tryd.ntmps53
  go_wp2_with fail
  go_at_call 60
  with_reducible refine HN0.out.mono ?_
  unfold Rsn
  rintro e w0 (⟨y, rfl, H1⟩ | ⟨x, rfl, H1⟩)
  · exact ⟨rfl, BAD.out y w0 m.l (bindR_bad H1.out.1) H1.out.2.1 H1.out.2.2⟩
  obtain ⟨p0, q1, q2, q3⟩ := H1.out
  obtain ⟨B, hB⟩ : ∃ B, B = decide (x = 1) := ⟨_, rfl⟩
  have hBz : ((x : Int) == 1) = B := by
    rw [hB]
    by_cases e : x = 1
    · simp [e]
    · rw [decide_eq_false e]
      simp only [beq_eq_false_iff_ne, ne_eq]; omega
  obtain ⟨a1, a2, a3⟩ := q2.last (B := B) hm
  obtain ⟨c80, c81⟩ := sc8 q2.sm.row
  obtain ⟨w1, hw1⟩ : ∃ w1, w0.setCell ⟨sb, 8, none⟩ (.bool B) = w1 := ⟨_, rfl⟩
  rw [hw1] at a1 a2 a3
  have F1 : Hid (Fr (fun k => ¬ K k) w w1) := q3.trans (q2.frs a3)
  have TB : Hid (Tab w1) := H.out.1.kept F1.out (fun e => e H.out.2.1)
  have H2 : Hid (StI sb rb K v b p0 skip left most told { m with l := B } s w1 ∧ StI sb rb K v b p0 skip left most told { m with l := B } { s with lst := B } w1) := ⟨a1, a2⟩
  have HM : Hid (headR most s (bt b p) = (bindR (takeR 2) fun k =>
    if k = 0 then storedR most { s with lst := B }
    else if k = 1 then retR { s with lst := B, md := 2, la := fixA, lb := fixB }
    else if k = 2 then bindR ownR fun c => retR { s with lst := B, md := 2, la := c.1, lb := c.2 }
    else failR 60) (bt b p0)) := by
    show _ = _
    rw [hB]
    exact bindR_eq q1
  have HN1 : Hid (Calls Tryd.prog 60 #[.pointer (some ⟨sb, 0, none⟩), .int .i64 2] w1 (Rsn sb rb K v b skip left most told { m with l := B } s w1 (takeR 2 (bt b p0)))) := num_st a1 2 (by decide) 2 rfl
  clear q1 q2 q3 a1 a2 a3 HN0 H1 hB
  go_wp2_with fail
  go_at_call 60
  with_reducible refine HN1.out.mono ?_
  unfold Rsn
  rintro e w2 (⟨y, rfl, H3⟩ | ⟨k, rfl, H3⟩)
  · exact ⟨rfl, BAD.out y w2 B (by rw [HM.out]; exact bindR_bad H3.out.1) H3.out.2.1 (F1.out.trans H3.out.2.2)⟩
  have hk4 : k < 4 := by
    obtain ⟨p1, q1, _⟩ := H3.out
    exact takeR_lt q1
  obtain ⟨p1, hp1⟩ : ∃ p1, Hid (headR most s (bt b p) = (
    if k = 0 then storedR most { s with lst := B }
    else if k = 1 then retR { s with lst := B, md := 2, la := fixA, lb := fixB }
    else if k = 2 then bindR ownR fun c => retR { s with lst := B, md := 2, la := c.1, lb := c.2 }
    else failR 60) (bt b p1) ∧ StI sb rb K v b p1 skip left most told { m with l := B } s w2 ∧ StI sb rb K v b p1 skip left most told { m with l := B } { s with lst := B } w2 ∧ Fr (fun k => ¬ K k) w w2) := by
    obtain ⟨p1, q1, q2, q3⟩ := H3.out
    refine ⟨p1, by rw [HM.out]; exact bindR_eq q1, q2, ?_, F1.out.trans q3⟩
    obtain ⟨b1, b2⟩ := H2.out
    have hm2 := q2.sm
    exact ⟨⟨hm2.row, hm2.ks, hm2.lt, hm2.win, hm2.wi, hm2.pl, hm2.nw, hm2.np, fun e => absurd hm e, fun e => absurd e (by simp only; omega), hm2.cf, hm2.pu, hm2.pd, hm2.ol, hm2.ml, hm2.td⟩, q2.rr, q2.re, q2.rw, q2.rp, q2.bl⟩
  have TB2 : Hid (Tab w2) := H.out.1.kept hp1.out.2.2.2 (fun e => e H.out.2.1)
  clear H3 HN1 HM H2 TB F1
  rcases (show k = 0 ∨ k = 1 ∨ k = 2 ∨ k = 3 by omega) with rfl | rfl | rfl | rfl
  · have HC : Hid (Calls Tryd.prog 61 #[.pointer (some ⟨sb, 0, none⟩)] w2 fun e W => (∃ y, e = gv y ∧ Hid (P (gv y) W)) ∨ (∃ r, e = .returned r ∧ Hid (∀ r, P (.returned r) W))) := (storedHead_any hp1.out.2.2.1 rfl).mono (fun e W hh => by
      have hM : headR most s (bt b p) = storedR most { s with lst := B } (bt b p1) := by rw [hp1.out.1, if_pos rfl]
      rcases hh with ⟨y, a1, a2, ⟨l', a3⟩, a4⟩ | ⟨s', p', m', K', x, a1, a2, a3, a4, a5, a6⟩
      · exact .inl ⟨y, a2, BAD.out y W l' (by rw [hM]; exact a1) (a3.head hm) (hp1.out.2.2.2.trans a4)⟩
      · refine .inr ⟨x, a2, fun r => OK.out s' p' m' K' r W (by rw [hM]; exact a1) a3 a4 (fun k hk => ?_) (hp1.out.2.2.2.trans a6)⟩
        rcases a5 k hk with e | e
        · exact .inl e
        · exact .inr (Nat.le_trans hp1.out.2.2.2.size e))
    clear BAD OK hp1 TB2 HPP H
    go_wp2_with fail
    go_at_call 61
    with_reducible refine HC.out.mono ?_
    rintro e w3 (⟨z, rfl, HF⟩ | ⟨r, rfl, HF⟩)
    · exact ⟨rfl, HF.out⟩
    · go_wp2_with fail
      go_end0
      exact HF.out _
  · have HC : Hid (Calls Tryd.prog 62 #[.pointer (some ⟨sb, 0, none⟩)] w2 fun e W => (∃ r, e = .returned r) ∧ Hid (∀ r, P (.returned r) W)) := (fixedCodes_any hp1.out.2.2.1 rfl).mono (fun e W ⟨a1, ⟨m', K', a2, a3, a4⟩, a5⟩ => by
      have hM : headR most s (bt b p) = .ok ({ s with lst := B, md := 2, la := fixA, lb := fixB }, bt b p1) := by rw [hp1.out.1, if_neg (by decide), if_pos rfl]; rfl
      refine ⟨a1, fun r => OK.out _ p1 m' K' r W hM a2 a3 (fun k hk => ?_) (hp1.out.2.2.2.trans a5)⟩
      rcases a4 k hk with e | e
      · exact .inl e
      · exact .inr (Nat.le_trans hp1.out.2.2.2.size e))
    clear BAD OK hp1 TB2 HPP H
    go_wp2_with (first | (go_at_call 62; (with_reducible refine HC.out.mono ?_); rintro e w3 ⟨⟨r, rfl⟩, HF⟩))
    go_end0
    exact HF.out _
  · have HC : Hid (Calls Tryd.prog 63 #[.pointer (some ⟨sb, 0, none⟩)] w2 fun e W => (∃ y, e = gv y ∧ Hid (P (gv y) W)) ∨ (∃ r, e = .returned r ∧ Hid (∀ r, P (.returned r) W))) := (ownCodes_any hp1.out.2.2.1 rfl TB2.out (fun e => H.out.2.2 (by rw [e]; exact H.out.2.1))).mono (fun e W hh => by
      have hM : headR most s (bt b p) = (bindR ownR fun c => retR { s with lst := B, md := 2, la := c.1, lb := c.2 }) (bt b p1) := by rw [hp1.out.1, if_neg (by decide), if_neg (by decide), if_pos rfl]
      rcases hh with ⟨y, a1, a2, a3, a4⟩ | ⟨la, lb, p', m', K', x, a1, a2, a3, a4, a5, a6⟩
      · exact .inl ⟨y, a2, BAD.out y W B (by rw [hM]; exact bindR_bad a1) (a3.head hm) (hp1.out.2.2.2.trans a4)⟩
      · refine .inr ⟨x, a2, fun r => OK.out _ p' m' K' r W (by rw [hM, bindR_eq a1]; rfl) a3 a4 (fun k hk => ?_) (hp1.out.2.2.2.trans a6)⟩
        rcases a5 k hk with e | e
        · exact .inl e
        · exact .inr (Nat.le_trans hp1.out.2.2.2.size e))
    clear BAD OK hp1 TB2 HPP H
    go_wp2_with fail
    go_at_call 63
    with_reducible refine HC.out.mono ?_
    rintro e w3 (⟨z, rfl, HF⟩ | ⟨r, rfl, HF⟩)
    · exact ⟨rfl, HF.out⟩
    · go_wp2_with fail
      go_end0
      exact HF.out _
  · have HF : Hid (P (gv 60) w2) := BAD.out 60 w2 B (by rw [hp1.out.1, if_neg (by decide), if_neg (by decide), if_neg (by decide)]; rfl) hp1.out.2.1.sm hp1.out.2.2.2
    clear BAD OK hp1 TB2 HPP H
    go_wp2_with (first | (go_at_call 64; (with_reducible refine (HG.out _).mono ?_); rintro e w4 ⟨rfl, rfl⟩))
    exact ⟨rfl, HF.out⟩
end Go.Proofs.YtincbbnppcpfpaaDoor

namespace Go.Proofs.YtincbbnppcpfpaaDoor
open Go.RowKit
set_option linter.unusedVariables false
variable {sb rb : Nat} {K : Nat → Prop} {rv : Value} {v : Value} {b : List By} {p : Nat} {skip left : Int} {most told : Nat} {m : Mm} {s : Sx} {w : World}
/-- Where the stream may stand, by its bits. -/
def Bn (most : Nat) (t : Bt) (s : Sx) : Prop := s.md ≤ 3 ∧ (s.md = 1 → 1 ≤ s.sto ∧ s.sto ≤ most - s.out.length ∧ s.sto ≤ 65535 ∧ t.n % 8 = 0)
theorem endB_bn {most : Nat} {s s' : Sx} {t t' : Bt} (h : endB s t = .ok (s', t')) : (s'.md = 0 ∨ s'.md = 3) ∧ s'.out = s.out := by
  unfold endB at h
  split at h
  · obtain ⟨_, t1, _, q2⟩ := bindR_ok h
    injection q2 with q2
    injection q2 with q2
    rw [← q2]; exact ⟨.inr rfl, rfl⟩
  · injection h with h
    injection h with h
    rw [← h]; exact ⟨.inl rfl, rfl⟩
theorem takeR_n {k x : Nat} {t t' : Bt} (h : takeR k t = .ok (x, t')) : t'.n = t.n - k ∧ k ≤ t.n := by
  unfold takeR at h
  split at h
  · cases h
  · injection h with h
    injection h with _ h
    rw [← h]; exact ⟨rfl, by omega⟩
theorem storedR_bn {most : Nat} {s s' : Sx} {t t' : Bt} (h : storedR most s t = .ok (s', t')) : Bn most t' s' := by
  obtain ⟨_, t1, q1, q2⟩ := bindR_ok h
  obtain ⟨n, t2, q3, q4⟩ := bindR_ok q2
  obtain ⟨k, t3, q5, q6⟩ := bindR_ok q4
  have e1 : t1.n % 8 = 0 := by
    unfold alignR at q1
    injection q1 with q1
    injection q1 with _ q1
    rw [← q1]; simp only; omega
  have e2 := takeR_n q3
  have e3 := takeR_n q5
  have hn := takeR_lt q3
  have hn' : n < 65536 := hn
  split at q6
  · cases q6
  · split at q6
    · cases q6
    · split at q6
      · have := (endB_bn (most := most) q6).1
        exact ⟨by omega, fun e => by omega⟩
      · injection q6 with q6
        injection q6 with q6 q7
        rw [← q6, ← q7]
        exact ⟨by simp, fun _ => ⟨by simp only; omega, by simp only; omega, by simp only; omega, by omega⟩⟩
theorem stepR_bn {most : Nat} {s s' : Sx} {t t' : Bt} (hm : s.md ≠ 1) (h : stepR most s t = .ok (s', t')) : Bn most t' s' := by
  unfold stepR at h
  split at h
  · obtain ⟨l, t1, q1, q2⟩ := bindR_ok h
    obtain ⟨k, t2, q3, q4⟩ := bindR_ok q2
    split at q4
    · exact storedR_bn q4
    · split at q4
      · injection q4 with q4
        injection q4 with q4
        rw [← q4]; exact ⟨by simp, fun e => by simp at e⟩
      · split at q4
        · obtain ⟨c, t3, q5, q6⟩ := bindR_ok q4
          injection q6 with q6
          injection q6 with q6
          rw [← q6]; exact ⟨by simp, fun e => by simp at e⟩
        · cases q4
  · try rw [if_neg hm] at h
    split at h
    · rename_i h2
      obtain ⟨y, t1, q1, q2⟩ := bindR_ok h
      split at q2
      · split at q2
        · cases q2
        · injection q2 with q2
          injection q2 with q2
          rw [← q2]; exact ⟨by simp only; omega, fun e => by simp only at e; omega⟩
      · split at q2
        · have := (endB_bn (most := most) q2).1
          exact ⟨by omega, fun e => by omega⟩
        · split at q2
          · obtain ⟨n, t2, q3, q4⟩ := bindR_ok q2
            obtain ⟨d, t3, q5, q6⟩ := bindR_ok q4
            split at q6
            · cases q6
            · split at q6
              · cases q6
              · injection q6 with q6
                injection q6 with q6
                rw [← q6]; exact ⟨by simp only; omega, fun e => by simp only at e; omega⟩
          · cases q2
    · cases h
/-- From one step of the document's. -/
theorem Ps.pst {e : Ending} {w' : World} (hm : s.md ≠ 1) (hm3 : s.md ≠ 3) (h : Ps sb rb K v b skip left most told m s w (stepR most s (bt b p)) e w') (hp : p ≤ 8 * b.length) : Pst sb rb K v b p skip left most told m s w e w' := by
  rcases h with ⟨y, a1, a2, a3, a4⟩ | ⟨s', p', m', K', x, a1, a2, a3, a4, a5, a6⟩
  · exact .inl ⟨y, a1, a2, a3, a4⟩
  · have hd := Dec.step most s _ _ _ a1
    rw [bt_n, bt_n] at hd
    have hb := a3.bl
    obtain ⟨b1, b2⟩ := stepR_bn hm a1
    refine .inr ⟨s', p', m', K', x, run_ok hm3 a1, by omega, ⟨b1, fun e => ?_⟩, a2, a3, a4, a5, a6⟩
    obtain ⟨c1, c2, c3, c4⟩ := b2 e
    rw [bt_n] at c4
    exact ⟨c1, c2, c3, by omega⟩
set_option maxHeartbeats 16000000 in
set_option maxRecDepth 100000 in
theorem step_any (h : StI sb rb K v b p skip left most told m s w) (hb : Bd most p s) (hm : s.md ≠ 3) (hT : Tab w) (h0 : K 0) :
    Calls Tryd.prog 46 #[.pointer (some ⟨sb, 0, none⟩)] w fun e W => (∃ y, e = gv y ∧ Hid (Pst sb rb K v b p skip left most told m s w (gv y) W)) ∨ (∃ r, e = .returned r ∧ Hid (∀ r, Pst sb rb K v b p skip left most told m s w (.returned r) W)) := by
  obtain ⟨P, hP⟩ : ∃ P : Ending → World → Prop, P = fun e W => (∃ y, e = gv y ∧ Hid (Pst sb rb K v b p skip left most told m s w (gv y) W)) ∨ (∃ r, e = .returned r ∧ Hid (∀ r, Pst sb rb K v b p skip left most told m s w (.returned r) W)) := ⟨_, rfl⟩
  rw [← hP]
  have PP : ∀ {f : FuncId}, Calls Tryd.prog f #[.pointer (some ⟨sb, 0, none⟩)] w (Pst sb rb K v b p skip left most told m s w) → Calls Tryd.prog f #[.pointer (some ⟨sb, 0, none⟩)] w fun e W => (∃ y, e = gv y ∧ Hid (P (gv y) W)) ∨ (∃ r, e = .returned r ∧ Hid (∀ r, P (.returned r) W)) := fun hc => hc.mono (fun e W hh => by
    rcases hh with ⟨y, a1, a2, a3, a4⟩ | ⟨s', p', m', K', x, a1, a2, a3, a4, a5, a6, a7, a8⟩
    · refine .inl ⟨y, a2, ?_⟩
      show P _ _
      rw [hP]
      exact .inl ⟨y, rfl, .inl ⟨y, a1, rfl, a3, a4⟩⟩
    · refine .inr ⟨x, a4, fun r => ?_⟩
      rw [hP]
      exact .inr ⟨r, rfl, fun r => .inr ⟨s', p', m', K', r, a1, a2, a3, rfl, a5, a6, a7, a8⟩⟩)
  have c7 := (sc7 h.sm.row).1
  rcases (show s.md = 0 ∨ s.md = 1 ∨ s.md = 2 by have := hb.1; omega) with hm0 | hm1 | hm2
  · have HC : Hid (Calls Tryd.prog 53 #[.pointer (some ⟨sb, 0, none⟩)] w fun e W => (∃ y, e = gv y ∧ Hid (P (gv y) W)) ∨ (∃ r, e = .returned r ∧ Hid (∀ r, P (.returned r) W))) := PP ((head_any h hm0 hT h0).mono (fun e W hh => Ps.pst (by omega) hm (by rw [stepR, if_pos hm0]; exact hh) h.bl))
    rw [hm0] at c7
    clear hP h hb PP
    go_enter Tryd.func46, Tryd.ntmps46
    go_wp2_with fail
    go_at_call 53
    with_reducible refine HC.out.mono ?_
    rintro e w3 (⟨z, rfl, HF⟩ | ⟨r, rfl, HF⟩)
    · exact ⟨rfl, HF.out⟩
    · go_wp2_with fail
      go_end0
      exact HF.out _
  · have HC : Hid (Calls Tryd.prog 54 #[.pointer (some ⟨sb, 0, none⟩)] w fun e W => (∃ y, e = gv y ∧ Hid (P (gv y) W)) ∨ (∃ r, e = .returned r ∧ Hid (∀ r, P (.returned r) W))) := PP (storedBytes_any h hb hm1)
    rw [hm1] at c7
    clear hP h hb PP
    go_enter Tryd.func46, Tryd.ntmps46
    go_wp2_with fail
    go_at_call 54
    with_reducible refine HC.out.mono ?_
    rintro e w3 (⟨z, rfl, HF⟩ | ⟨r, rfl, HF⟩)
    · exact ⟨rfl, HF.out⟩
    · go_wp2_with fail
      go_end0
      exact HF.out _
  · have HC : Hid (Calls Tryd.prog 55 #[.pointer (some ⟨sb, 0, none⟩)] w fun e W => (∃ y, e = gv y ∧ Hid (P (gv y) W)) ∨ (∃ r, e = .returned r ∧ Hid (∀ r, P (.returned r) W))) := PP ((symbol_any h hm2).mono (fun e W hh => Ps.pst (by omega) hm (by rw [stepR, if_neg (by omega), if_neg (by omega), if_pos hm2]; exact hh) h.bl))
    rw [hm2] at c7
    clear hP h hb PP
    go_enter Tryd.func46, Tryd.ntmps46
    go_wp2_with fail
    go_at_call 55
    with_reducible refine HC.out.mono ?_
    rintro e w3 (⟨z, rfl, HF⟩ | ⟨r, rfl, HF⟩)
    · exact ⟨rfl, HF.out⟩
    · go_wp2_with fail
      go_end0
      exact HF.out _
end Go.Proofs.YtincbbnppcpfpaaDoor

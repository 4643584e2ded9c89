import Derived.Test.YtlenihpbhlfcoaaGreatDoorUaq
set_option maxHeartbeats 8000000
set_option maxRecDepth 100000
set_option linter.unusedSimpArgs false
set_option linter.unusedVariables false
namespace Go.Proofs.YtlenihpbhlfcoaaGreatDoor
open Go.RowKit
theorem xnumber_any {X : Nat → Prop} (w : World) (g o n c : Nat) (b : List By) (hb : Sl X (.slice (some ⟨g, o, none⟩) n c) b w) (h12 : 12 ≤ n) :
  Calls Tryz.prog 148 #[.slice (some ⟨g, o, none⟩) n c] w fun e w' => e = .returned (.tuple #[.int .i64 ((szN (b.take 12)).1 : Int), .int .i64 ((szN (b.take 12)).2 : Int)]) ∧ Hid (Nw w w') := by
 refine asP fun P hP => ?_
 obtain ⟨hbn, k1, k2⟩ := slx_len hb;have hs := hb.part 0 12 (by omega) h12 (by omega);simp only [Nat.add_zero, Nat.sub_zero, List.drop_zero] at hs;have HN := fnumber_any w _ _ _ _ hs;rw [numA_nv] at HN;have HN := tHid HN;have HF : Hid (∀ V n e, Nw w V → szN (b.take 12) = (n, e) → P (.returned (.tuple #[.int .i64 (n : Int), .int .i64 (e : Int)])) V) := fun V n e h1 h2 => by rw [hP, h2]; exact ⟨rfl, h1⟩
 clear hP hs hb hbn;have hz := fEv_zero (b.take 12);have hsz : szN (b.take 12) = if fEv (b.take 12) = 0 ∧ fNv (b.take 12) < 0 then (0, 3) else ((fNv (b.take 12)).toNat, fEv (b.take 12)) := rfl
 generalize fNv (b.take 12) = N at *;generalize fEv (b.take 12) = E at *;generalize szN (b.take 12) = S at *;have hci : ((12 : Nat) : Int) ≤ (c : Int) := by omega
 by_cases hE : E = 0
 ·subst hE;clear hz;by_cases hN : N < 0
  ·rw [if_pos ⟨rfl, hN⟩] at hsz;go_enter Tryz.func148, Tryz.ntmps148
   go_wp2_with (first | (go_at_call 110; with_reducible refine HN.out.mono ?_; rintro e w1 ⟨rfl, H1⟩; have H1 := tHid H1))
   first | exact HF.out _ 0 3 H1.out hsz | (go_ret; exact HF.out _ 0 3 H1.out hsz)
  ·rw [if_neg (fun h => hN h.2)] at hsz;obtain ⟨M, rfl⟩ : ∃ M : Nat, N = (M : Int) := ⟨N.toNat, by omega⟩;rw [Int.toNat_natCast] at hsz;go_enter Tryz.func148, Tryz.ntmps148
   go_wp2_with (first | (go_at_call 110; with_reducible refine HN.out.mono ?_; rintro e w1 ⟨rfl, H1⟩; have H1 := tHid H1))
   first | exact HF.out _ M 0 H1.out hsz | (go_ret; exact HF.out _ M 0 H1.out hsz)
 ·have hN0 := hz hE;subst hN0;rw [if_neg (fun h => hE h.1)] at hsz;have hEi : ¬ ((E : Int) = 0) := by omega
  clear hz hE;go_enter Tryz.func148, Tryz.ntmps148
  go_wp2_with (first | (go_at_call 110; with_reducible refine HN.out.mono ?_; rintro e w1 ⟨rfl, H1⟩; have H1 := tHid H1))
  first | exact HF.out _ 0 E H1.out hsz | (go_ret; exact HF.out _ 0 E H1.out hsz)
def RsB (Rb Sb p : Nat) (w : World) : Prop := w.heap[Rb]? = some (.cells #[.slice (some ⟨Sb, p, none⟩) (24 - p) (24 - p)] 22)
def SlH (Sb : Nat) (s : List By) (w : World) : Prop := w.heap[Sb]? = some (.cells (rc s) 263)
theorem SlH.sl {Sb : Nat} {s : List By} {w : World} (h : SlH Sb s w) (hs : s.length = 24) (p : Nat) (hp : p ≤ 24) : Sl (fun k => k ≠ Sb) (.slice (some ⟨Sb, p, none⟩) (24 - p) (24 - p)) (s.drop p) w := by
 refine .inr ⟨Sb, fun h => h rfl, p, 24 - p, ?_, ?_, by omega, ?_⟩
 ·rw [List.length_drop, hs]
 ·rw [List.length_drop, hs]; exact Nat.le_refl _
 ·have hr : Rd Sb 0 s w := fun j hj => by
   have e := rc_at s j hj;unfold SlH at h;simp [World.cell?, h, e]
  have := hr.drop p;rw [Nat.zero_add] at this;exact this
theorem snext_any (w : World) (Rb Sb : Nat) (s : List By) (hs : s.length = 24) (hS : SlH Sb s w) (p : Nat) (hp : p = 0 ∨ p = 12) (hR : RsB Rb Sb p w) :
  Calls Tryz.prog 220 #[.pointer (some ⟨Rb, 0, none⟩)] w fun e w' => e = .returned (.tuple #[.int .i64 ((szN ((s.drop p).take 12)).1 : Int), .int .i64 ((szN ((s.drop p).take 12)).2 : Int)]) ∧ Hid (Fr (fun k => k = Rb) w w' ∧ (p = 0 → RsB Rb Sb 12 w')) := by
 refine asP fun P hP => ?_
 have HN := tHid (xnumber_any w Sb p (24 - p) (24 - p) (s.drop p) (hS.sl hs p (by omega)) (by omega));have HF : Hid (∀ V, Fr (fun k => k = Rb) w V → (p = 0 → RsB Rb Sb 12 V) → P (.returned (.tuple #[.int .i64 ((szN ((s.drop p).take 12)).1 : Int), .int .i64 ((szN ((s.drop p).take 12)).2 : Int)])) V) := fun V h1 h2 => by rw [hP]; exact ⟨rfl, h1, h2⟩
 clear hP hS;obtain ⟨c0, f0⟩ := one_cell hR;have HR := tHid hR;clear hR;generalize (szN ((s.drop p).take 12)).1 = N at *;generalize (szN ((s.drop p).take 12)).2 = E at *;rcases hp with rfl | rfl
 ·simp only [Nat.sub_zero] at HN c0;go_enter Tryz.func220, Tryz.ntmps220;go_upto_region 2 with (first | (go_at_call 148; with_reducible refine HN.out.mono ?_; rintro e w1 ⟨rfl, H1⟩));have hR1 : RsB Rb Sb 0 w1 := Nw.heap H1.out HR.out;obtain ⟨d0, d1⟩ := one_cell hR1;have HR2 : Hid (RsB Rb Sb 12 (w1.setCell ⟨Rb, 0, none⟩ (.slice (some ⟨Sb, 12, none⟩) 12 12))) := one_set hR1;have HFr : Hid (Fr (fun k => k = Rb) w (w1.setCell ⟨Rb, 0, none⟩ (.slice (some ⟨Sb, 12, none⟩) 12 12))) := H1.out.any.trans (fr_set _ _ _);simp only [Nat.sub_zero] at d0;clear hR1 HR
  go_wp2_with fail
  first | exact HF.out _ HFr.out (fun _ => HR2.out) | (go_ret; exact HF.out _ HFr.out (fun _ => HR2.out))
 ·simp only [Nat.reduceSub] at HN c0;go_enter Tryz.func220, Tryz.ntmps220;go_upto_region 2 with (first | (go_at_call 148; with_reducible refine HN.out.mono ?_; rintro e w1 ⟨rfl, H1⟩));have hR1 : RsB Rb Sb 12 w1 := Nw.heap H1.out HR.out;obtain ⟨d0, d1⟩ := one_cell hR1;have HFr : Hid (∀ v, Fr (fun k => k = Rb) w (w1.setCell ⟨Rb, 0, none⟩ v)) := fun v => H1.out.any.trans (fr_set _ _ _)
  simp only [Nat.reduceSub] at d0;clear hR1 HR
  go_wp2_with fail
  first | exact HF.out _ (HFr.out _) (fun h => by cases h) | (go_ret; exact HF.out _ (HFr.out _) (fun h => by cases h))
theorem snumbers_any (w : World) (s : List By) (hs : s.length = 24) : Calls Tryz.prog 188 #[.agg (rc s)] w fun e w' => ∃ Rb Sb, e = .returned (.func (.func 220) #[] #[.pointer (some ⟨Rb, 0, none⟩)]) ∧ Hid (Nw w w' ∧ w.heap.size ≤ Rb ∧ Rb < w'.heap.size ∧ Rb ≠ Sb ∧ SlH Sb s w' ∧ RsB Rb Sb 0 w') := by
 refine asP fun P hP => ?_
 have hf : P (.returned (.func (.func 220) #[] #[.pointer (some ⟨w.heap.size + 1, 0, none⟩)])) ((w.alloc (.cells (rc s) 263)).alloc (.cells #[.slice (some ⟨w.heap.size, 0, none⟩) 24 24] 22)) := by
  have s1 : (w.alloc (.cells (rc s) 263)).heap.size = w.heap.size + 1 := by simp
  rw [hP];refine ⟨_, w.heap.size, rfl, ((Fr.refl _ _).alloc _).alloc _, by omega, by simp, by omega, ?_, ?_⟩
  ·exact Nw.heap ((Fr.refl _ _).alloc _) (nHeap _ _)
  ·unfold RsB;rw [← s1];exact nHeap _ _
 have HF := tHid hf;clear hf hP;generalize rc s = C at *;go_enter Tryz.func188, Tryz.ntmps188
 go_wp2_with fail
 first | exact HF.out | (go_ret; exact HF.out)
def ToB (w : World) (Rb : Nat) (r : (Nat × Nat) × Nat) (e : Ending) (V : World) : Prop := e = .returned (.tuple #[.agg #[.int .i64 (r.1.1 : Int), .int .i64 (r.1.2 : Int)], .int .i64 (r.2 : Int)]) ∧ Hid (Fr (fun k => k = Rb) w V)
theorem told_sl (w : World) (Rb Sb : Nat) (s : List By) (hs : s.length = 24) (hne : Rb ≠ Sb) (hS : SlH Sb s w) (hR : RsB Rb Sb 0 w) :
  Calls Tryz.prog 187 #[.func (.func 220) #[] #[.pointer (some ⟨Rb, 0, none⟩)]] w (ToB w Rb (one2 s)) := by
 refine asP fun Q hQ => ?_
 have hTl : Rb < w.heap.size := (Array.getElem?_eq_some_iff.1 hR).1;obtain ⟨RB, hRB⟩ : ∃ RB, w.heap.size = RB := ⟨_, rfl⟩;obtain ⟨w0, hw0⟩ : ∃ w0, w.alloc (.cells #[.int .i64 0, .int .i64 0] 54) = w0 := ⟨_, rfl⟩;have hN0 : Nw w w0 := by rw [← hw0]; exact (Fr.refl _ _).alloc _
 have hrow0 : w0.heap[RB]? = some (.cells #[.int .i64 0, .int .i64 0] 54) := by rw [← hw0, ← hRB]; exact nHeap _ _
 have HFin : Hid (∀ V (F T e : Nat), one2 s = ((F, T), e) → Fr (fun k => k = Rb ∨ k = RB) w0 V → Q (.returned (.tuple #[.agg #[.int .i64 (F : Int), .int .i64 (T : Int)], .int .i64 (e : Int)])) V) := fun V F T e h1 h2 => by
  rw [hQ, h1];exact ⟨rfl, hN0.any.then h2 (fun i hi => by rcases hi with h | h; exact .inl h; exact .inr (by omega))⟩
 have HRow : Hid (∀ V, Fr (fun k => k = Rb) w0 V → V.heap[RB]? = some (.cells #[.int .i64 0, .int .i64 0] 54)) := fun V hV => hV.heapv hrow0 (by omega)
 have hC1 := snext_any w0 Rb Sb s hs (Nw.heap hN0 hS) 0 (.inl rfl) (Nw.heap hN0 hR);rw [List.drop_zero] at hC1;have HNum2 : Hid (∀ V, Fr (fun k => k = Rb) w0 V → RsB Rb Sb 12 V → Calls Tryz.prog 220 #[.pointer (some ⟨Rb, 0, none⟩)] V fun e w' => e = .returned (.tuple #[.int .i64 ((szN ((s.drop 12).take 12)).1 : Int), .int .i64 ((szN ((s.drop 12).take 12)).2 : Int)]) ∧ Hid (Fr (fun k => k = Rb) V w' ∧ (12 = 0 → RsB Rb Sb 12 w'))) := fun V hV h12 => snext_any V Rb Sb s hs (hV.heapv (Nw.heap hN0 hS) (fun e => hne e.symm)) 12 (.inr rfl) h12
 have hd12 : (s.drop 12).take 12 = s.drop 12 := List.take_of_length_le (by rw [List.length_drop]; omega);rw [hd12] at HNum2;have HC1 := tHid hC1;have HRB := tHid hRB;have HW0 := tHid hw0;have hone : one2 s = (if (szN (s.take 12)).2 ≠ 0 then ((0, 0), (szN (s.take 12)).2) else
 if (szN (s.drop 12)).2 ≠ 0 then ((0, 0), (szN (s.drop 12)).2) else
 if 9223372036854775807 - (szN (s.take 12)).1 < (szN (s.drop 12)).1 then ((0, 0), 3) else (((szN (s.take 12)).1, (szN (s.take 12)).1 + (szN (s.drop 12)).1), 0)) := rfl
 have z1 := szN_bad (s.take 12);have z2 := szN_bad (s.drop 12);have m1 := szN_le (s.take 12);have m2 := szN_le (s.drop 12);clear hQ hR hS hN0 hrow0 hRB hw0 hC1 hne hd12;generalize szN (s.take 12) = r1 at *;generalize szN (s.drop 12) = r2 at *;obtain ⟨n1, e1⟩ := r1;obtain ⟨n2, e2⟩ := r2;simp only at HC1 HNum2 hone z1 z2 m1 m2;by_cases he1 : e1 = 0
 ·subst he1;rw [if_neg (by simp)] at hone;by_cases he2 : e2 = 0
  ·subst he2;rw [if_neg (by simp)] at hone;have HAdd := tHid (fun V => add_any15 V n1 n2 m1 m2);by_cases hov : n1 + n2 ≤ 9223372036854775807
   ·rw [if_neg (by omega)] at hone;simp only [if_pos hov] at HAdd;obtain ⟨T, hT⟩ : ∃ T, n1 + n2 = T := ⟨_, rfl⟩;rw [hT] at HAdd hone;clear hT;go_enter Tryz.func187, Tryz.ntmps187;go_upto_region 1 with fail;rw [HRB.out, HW0.out]
    go_wp2_with fail
    refine HC1.out.mono ?_;rintro e w1 ⟨rfl, H1⟩;have HC2 := tHid (HNum2.out w1 H1.out.1 (H1.out.2 (by first | trivial | rfl)))
    go_wp2_with fail
    refine HC2.out.mono ?_;rintro e w2 ⟨rfl, H2⟩;have hF2 : Fr (fun k => k = Rb) w0 w2 := H1.out.1.trans H2.out.1;have hrow := HRow.out w2 hF2;obtain ⟨⟨v0, v1⟩, ⟨v2, v3⟩⟩ := two_cells hrow;have hrow2 := two_set hrow (.int .i64 (n1 : Int)) (.int .i64 (T : Int));obtain ⟨U1, hU1⟩ : ∃ U1, w2.setCell ⟨RB, 0, none⟩ (.int .i64 (n1 : Int)) = U1 := ⟨_, rfl⟩;obtain ⟨U2, hU2⟩ : ∃ U2, U1.setCell ⟨RB, 1, none⟩ (.int .i64 (T : Int)) = U2 := ⟨_, rfl⟩;rw [hU1, hU2] at hrow2
    have d1 : U1.cell? ⟨RB, 1, none⟩ = w2.cell? ⟨RB, 1, none⟩ := by rw [← hU1]; exact World.cell?_setCell_other _ _ _ _ (fun e => by have := congrArg Addr.off e; simp at this)
    have d2 : U1.frozen? ⟨RB, 1, none⟩ = w2.frozen? ⟨RB, 1, none⟩ := by rw [← hU1]; exact World.frozen?_setCell _ _ _ _
    rw [v2] at d1;rw [v3] at d2;have hfU : Fr (fun k => k = RB) w2 U2 := by
     have f1 : Fr (fun k => k = RB) w2 U1 := by rw [← hU1]; exact (Fr.refl (fun k => k = RB) _).setCell _ _ (.inl rfl)
     rw [← hU2];exact f1.setCell _ _ (.inl rfl)
    have HF2 := tHid (HFin.out U2 n1 T 0 hone ((hF2.mono (fun i hi => .inl (.inl hi))).trans (hfU.mono (fun i hi => .inl (.inr hi)))));have HRow1 := tHid hrow2;clear HFin HRow HNum2 HC1 HC2 H1 H2 hrow hone hF2 hrow2 hfU z1 z2
    go_wp2_with (first
     | (go_at_call 219; with_reducible refine (HAdd.out _).mono ?_; rintro e w3 ⟨rfl, rfl⟩))
    exact hretT RB rfl HRow1.out rfl HF2.out
   ·rw [if_pos (by omega)] at hone;simp only [if_neg hov] at HAdd;go_enter Tryz.func187, Tryz.ntmps187;go_upto_region 1 with fail;rw [HRB.out, HW0.out]
    go_wp2_with fail
    refine HC1.out.mono ?_;rintro e w1 ⟨rfl, H1⟩;have HC2 := tHid (HNum2.out w1 H1.out.1 (H1.out.2 (by first | trivial | rfl)))
    go_wp2_with fail
    refine HC2.out.mono ?_;rintro e w2 ⟨rfl, H2⟩;have hF2 : Fr (fun k => k = Rb) w0 w2 := H1.out.1.trans H2.out.1;have hrow := HRow.out w2 hF2;obtain ⟨⟨v0, v1⟩, ⟨v2, v3⟩⟩ := two_cells hrow;have s0 := setSame hrow (i := 0) (v := .int .i64 0) rfl;have s1 := setSame hrow (i := 1) (v := .int .i64 0) rfl;have HF2 := tHid (HFin.out w2 0 0 3 hone (hF2.mono (fun i hi => .inl (.inl hi))));have HRow1 := tHid hrow;clear HFin HRow HNum2 HC1 HC2 H1 H2 hrow hone hF2 z1 z2
    go_wp2_with (first
     | (go_at_call 219; with_reducible refine (HAdd.out _).mono ?_; rintro e w3 ⟨rfl, rfl⟩))
    exact hretT RB rfl HRow1.out rfl HF2.out
  ·rw [if_pos he2] at hone;have he2i : ¬ ((e2 : Int) = 0) := by omega
   go_enter Tryz.func187, Tryz.ntmps187
   go_upto_region 1 with fail
   rw [HRB.out, HW0.out]
   go_wp2_with fail
   refine HC1.out.mono ?_;rintro e w1 ⟨rfl, H1⟩;have HC2 := tHid (HNum2.out w1 H1.out.1 (H1.out.2 (by first | trivial | rfl)))
   go_wp2_with fail
   refine HC2.out.mono ?_;rintro e w2 ⟨rfl, H2⟩;have hF2 : Fr (fun k => k = Rb) w0 w2 := H1.out.1.trans H2.out.1;have hrow := HRow.out w2 hF2;obtain ⟨⟨v0, v1⟩, ⟨v2, v3⟩⟩ := two_cells hrow;have s0 := setSame hrow (i := 0) (v := .int .i64 0) rfl;have s1 := setSame hrow (i := 1) (v := .int .i64 0) rfl;have HF2 := tHid (HFin.out w2 0 0 e2 hone (hF2.mono (fun i hi => .inl (.inl hi))));have HRow1 := tHid hrow;clear HFin HRow HNum2 HC1 HC2 H1 H2 hrow hone hF2 z1 z2
   go_wp2_with fail
   exact hretT RB rfl HRow1.out rfl HF2.out
 ·rw [if_pos he1] at hone;have he1i : ¬ ((e1 : Int) = 0) := by omega
  go_enter Tryz.func187, Tryz.ntmps187
  go_upto_region 1 with fail
  rw [HRB.out, HW0.out]
  go_wp2_with fail
  refine HC1.out.mono ?_;rintro e w1 ⟨rfl, H1⟩;have hrow := HRow.out w1 H1.out.1;obtain ⟨⟨v0, v1⟩, ⟨v2, v3⟩⟩ := two_cells hrow;have s0 := setSame hrow (i := 0) (v := .int .i64 0) rfl;have s1 := setSame hrow (i := 1) (v := .int .i64 0) rfl;have HF2 := tHid (HFin.out w1 0 0 e1 hone (H1.out.1.mono (fun i hi => .inl (.inl hi))));have HRow1 := tHid hrow;clear HFin HRow HNum2 HC1 H1 hrow hone z1 z2
  go_wp2_with fail
  exact hretT RB rfl HRow1.out rfl HF2.out
theorem kend_any (w : World) (f r : Nat) (hfr : f + r * 24 ≤ 1000) : Calls Tryz.prog 186 #[.agg #[.int .i64 (f : Int), .int .i64 (r : Int)]] w fun e w' => e = .returned (.int .i64 ((f + r * 24 : Nat) : Int)) ∧ Hid (Nw w w') := by
 refine asP fun P hP => ?_
 have HF : Hid (P (.returned (.int .i64 ((f + r * 24 : Nat) : Int))) (w.alloc (.cells #[.int .i64 (f : Int), .int .i64 (r : Int)] 218))) := by
  show P _ _;rw [hP]; exact ⟨rfl, (Fr.refl _ _).alloc _⟩
 clear hP;obtain ⟨E, hE⟩ : ∃ E, f + r * 24 = E := ⟨_, rfl⟩;rw [hE] at HF hfr;obtain ⟨M, hM⟩ : ∃ M, r * 24 = M := ⟨_, rfl⟩;have h1 : (r : Int) * 24 = (M : Int) := by omega
 have h2 : (f : Int) + (M : Int) = (E : Int) := by omega
 have h3 : (M : Int) ≤ 1000 := by omega
 clear hE hM;go_enter Tryz.func186, Tryz.ntmps186
 go_wp2_with fail
 first | exact HF.out | (go_ret; exact HF.out)
theorem hretF {f : Nat} {R : Ending → World → Prop} {a : Act} {w : World} {x y : Value} {fn : Func} (hres : fn.results = #[.cell 0 218]) (sb : Nat) (h1 : a.tmps.getD 0 undef = .pointer (some ⟨sb, 0, none⟩)) (hrow : w.heap[sb]? = some (.cells #[x, y] 218)) (hd : a.defers = []) (hR : R (.returned (.agg #[x, y])) w) : bodyPost Tryz.prog fn R .ret a w := by
 have hi : (Tryz.prog.info? 218).map (·.size) = some (#[x, y] : Array Value).size := by show _ = some 2; kernel_rfl
 have hl := run_loadVar_row (P := Tryz.prog) w sb 218 218 #[x, y] (0, 0) _ hrow Tryz.underlying218 rfl hi;have hp' : a.tmps[0]?.getD undef = .pointer (some ⟨sb, 0, none⟩) := by simpa using h1
 refine bodyPost_ret ?_ hd hR;simp [results, hp', asAddr, hl, hres]
theorem first_any (w : World) : Calls Tryz.prog 146 #[] w fun e w' => e = .returned (.agg #[.int .i64 386, .int .i64 4]) ∧ Hid (Nw w w') := by
 refine asP fun P hP => ?_
 have HF : Hid (P (.returned (.agg #[.int .i64 386, .int .i64 4])) (w.alloc (.cells #[.int .i64 386, .int .i64 4] 218))) := by
  show P _ _;rw [hP]; exact ⟨rfl, (Fr.refl _ _).alloc _⟩
 clear hP;go_enter Tryz.func146, Tryz.ntmps146
 go_wp2_with fail
 first | exact HF.out | (go_ret; exact HF.out) | (exact hretF (f := 0) rfl _ rfl (nHeap _ _) rfl HF.out)
theorem further_any (w : World) : Calls Tryz.prog 149 #[] w fun e w' => e = .returned (.agg #[.int .i64 0, .int .i64 21]) ∧ Hid (Nw w w') := by
 refine asP fun P hP => ?_
 have HF : Hid (P (.returned (.agg #[.int .i64 0, .int .i64 21])) (w.alloc (.cells #[.int .i64 0, .int .i64 21] 218))) := by
  show P _ _;rw [hP]; exact ⟨rfl, (Fr.refl _ _).alloc _⟩
 clear hP;go_enter Tryz.func149, Tryz.ntmps149
 go_wp2_with fail
 first | exact HF.out | (go_ret; exact HF.out) | (exact hretF (f := 0) rfl _ rfl (nHeap _ _) rfl HF.out)
def RcO (g : Nat) (R : List By) (w : World) : Prop := w.heap[g]? = some (.cells (rc R) 58)
theorem RcO.at {g : Nat} {R : List By} {w : World} (h : RcO g R w) (i : Nat) (hi : i < R.length) : w.cell? ⟨g, i, none⟩ = some (.int .u8 R[i].toNat) := by
 have e := rc_at R i hi;unfold RcO at h;simp [World.cell?, h, e]
theorem RcO.mid {g : Nat} {R : List By} {w : World} (h : RcO g R w) (hl : R.length = 512) (o n : Nat) (hon : o + n ≤ 512) : w.rangeAt g o (((R.drop o).take n).map bv) := by
 intro j v hv;rw [List.getElem?_map] at hv;cases hq : ((R.drop o).take n)[j]? with
 | none => rw [hq] at hv; cases hv
 | some y =>
  rw [hq] at hv;have hj : j < n := by have := (List.getElem?_eq_some_iff.1 hq).1; rw [List.length_take] at this; omega
  rw [List.getElem?_take, if_pos hj, List.getElem?_drop] at hq;obtain ⟨h1, h2⟩ := List.getElem?_eq_some_iff.1 hq;have := h.at (o + j) h1;rw [this, h2];exact hv
theorem eql_slot (a b : List By) (h1 : a.length = 24) (h2 : b.length = 24) (w : World) : (Op.equalIn 10000 263 (.agg (rc a)) (.agg (rc b))).run Tryz.prog w = .ok (decide (a = b)) w := by
 obtain ⟨i, hi, hz, hsz, hby⟩ := infoB;have e := run_equalIn_array (P := Tryz.prog) w 9999 (t := 263) (e := 5) (rc a) (rc b) Tryz.underlying263 hi;rw [cellsOne, eqItems_rc 9998 a b w _ (fun i hi => by rw [h1, h2]; have := List.mem_range.1 hi; exact ⟨this, this⟩), all_range a b 24 h1 h2] at e;exact e
theorem sl24 (g F F2 : Nat) (b1 : F ≤ F2) (b2 : F2 ≤ 512) (b3 : F2 - F = 24) (W : World) : (Instr.sliceAt 58 (.pointer (some ⟨g, 0, none⟩)) (some (.int .i64 (F : Int))) (some (.int .i64 (F2 : Int))) none).run Tryz.prog W = .ok (.slice (some ⟨g, F, none⟩) (F2 - F) (512 - F)) W := by
 have hal : Tryz.prog.arrayLen 58 = 512 := by simp [Program.arrayLen, Tryz.underlying58]
 rw [run_sliceAt_array_lh W 58 ⟨g, 0, none⟩ (by simp [Program.arrayLen, Program.elem, Tryz.underlying58]) .i64 .i64 (F : Int) (F2 : Int) (by omega) (by omega) (by rw [hal]; omega)];have h5 : ¬ 512 = F := by omega
 go_simp
theorem z24_rc : rc z24 = #[.int .u8 0, .int .u8 0, .int .u8 0, .int .u8 0, .int .u8 0, .int .u8 0, .int .u8 0, .int .u8 0, .int .u8 0, .int .u8 0, .int .u8 0, .int .u8 0, .int .u8 0, .int .u8 0, .int .u8 0, .int .u8 0, .int .u8 0, .int .u8 0, .int .u8 0, .int .u8 0, .int .u8 0, .int .u8 0, .int .u8 0, .int .u8 0] := rfl
def KrA (w : World) (R : List By) (f r : Nat) (x : List (Nat × Nat) × Nat) (e : Ending) (V : World) : Prop := ∃ a m c B, e = .returned (.tuple #[.slice a m c, .bool B, .int .i64 (x.2 : Int)]) ∧ Hid (Nw w V ∧ (x.2 = 0 → NewG w (.slice a m c) (rgL x.1) V ∧ B = decide (R.getD (f + r * 24) 0 ≠ 0#8)) ∧ (x.2 ≠ 0 → a = none ∧ m = 0 ∧ c = 0 ∧ B = false))
theorem kread_any (w : World) (g : Nat) (R : List By) (hR : R.length = 512) (hg : RcO g R w) (f r : Nat) (hfr : f + r * 24 < 512) :
  Calls Tryz.prog 147 #[.agg #[.int .i64 (f : Int), .int .i64 (r : Int)], .pointer (some ⟨g, 0, none⟩)] w (KrA w R f r (rdO R r f [])) := by
 refine asP fun P hP => ?_
 obtain ⟨tb, htb⟩ : ∃ tb, w.heap.size = tb := ⟨_, rfl⟩;obtain ⟨W1, hW1⟩ : ∃ W1, w.alloc (.cells #[.int .i64 (f : Int), .int .i64 (r : Int)] 218) = W1 := ⟨_, rfl⟩;have HN1 : Hid (Nw w W1) := by show Nw w W1; rw [← hW1]; exact (Fr.refl _ _).alloc _
 have ht1 : W1.heap[tb]? = some (.cells #[.int .i64 (f : Int), .int .i64 (r : Int)] 218) := by rw [← hW1, ← htb]; exact nHeap _ _
 obtain ⟨⟨v0, _⟩, ⟨v2, _⟩⟩ := two_cells ht1;obtain ⟨E, hE⟩ : ∃ E, f + r * 24 = E := ⟨_, rfl⟩;have hEi : (E : Int) < 512 := by omega
 have hEn : E < 512 := by omega
 have HEnd : Hid (∀ V, Calls Tryz.prog 186 #[.agg #[.int .i64 (f : Int), .int .i64 (r : Int)]] V fun e w' => e = .returned (.int .i64 (E : Int)) ∧ Hid (Nw V w')) := fun V => by
  have := kend_any V f r (by omega);rw [hE] at this;exact this
 have HT1 := tHid ht1;have HG := tHid hg;have HOk : Hid (∀ V V' a7 n7 c7 og acc, Nw w V → Nw V V' → OgR RG og (.slice a7 n7 c7) (rgL acc) V → (∀ g, og = some g → W1.heap.size ≤ g) → rdO R r f [] = (acc, 0) → P (.returned (.tuple #[.slice a7 n7 c7, .bool (decide (R.getD E 0 ≠ 0#8)), .int .i64 0])) V') := fun V V' a7 n7 c7 og acc h1 h2 h3 h4 h5 => by
  rw [hP, h5];exact ⟨a7, n7, c7, _, rfl, h1.trans h2, fun _ => ⟨⟨og, h3.nw h2, fun g e => Nat.le_trans HN1.out.size (h4 g e)⟩, by rw [hE]⟩, fun h => absurd rfl h⟩
 have HBad : Hid (∀ V (e : Nat), Nw w V → e ≠ 0 → rdO R r f [] = ([], e) → P (.returned (.tuple #[.slice none 0 0, .bool false, .int .i64 (e : Int)])) V) := fun V e h1 h2 h3 => by
  rw [hP, h3];exact ⟨none, 0, 0, false, rfl, h1, fun h => absurd h h2, fun _ => ⟨rfl, rfl, rfl, rfl⟩⟩
 clear hP;have hElt : E < R.length := by omega
 obtain ⟨y, hy⟩ : ∃ y : Nat, R[E].toNat = y := ⟨_, rfl⟩;have hyB : ((y : Int) != 0) = decide (R.getD E 0 ≠ 0#8) := by
  rw [List.getD_eq_getElem?_getD, List.getElem?_eq_getElem hElt, ← hy];show _ = decide (R[E] ≠ 0#8);by_cases h0 : R[E] = 0#8
  ·rw [h0]; rfl
  ·rw [decide_eq_true h0];have : R[E].toNat ≠ 0 := fun e => h0 (BitVec.eq_of_toNat_eq e)
   simp only [bne_iff_ne, ne_eq];omega
 have HCell : Hid (∀ V, Nw W1 V → V.cell? ⟨tb, 0, none⟩ = some (.int .i64 (f : Int)) ∧ V.cell? ⟨tb, 1, none⟩ = some (.int .i64 (r : Int)) ∧ V.cell? ⟨g, E, none⟩ = some (.int .u8 (y : Int))) := fun V hV => by
  have t := HT1.out;obtain ⟨⟨u0, _⟩, ⟨u2, _⟩⟩ := two_cells (Nw.heap hV t);have := RcO.at (Nw.heap (HN1.out.trans hV) hg) E hElt;rw [hy] at this;exact ⟨u0, u2, this⟩
 have HEq : Hid (∀ V, Nw W1 V → Calls Tryz.prog 186 #[.agg #[.int .i64 (f : Int), .int .i64 (r : Int)]] V.drew fun e w' => e = .returned (.int .i64 (E : Int)) ∧ (w'.cell? ⟨tb, 0, none⟩ = some (.int .i64 (f : Int)) ∧ w'.cell? ⟨tb, 1, none⟩ = some (.int .i64 (r : Int)) ∧ w'.cell? ⟨g, E, none⟩ = some (.int .u8 (y : Int))) ∧ Hid (Nw V w')) := fun V hV => by
  refine (HEnd.out V.drew).mono ?_;rintro e w' ⟨rfl, K⟩;have kd : Nw V V.drew := (Fr.refl _ _).drew;exact ⟨rfl, HCell.out _ (hV.trans (kd.trans K.out)), kd.trans K.out⟩
 generalize decide (R.getD E 0 ≠ 0#8) = Y at *;clear ht1 hg hy;go_enter Tryz.func147, Tryz.ntmps147;go_upto_region 1 with fail
 go_wp2_with fail
 go_loopg [7, 8] r (fun kx v x wr => ∃ (I F : Nat) (og : Option Nat) (acc : List (Nat × Nat)) (a7 : Option Addr) (n7 c7 : Nat), I ≤ r ∧ r - I ≤ kx ∧ x = .int .i64 (F : Int) ∧ v = .slice a7 n7 c7 ∧ Hid (F = f + I * 24 ∧ Nw w wr ∧ Nw W1 wr ∧ OgR RG og (.slice a7 n7 c7) (rgL acc) wr ∧ (∀ g, og = some g → W1.heap.size ≤ g) ∧ acc.length = I ∧ rdO R r f [] = rdO R (r - I) (f + I * 24) acc))
 case atStart =>
  exact ⟨0, f, none, [], none, 0, 0, by omega, by omega, rfl, rfl, by omega, HN1.out, Fr.refl _ _, ⟨rfl, rfl⟩, (fun g e => by cases e), rfl, by simp⟩
 case round =>
  obtain ⟨I, F, og, acc, a7, n7, c7, hI, hkx, rfl, rfl, HI⟩ := hrel;have hF := HI.out.1;have hN1 := HI.out.2.2.1;have t1 : wr.heap[tb]? = some (.cells #[.int .i64 (f : Int), .int .i64 (r : Int)] 218) := Nw.heap hN1 HT1.out;obtain ⟨⟨u0, _⟩, ⟨u2, _⟩⟩ := two_cells t1;by_cases hlt : I < r
  ·have hFE : (F : Int) < (E : Int) := by omega
   have hF24 : F + 24 ≤ 512 := by omega
   obtain ⟨F2, hF2⟩ : ∃ F2, F + 24 = F2 := ⟨_, rfl⟩;have hF2i : (F : Int) + 24 = (F2 : Int) := by omega
   have b1 : F ≤ F2 := by omega
   have b2 : F2 ≤ 512 := by omega
   have b3 : F2 - F = 24 := by omega
   have hSl := sl24 g F F2 b1 b2 b3;rw [b3] at hSl;have hAr : ∀ (W : World) (c : Nat), (Instr.arrayAt 263 (.slice (some ⟨g, F, none⟩) 24 c)).run Tryz.prog W = .ok (.pointer (some ⟨g, F, none⟩)) W := fun W c => by
    simp [Instr.arrayAt, run_underlying Tryz.underlying263]
   obtain ⟨s, hs⟩ : ∃ s, (R.drop F).take 24 = s := ⟨_, rfl⟩;have hsl : s.length = 24 := by rw [← hs, List.length_take, List.length_drop]; omega
   have hGr : RcO g R wr := Nw.heap HI.out.2.1 HG.out;have hmid := hGr.mid hR F 24 hF24;rw [hs] at hmid;have HM : Hid (∀ W, Nw wr W → W.rangeAt g F (s.map bv)) := fun W hW j v hv => Nw.cell hW (hmid j v hv)
   have HIn : Hid ((Tryz.prog.info? 263).map (·.size) = some (s.map bv).length) := by
    have : (Tryz.prog.info? 263).map (·.size) = some (s.map bv).length := by rw [List.length_map, hsl]; kernel_rfl
    exact this
   have hC : ∃ C, C = rc s ∧ Hid (C.size = 24) ∧ Hid (C.all (·.oneCell') = true) ∧ Hid ((Tryz.prog.info? 263).map (·.size) = some C.size) := ⟨rc s, rfl, (by rw [rc_size, hsl] : (rc s).size = 24), rc_one s, (by rw [rc_size, hsl]; kernel_rfl : (Tryz.prog.info? 263).map (·.size) = some (rc s).size)⟩;obtain ⟨C, hC, HC1, HC2, HC3⟩ := hC;have HCM : Hid ((s.map bv).toArray = C) := hC.symm;have heq0 := fun W : World => eql_slot s z24 hsl rfl W
   rw [z24_rc, ← hC] at heq0;have HNB : Hid (∀ V, Calls Tryz.prog 188 #[.agg C] V fun e w' => ∃ Rb Sb, e = .returned (.func (.func 220) #[] #[.pointer (some ⟨Rb, 0, none⟩)]) ∧ Hid (Nw V w' ∧ V.heap.size ≤ Rb ∧ Rb < w'.heap.size ∧ Rb ≠ Sb ∧ SlH Sb s w' ∧ RsB Rb Sb 0 w')) := fun V => by rw [hC]; exact snumbers_any V s hsl
   have hrd : rdO R (r - I) (f + I * 24) acc = if s = z24 then (acc, 0) else if (one2 s).2 ≠ 0 then ([], (one2 s).2) else rdO R (r - (I + 1)) (f + (I + 1) * 24) (acc ++ [(one2 s).1]) := by
    obtain ⟨k, hk⟩ : ∃ k, r - I = k + 1 := ⟨r - I - 1, by omega⟩;have e1 : r - (I + 1) = k := by omega
    rw [hk, e1, rdO, ← hF, hs, show F + 24 = f + (I + 1) * 24 by omega]
   have HRD := tHid hrd;clear hF t1 hmid hGr hrd hs hC;go_upto_region 5 with (first
    | (go_at_call 186; with_reducible refine (HEnd.out _).mono ?_; rintro e w2 ⟨rfl, H2⟩))
   obtain ⟨sb, hsb⟩ : ∃ sb, w2.heap.size = sb := ⟨_, rfl⟩;have hrow0 := nHeap w2 (.cells #[.int .u8 0, .int .u8 0, .int .u8 0, .int .u8 0, .int .u8 0, .int .u8 0, .int .u8 0, .int .u8 0, .int .u8 0, .int .u8 0, .int .u8 0, .int .u8 0, .int .u8 0, .int .u8 0, .int .u8 0, .int .u8 0, .int .u8 0, .int .u8 0, .int .u8 0, .int .u8 0, .int .u8 0, .int .u8 0, .int .u8 0, .int .u8 0] 263);rw [hsb] at hrow0
   obtain ⟨W3, hW3⟩ : ∃ W3, (w2.alloc (.cells #[.int .u8 0, .int .u8 0, .int .u8 0, .int .u8 0, .int .u8 0, .int .u8 0, .int .u8 0, .int .u8 0, .int .u8 0, .int .u8 0, .int .u8 0, .int .u8 0, .int .u8 0, .int .u8 0, .int .u8 0, .int .u8 0, .int .u8 0, .int .u8 0, .int .u8 0, .int .u8 0, .int .u8 0, .int .u8 0, .int .u8 0, .int .u8 0] 263)).setRow sb C = W3 := ⟨_, rfl⟩;have HR0 := tHid hrow0;have HW3 := tHid hW3;have HN3 : Hid (Nw wr W3) := by
    have : Nw w2 W3 := by rw [← hW3]; exact ((Fr.refl _ _).alloc _).setRow _ _ (.inr (by omega))
    exact H2.out.trans this
   have HS3 : Hid (W3.heap[sb]? = some (.cells C 263)) := by
    have : W3.heap[sb]? = some (.cells C 263) := by rw [← hW3]; exact setRow_heap _ _ _ _ 263 _ hrow0
    exact this
   have HZ : Hid ((#[.int .u8 0, .int .u8 0, .int .u8 0, .int .u8 0, .int .u8 0, .int .u8 0, .int .u8 0, .int .u8 0, .int .u8 0, .int .u8 0, .int .u8 0, .int .u8 0, .int .u8 0, .int .u8 0, .int .u8 0, .int .u8 0, .int .u8 0, .int .u8 0, .int .u8 0, .int .u8 0, .int .u8 0, .int .u8 0, .int .u8 0, .int .u8 0] : Array Value).size = C.size) := by
    show 24 = C.size;rw [HC1.out]
   have heq := heq0 W3;clear hrow0 hW3 heq0;go_upto_region 6 with (first
    | (refine wpList_load_mid rfl 263 _ rfl g F (by first | rfl | simp [Act.eval]) (s.map bv) _ (HM.out _ H2.out) Tryz.underlying263 rfl HIn.out ?_; rw [HCM.out])
    | (refine wpList_store_row rfl 263 _ _ rfl sb C (by first | rfl | simp [Act.eval]) (by first | rfl | simp [Act.eval]) 263 _ HR0.out HC3.out HZ.out HC2.out ?_; rw [HW3.out]))
   clear HR0 HW3 HZ HM HIn HCM hSl hAr;have hN3 : Nw W1 W3 := hN1.trans HN3.out;have HQ3 := tHid (HEq.out W3 hN3);obtain ⟨q0, q1, q2⟩ := HCell.out W3 hN3;by_cases hz : s = z24
   ·rw [decide_eq_true hz] at heq;have HF3 : Hid (∀ V, Nw W3 V → P (.returned (.tuple #[.slice a7 n7 c7, .bool Y, .int .i64 0])) V) := fun V hV => HOk.out W3 V a7 n7 c7 og acc (HI.out.2.1.trans HN3.out) hV (HI.out.2.2.2.1.nw HN3.out) HI.out.2.2.2.2.1 (by rw [HI.out.2.2.2.2.2.2, HRD.out, if_pos hz])
    clear HI HOk HBad HEq HCell HRD HNB hN1 hN3;go_upto_region 11 with (first
     | (refine wpList_load_row rfl 263 _ rfl sb (by first | rfl | simp [Act.eval]) 263 _ (0, 0) _ HS3.out Tryz.underlying263 rfl HC3.out ?_))
    go_region_held3 (fun w' => w'.cell? ⟨tb, 0, none⟩ = some (.int .i64 (f : Int)) ∧ w'.cell? ⟨tb, 1, none⟩ = some (.int .i64 (r : Int)) ∧ w'.cell? ⟨g, E, none⟩ = some (.int .u8 (y : Int)))
     (first | assumption | exact ⟨q0, q1, q2⟩)
     (first | (go_at_call 186; with_reducible refine HQ3.out.mono ?_; rintro e w4 ⟨rfl, k4, K4⟩))
    go_wp2_with fail
    first | exact HF3.out _ K4.out | (go_ret; exact HF3.out _ K4.out)
   ·rw [decide_eq_false hz] at heq;have hrd := HI.out.2.2.2.2.2.2;rw [HRD.out, if_neg hz] at hrd;have HTO : Hid (∀ V Rb Sb, Rb ≠ Sb → SlH Sb s V → RsB Rb Sb 0 V → Calls Tryz.prog 187 #[.func (.func 220) #[] #[.pointer (some ⟨Rb, 0, none⟩)]] V (ToB V Rb (one2 s))) := fun V Rb Sb h1 h2 h3 => told_sl V Rb Sb s hsl h1 h2 h3
    unfold ToB at HTO;clear HRD HQ3 q0 q1 q2 HEq HCell hz;generalize one2 s = r1 at *;obtain ⟨⟨A, B⟩, e1⟩ := r1;simp only at HTO hrd;go_upto_region 7 with (first
     | (refine wpList_load_row rfl 263 _ rfl sb (by first | rfl | simp [Act.eval]) 263 _ (0, 0) _ HS3.out Tryz.underlying263 rfl HC3.out ?_))
    go_upto_region 8 with (first
     | (refine wpList_load_row rfl 263 _ rfl sb (by first | rfl | simp [Act.eval]) 263 _ (0, 0) _ HS3.out Tryz.underlying263 rfl HC3.out ?_)
     | (go_at_call 188; with_reducible refine (HNB.out _).mono ?_; rintro e w4 ⟨Rb, Sb, rfl, H4⟩)
     | (go_at_call 187; with_reducible refine (HTO.out _ Rb Sb H4.out.2.2.2.1 H4.out.2.2.2.2.1 H4.out.2.2.2.2.2).mono ?_; rintro e w5 ⟨rfl, H5⟩))
    have HN5 : Hid (Nw W3 w5) := H4.out.1.then H5.out (fun i hi => .inr (by have := H4.out.2.1; omega));by_cases he1 : e1 = 0
    ·subst he1;rw [if_neg (by simp)] at hrd;have hN6 : Nw wr w5 := HN3.out.trans HN5.out;obtain ⟨bb, hbb⟩ : ∃ bb, w5.heap.size = bb := ⟨_, rfl⟩;obtain ⟨W6, hW6⟩ : ∃ W6, w5.alloc (.cells #[.int .i64 (A : Int), .int .i64 (B : Int)] 54) = W6 := ⟨_, rfl⟩;have hN6b : Nw w5 W6 := by rw [← hW6]; exact (Fr.refl _ _).alloc _
     have hrow6 : W6.heap[bb]? = some (.cells #[.int .i64 (A : Int), .int .i64 (B : Int)] 54) := by rw [← hW6, ← hbb]; exact nHeap _ _
     obtain ⟨⟨z0, _⟩, ⟨z1, _⟩⟩ := two_cells hrow6;obtain ⟨og', v', W7, a1, a2, a3, a4⟩ := pushG W6 og _ (rgL acc) (HI.out.2.2.2.1.nw (hN6.trans hN6b)) (by rw [rgL_len, HI.out.2.2.2.2.2.1]; omega) ((A : Int), (B : Int));have hfr : ∀ g, og = some g → W1.heap.size ≤ g := HI.out.2.2.2.2.1;have hN17 : Nw W1 W7 := (hN1.trans (hN6.trans hN6b)).then a3 (fun i hi => .inr (hfr i hi));have hfr' : ∀ g, og' = some g → W1.heap.size ≤ g := fun g e => by
      rcases a4 with h | ⟨g', e', hg'⟩
      ·exact hfr g (by rw [← h]; exact e)
      ·rw [e'] at e;injection e with e;have := (hN1.trans (hN6.trans hN6b)).size; omega
     have hrg : rgL acc ++ [((A : Int), (B : Int))] = rgL (acc ++ [(A, B)]) := (rgL_snoc acc (A, B)).symm;rw [hrg] at a2;obtain ⟨a8, c8, rfl, m1, m2⟩ := a2.form;have HNX : Hid (F2 = f + (I + 1) * 24 ∧ Nw w W7 ∧ Nw W1 W7 ∧ OgR RG og' (.slice a8 (rgL (acc ++ [(A, B)])).length c8) (rgL (acc ++ [(A, B)])) W7 ∧ (∀ g, og' = some g → W1.heap.size ≤ g) ∧ (acc ++ [(A, B)]).length = I + 1 ∧ rdO R r f [] = rdO R (r - (I + 1)) (f + (I + 1) * 24) (acc ++ [(A, B)])) := ⟨by have := HI.out.1; omega, HN1.out.trans hN17, hN17, a2, hfr', by simp [HI.out.2.2.2.2.2.1], hrd⟩
     clear HI HOk HBad hN1 hN3 hrd HTO HNB H4 H5 HN5 hN6 hN6b hrow6 a2 a3 a4 hN17 hfr hfr' hrg m1 m2;generalize (rgL (acc ++ [(A, B)])).length = n8 at *;unfold rgC at a1
     go_wp2_with (first
      | (at_builtin; refine Lib.wpList_append_run _ rfl _ _ 33 33 rfl (.slice a7 n7 c7) (.slice (some ⟨W6.heap.size, 0, none⟩) 1 1) (by first | rfl | simp [Act.eval]) (by first | rfl | simp [Act.eval]) _ _ (a1.out _) ?_))
     go_roundg (r - (I + 1))
     case measure => omega
     case rel => exact ⟨I + 1, F2, og', acc ++ [(A, B)], a8, n8, c8, by omega, by omega, rfl, rfl, HNX⟩
    ·rw [if_pos he1] at hrd;have he1i : ¬ ((e1 : Int) = 0) := by omega
     have HF5 : Hid (∀ V, Nw w5 V → P (.returned (.tuple #[.slice none 0 0, .bool false, .int .i64 (e1 : Int)])) V) := fun V hV => HBad.out V e1 ((HI.out.2.1.trans HN3.out).trans (HN5.out.trans hV)) he1 hrd
     clear HI HOk HBad hN1 hN3 hrd HTO HNB H4 H5 HN5;have hal : Nw w5 (w5.alloc (.cells #[.int .i64 (A : Int), .int .i64 (B : Int)] 54)) := (Fr.refl _ _).alloc _;have HAL := tHid hal;clear hal
     go_wp2_with fail
     first | exact HF5.out _ HAL.out | (go_ret; exact HF5.out _ HAL.out)
  ·have hFE : ¬ (F : Int) < (E : Int) := by omega
   have hrd : rdO R r f [] = (acc, 0) := by
    rw [HI.out.2.2.2.2.2.2, show r - I = 0 by omega, rdO]
   have HF3 : Hid (∀ V, Nw wr V → P (.returned (.tuple #[.slice a7 n7 c7, .bool Y, .int .i64 0])) V) := fun V hV => HOk.out wr V a7 n7 c7 og acc HI.out.2.1 hV HI.out.2.2.2.1 HI.out.2.2.2.2.1 hrd
   have HC4 : Hid (∀ V, Nw wr V → V.cell? ⟨tb, 0, none⟩ = some (.int .i64 (f : Int)) ∧ V.cell? ⟨tb, 1, none⟩ = some (.int .i64 (r : Int)) ∧ V.cell? ⟨g, E, none⟩ = some (.int .u8 (y : Int))) := fun V hV => HCell.out V (hN1.trans hV)
   have HQ4 : Hid (∀ V, Nw wr V → Calls Tryz.prog 186 #[.agg #[.int .i64 (f : Int), .int .i64 (r : Int)]] V.drew fun e w' => e = .returned (.int .i64 (E : Int)) ∧ (w'.cell? ⟨tb, 0, none⟩ = some (.int .i64 (f : Int)) ∧ w'.cell? ⟨tb, 1, none⟩ = some (.int .i64 (r : Int)) ∧ w'.cell? ⟨g, E, none⟩ = some (.int .u8 (y : Int))) ∧ Hid (Nw V w')) := fun V hV => HEq.out V (hN1.trans hV)
   clear HI HOk HBad HEq HCell hN1 hrd hF t1;go_upto_region 11 with (first
    | (go_at_call 186; with_reducible refine (HEnd.out _).mono ?_; rintro e w2 ⟨rfl, H2⟩))
   obtain ⟨q0, q1, q2⟩ := HC4.out w2 H2.out;have HQ5 := tHid (HQ4.out w2 H2.out)
   go_region_held3 (fun w' => w'.cell? ⟨tb, 0, none⟩ = some (.int .i64 (f : Int)) ∧ w'.cell? ⟨tb, 1, none⟩ = some (.int .i64 (r : Int)) ∧ w'.cell? ⟨g, E, none⟩ = some (.int .u8 (y : Int)))
    (first | assumption | exact ⟨q0, q1, q2⟩)
    (first | (go_at_call 186; with_reducible refine HQ5.out.mono ?_; rintro e w4 ⟨rfl, k4, K4⟩))
   have HN4 := tHid (H2.out.trans K4.out)
   go_wp2_with fail
   first | exact HF3.out _ HN4.out | (go_ret; exact HF3.out _ HN4.out)
end Go.Proofs.YtlenihpbhlfcoaaGreatDoor

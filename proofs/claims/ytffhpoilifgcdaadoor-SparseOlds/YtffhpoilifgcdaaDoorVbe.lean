import Derived.Test.YtffhpoilifgcdaaDoorVai
import Derived.Test.YtffhpoilifgcdaaDoorVav
import Derived.Test.YtffhpoilifgcdaaDoorVas
import Derived.Test.YtffhpoilifgcdaaDoorVbd
namespace Go.Proofs.YtffhpoilifgcdaaDoor
open Go.RowKit
set_option linter.unusedVariables false
/-! ### Numbers of a record -/
theorem slx_form {X : Nat → Prop} {a : Option Addr} {n c : Nat} {b : List By} {w : World} (h : Sl X (.slice a n c) b w) (h0 : 0 < n) : ∃ g o, a = some ⟨g, o, none⟩ := by
  rcases h with ⟨a', e, rfl⟩ | ⟨g', hg, o', c', e, q1, q2, q3⟩
  · injection e with e1 e2 e3; omega
  · injection e with e1 e2 e3
    exact ⟨g', o', e1⟩
set_option maxHeartbeats 4000000 in
set_option maxRecDepth 100000 in
theorem xnumber_any {X : Nat → Prop} (w : World) (g o n c : Nat) (b : List By) (hb : Sl X (.slice (some ⟨g, o, none⟩) n c) b w) (h12 : 12 ≤ n) :
    Calls Tryd.prog 38 #[.slice (some ⟨g, o, none⟩) n c] w fun e w' => e = .returned (.tuple #[.int .i64 ((szN (b.take 12)).1 : Int), .int .i64 ((szN (b.take 12)).2 : Int)]) ∧ Hid (Nw w w') := by
  obtain ⟨P, hP⟩ : ∃ P : Ending → World → Prop, P = fun e w' => e = .returned (.tuple #[.int .i64 ((szN (b.take 12)).1 : Int), .int .i64 ((szN (b.take 12)).2 : Int)]) ∧ Hid (Nw w w') := ⟨_, rfl⟩
  rw [← hP]
  obtain ⟨hbn, k1, k2⟩ := slx_len hb
  have hs := hb.part 0 12 (by omega) h12 (by omega)
  simp only [Nat.add_zero, Nat.sub_zero, List.drop_zero] at hs
  have HN := fnumber_any w _ _ _ _ hs
  rw [numA_nv] at HN
  have HN := tHid HN
  have HF : Hid (∀ V n e, Nw w V → szN (b.take 12) = (n, e) → P (.returned (.tuple #[.int .i64 (n : Int), .int .i64 (e : Int)])) V) := fun V n e h1 h2 => by rw [hP, h2]; exact ⟨rfl, h1⟩
  clear hP hs hb hbn
  have hz := fEv_zero (b.take 12)
  have hsz : szN (b.take 12) = if fEv (b.take 12) = 0 ∧ fNv (b.take 12) < 0 then (0, 3) else ((fNv (b.take 12)).toNat, fEv (b.take 12)) := rfl
  generalize fNv (b.take 12) = N at *
  generalize fEv (b.take 12) = E at *
  generalize szN (b.take 12) = S at *
  have hci : ((12 : Nat) : Int) ≤ (c : Int) := by omega
  by_cases hE : E = 0
  · subst hE
    clear hz
    by_cases hN : N < 0
    · rw [if_pos ⟨rfl, hN⟩] at hsz
      go_enter Tryd.func38, Tryd.ntmps38
      go_wp2_with (first | (go_at_call 48; with_reducible refine HN.out.mono ?_; rintro e w1 ⟨rfl, H1⟩; have H1 := tHid H1))
      first | exact HF.out _ 0 3 H1.out hsz | (go_ret; exact HF.out _ 0 3 H1.out hsz)
    · rw [if_neg (fun h => hN h.2)] at hsz
      obtain ⟨M, rfl⟩ : ∃ M : Nat, N = (M : Int) := ⟨N.toNat, by omega⟩
      rw [Int.toNat_natCast] at hsz
      go_enter Tryd.func38, Tryd.ntmps38
      go_wp2_with (first | (go_at_call 48; with_reducible refine HN.out.mono ?_; rintro e w1 ⟨rfl, H1⟩; have H1 := tHid H1))
      first | exact HF.out _ M 0 H1.out hsz | (go_ret; exact HF.out _ M 0 H1.out hsz)
  · have hN0 := hz hE
    subst hN0
    rw [if_neg (fun h => hE h.1)] at hsz
    have hEi : ¬ ((E : Int) = 0) := by omega
    clear hz hE
    go_enter Tryd.func38, Tryd.ntmps38
    go_wp2_with (first | (go_at_call 48; with_reducible refine HN.out.mono ?_; rintro e w1 ⟨rfl, H1⟩; have H1 := tHid H1))
    first | exact HF.out _ 0 E H1.out hsz | (go_ret; exact HF.out _ 0 E H1.out hsz)
/-- The box of what is left of a slot. -/
def RsB (Rb Sb p : Nat) (w : World) : Prop := w.heap[Rb]? = some (.cells #[.slice (some ⟨Sb, p, none⟩) (24 - p) (24 - p)] 23)
def SlH (Sb : Nat) (s : List By) (w : World) : Prop := w.heap[Sb]? = some (.cells (rc s) 82)
theorem SlH.sl {Sb : Nat} {s : List By} {w : World} (h : SlH Sb s w) (hs : s.length = 24) (p : Nat) (hp : p ≤ 24) : Sl (fun k => k ≠ Sb) (.slice (some ⟨Sb, p, none⟩) (24 - p) (24 - p)) (s.drop p) w := by
  refine .inr ⟨Sb, fun h => h rfl, p, 24 - p, ?_, ?_, by omega, ?_⟩
  · rw [List.length_drop, hs]
  · rw [List.length_drop, hs]; exact Nat.le_refl _
  · have hr : Rd Sb 0 s w := fun j hj => by
      have e := rc_at s j hj
      unfold SlH at h
      simp [World.cell?, h, e]
    have := hr.drop p
    rw [Nat.zero_add] at this
    exact this
set_option maxHeartbeats 4000000 in
set_option maxRecDepth 100000 in
theorem snext_any (w : World) (Rb Sb : Nat) (s : List By) (hs : s.length = 24) (hS : SlH Sb s w) (p : Nat) (hp : p = 0 ∨ p = 12) (hR : RsB Rb Sb p w) :
    Calls Tryd.prog 56 #[.pointer (some ⟨Rb, 0, none⟩)] w fun e w' => e = .returned (.tuple #[.int .i64 ((szN ((s.drop p).take 12)).1 : Int), .int .i64 ((szN ((s.drop p).take 12)).2 : Int)]) ∧ Hid (Fr (fun k => k = Rb) w w' ∧ (p = 0 → RsB Rb Sb 12 w')) := by
  obtain ⟨P, hP⟩ : ∃ P : Ending → World → Prop, P = fun e w' => e = .returned (.tuple #[.int .i64 ((szN ((s.drop p).take 12)).1 : Int), .int .i64 ((szN ((s.drop p).take 12)).2 : Int)]) ∧ Hid (Fr (fun k => k = Rb) w w' ∧ (p = 0 → RsB Rb Sb 12 w')) := ⟨_, rfl⟩
  rw [← hP]
  have HN := tHid (xnumber_any w Sb p (24 - p) (24 - p) (s.drop p) (hS.sl hs p (by omega)) (by omega))
  have HF : Hid (∀ V, Fr (fun k => k = Rb) w V → (p = 0 → RsB Rb Sb 12 V) → P (.returned (.tuple #[.int .i64 ((szN ((s.drop p).take 12)).1 : Int), .int .i64 ((szN ((s.drop p).take 12)).2 : Int)])) V) := fun V h1 h2 => by rw [hP]; exact ⟨rfl, h1, h2⟩
  clear hP hS
  obtain ⟨c0, f0⟩ := one_cell hR
  have HR := tHid hR
  clear hR
  generalize (szN ((s.drop p).take 12)).1 = N at *
  generalize (szN ((s.drop p).take 12)).2 = E at *
  rcases hp with rfl | rfl
  · simp only [Nat.sub_zero] at HN c0
    go_enter Tryd.func56, Tryd.ntmps56
    go_upto_region 2 with (first | (go_at_call 38; with_reducible refine HN.out.mono ?_; rintro e w1 ⟨rfl, H1⟩))
    have hR1 : RsB Rb Sb 0 w1 := Nw.heap H1.out HR.out
    obtain ⟨d0, d1⟩ := one_cell hR1
    have HR2 : Hid (RsB Rb Sb 12 (w1.setCell ⟨Rb, 0, none⟩ (.slice (some ⟨Sb, 12, none⟩) 12 12))) := one_set hR1
    have HFr : Hid (Fr (fun k => k = Rb) w (w1.setCell ⟨Rb, 0, none⟩ (.slice (some ⟨Sb, 12, none⟩) 12 12))) := H1.out.any.trans (fr_set _ _ _)
    simp only [Nat.sub_zero] at d0
    clear hR1 HR
    go_wp2_with fail
    first | exact HF.out _ HFr.out (fun _ => HR2.out) | (go_ret; exact HF.out _ HFr.out (fun _ => HR2.out))
  · simp only [Nat.reduceSub] at HN c0
    go_enter Tryd.func56, Tryd.ntmps56
    go_upto_region 2 with (first | (go_at_call 38; with_reducible refine HN.out.mono ?_; rintro e w1 ⟨rfl, H1⟩))
    have hR1 : RsB Rb Sb 12 w1 := Nw.heap H1.out HR.out
    obtain ⟨d0, d1⟩ := one_cell hR1
    have HFr : Hid (∀ v, Fr (fun k => k = Rb) w (w1.setCell ⟨Rb, 0, none⟩ v)) := fun v => H1.out.any.trans (fr_set _ _ _)
    simp only [Nat.reduceSub] at d0
    clear hR1 HR
    go_wp2_with fail
    first | exact HF.out _ (HFr.out _) (fun h => by cases h) | (go_ret; exact HF.out _ (HFr.out _) (fun h => by cases h))
set_option maxHeartbeats 4000000 in
set_option maxRecDepth 100000 in
theorem snumbers_any (w : World) (s : List By) (hs : s.length = 24) : Calls Tryd.prog 47 #[.agg (rc s)] w fun e w' => ∃ Rb Sb, e = .returned (.func (.func 56) #[] #[.pointer (some ⟨Rb, 0, none⟩)]) ∧ Hid (Nw w w' ∧ w.heap.size ≤ Rb ∧ Rb < w'.heap.size ∧ Rb ≠ Sb ∧ SlH Sb s w' ∧ RsB Rb Sb 0 w') := by
  obtain ⟨P, hP⟩ : ∃ P : Ending → World → Prop, P = fun e w' => ∃ Rb Sb, e = .returned (.func (.func 56) #[] #[.pointer (some ⟨Rb, 0, none⟩)]) ∧ Hid (Nw w w' ∧ w.heap.size ≤ Rb ∧ Rb < w'.heap.size ∧ Rb ≠ Sb ∧ SlH Sb s w' ∧ RsB Rb Sb 0 w') := ⟨_, rfl⟩
  rw [← hP]
  have hf : P (.returned (.func (.func 56) #[] #[.pointer (some ⟨w.heap.size + 1, 0, none⟩)])) ((w.alloc (.cells (rc s) 82)).alloc (.cells #[.slice (some ⟨w.heap.size, 0, none⟩) 24 24] 23)) := by
    have s1 : (w.alloc (.cells (rc s) 82)).heap.size = w.heap.size + 1 := by simp
    rw [hP]
    refine ⟨_, w.heap.size, rfl, ((Fr.refl _ _).alloc _).alloc _, by omega, by simp, by omega, ?_, ?_⟩
    · exact Nw.heap ((Fr.refl _ _).alloc _) (nHeap _ _)
    · unfold RsB
      rw [← s1]
      exact nHeap _ _
  have HF := tHid hf
  clear hf hP
  generalize rc s = C at *
  go_enter Tryd.func47, Tryd.ntmps47
  go_wp2_with fail
  first | exact HF.out | (go_ret; exact HF.out)
end Go.Proofs.YtffhpoilifgcdaaDoor

namespace Go.Proofs.YtffhpoilifgcdaaDoor
open Go.RowKit
set_option linter.unusedVariables false
/-! ### told, of a slot -/
def ToB (w : World) (Rb : Nat) (r : (Nat × Nat) × Nat) (e : Ending) (V : World) : Prop := e = .returned (.tuple #[.agg #[.int .i64 (r.1.1 : Int), .int .i64 (r.1.2 : Int)], .int .i64 (r.2 : Int)]) ∧ Hid (Fr (fun k => k = Rb) w V)
set_option maxHeartbeats 16000000 in
set_option maxRecDepth 100000 in
theorem told_sl (w : World) (Rb Sb : Nat) (s : List By) (hs : s.length = 24) (hne : Rb ≠ Sb) (hS : SlH Sb s w) (hR : RsB Rb Sb 0 w) :
    Calls Tryd.prog 43 #[.func (.func 56) #[] #[.pointer (some ⟨Rb, 0, none⟩)]] w (ToB w Rb (one2 s)) := by
  obtain ⟨Q, hQ⟩ : ∃ Q : Ending → World → Prop, Q = ToB w Rb (one2 s) := ⟨_, rfl⟩
  rw [← hQ]
  have hTl : Rb < w.heap.size := (Array.getElem?_eq_some_iff.1 hR).1
  obtain ⟨RB, hRB⟩ : ∃ RB, w.heap.size = RB := ⟨_, rfl⟩
  obtain ⟨w0, hw0⟩ : ∃ w0, w.alloc (.cells #[.int .i64 0, .int .i64 0] 51) = w0 := ⟨_, rfl⟩
  have hN0 : Nw w w0 := by rw [← hw0]; exact (Fr.refl _ _).alloc _
  have hrow0 : w0.heap[RB]? = some (.cells #[.int .i64 0, .int .i64 0] 51) := by rw [← hw0, ← hRB]; exact nHeap _ _
  have HFin : Hid (∀ V (F T e : Nat), one2 s = ((F, T), e) → Fr (fun k => k = Rb ∨ k = RB) w0 V → Q (.returned (.tuple #[.agg #[.int .i64 (F : Int), .int .i64 (T : Int)], .int .i64 (e : Int)])) V) := fun V F T e h1 h2 => by
    rw [hQ, h1]
    exact ⟨rfl, hN0.any.then h2 (fun i hi => by rcases hi with h | h; exact .inl h; exact .inr (by omega))⟩
  have HRow : Hid (∀ V, Fr (fun k => k = Rb) w0 V → V.heap[RB]? = some (.cells #[.int .i64 0, .int .i64 0] 51)) := fun V hV => hV.heapv hrow0 (by omega)
  have hC1 := snext_any w0 Rb Sb s hs (Nw.heap hN0 hS) 0 (.inl rfl) (Nw.heap hN0 hR)
  rw [List.drop_zero] at hC1
  have HNum2 : Hid (∀ V, Fr (fun k => k = Rb) w0 V → RsB Rb Sb 12 V → Calls Tryd.prog 56 #[.pointer (some ⟨Rb, 0, none⟩)] V fun e w' => e = .returned (.tuple #[.int .i64 ((szN ((s.drop 12).take 12)).1 : Int), .int .i64 ((szN ((s.drop 12).take 12)).2 : Int)]) ∧ Hid (Fr (fun k => k = Rb) V w' ∧ (12 = 0 → RsB Rb Sb 12 w'))) := fun V hV h12 => snext_any V Rb Sb s hs (hV.heapv (Nw.heap hN0 hS) (fun e => hne e.symm)) 12 (.inr rfl) h12
  have hd12 : (s.drop 12).take 12 = s.drop 12 := List.take_of_length_le (by rw [List.length_drop]; omega)
  rw [hd12] at HNum2
  have HC1 := tHid hC1
  have HRB := tHid hRB
  have HW0 := tHid hw0
  have hone : one2 s = (if (szN (s.take 12)).2 ≠ 0 then ((0, 0), (szN (s.take 12)).2) else
  if (szN (s.drop 12)).2 ≠ 0 then ((0, 0), (szN (s.drop 12)).2) else
  if 9223372036854775807 - (szN (s.take 12)).1 < (szN (s.drop 12)).1 then ((0, 0), 3) else (((szN (s.take 12)).1, (szN (s.take 12)).1 + (szN (s.drop 12)).1), 0)) := rfl
  have z1 := szN_bad (s.take 12)
  have z2 := szN_bad (s.drop 12)
  have m1 := szN_le (s.take 12)
  have m2 := szN_le (s.drop 12)
  clear hQ hR hS hN0 hrow0 hRB hw0 hC1 hne hd12
  generalize szN (s.take 12) = r1 at *
  generalize szN (s.drop 12) = r2 at *
  obtain ⟨n1, e1⟩ := r1
  obtain ⟨n2, e2⟩ := r2
  simp only at HC1 HNum2 hone z1 z2 m1 m2
  by_cases he1 : e1 = 0
  · subst he1
    rw [if_neg (by simp)] at hone
    by_cases he2 : e2 = 0
    · subst he2
      rw [if_neg (by simp)] at hone
      have HAdd := tHid (fun V => add_any15 V n1 n2 m1 m2)
      by_cases hov : n1 + n2 ≤ 9223372036854775807
      · rw [if_neg (by omega)] at hone
        simp only [if_pos hov] at HAdd
        obtain ⟨T, hT⟩ : ∃ T, n1 + n2 = T := ⟨_, rfl⟩
        rw [hT] at HAdd hone
        clear hT
        go_enter Tryd.func43, Tryd.ntmps43
        go_upto_region 1 with fail
        rw [HRB.out, HW0.out]
        go_wp2_with fail
        refine HC1.out.mono ?_
        rintro e w1 ⟨rfl, H1⟩
        have HC2 := tHid (HNum2.out w1 H1.out.1 (H1.out.2 (by first | trivial | rfl)))
        go_wp2_with fail
        refine HC2.out.mono ?_
        rintro e w2 ⟨rfl, H2⟩
        have hF2 : Fr (fun k => k = Rb) w0 w2 := H1.out.1.trans H2.out.1
        have hrow := HRow.out w2 hF2
        obtain ⟨⟨v0, v1⟩, ⟨v2, v3⟩⟩ := two_cells hrow
        have hrow2 := two_set hrow (.int .i64 (n1 : Int)) (.int .i64 (T : Int))
        obtain ⟨U1, hU1⟩ : ∃ U1, w2.setCell ⟨RB, 0, none⟩ (.int .i64 (n1 : Int)) = U1 := ⟨_, rfl⟩
        obtain ⟨U2, hU2⟩ : ∃ U2, U1.setCell ⟨RB, 1, none⟩ (.int .i64 (T : Int)) = U2 := ⟨_, rfl⟩
        rw [hU1, hU2] at hrow2
        have d1 : U1.cell? ⟨RB, 1, none⟩ = w2.cell? ⟨RB, 1, none⟩ := by rw [← hU1]; exact World.cell?_setCell_other _ _ _ _ (fun e => by have := congrArg Addr.off e; simp at this)
        have d2 : U1.frozen? ⟨RB, 1, none⟩ = w2.frozen? ⟨RB, 1, none⟩ := by rw [← hU1]; exact World.frozen?_setCell _ _ _ _
        rw [v2] at d1
        rw [v3] at d2
        have hfU : Fr (fun k => k = RB) w2 U2 := by
          have f1 : Fr (fun k => k = RB) w2 U1 := by rw [← hU1]; exact (Fr.refl (fun k => k = RB) _).setCell _ _ (.inl rfl)
          rw [← hU2]
          exact f1.setCell _ _ (.inl rfl)
        have HF2 := tHid (HFin.out U2 n1 T 0 hone ((hF2.mono (fun i hi => .inl (.inl hi))).trans (hfU.mono (fun i hi => .inl (.inr hi)))))
        have HRow1 := tHid hrow2
        clear HFin HRow HNum2 HC1 HC2 H1 H2 hrow hone hF2 hrow2 hfU z1 z2
        go_wp2_with (first
          | (go_at_call 51; with_reducible refine (HAdd.out _).mono ?_; rintro e w3 ⟨rfl, rfl⟩))
        exact hretT RB rfl HRow1.out rfl HF2.out
      · rw [if_pos (by omega)] at hone
        simp only [if_neg hov] at HAdd
        go_enter Tryd.func43, Tryd.ntmps43
        go_upto_region 1 with fail
        rw [HRB.out, HW0.out]
        go_wp2_with fail
        refine HC1.out.mono ?_
        rintro e w1 ⟨rfl, H1⟩
        have HC2 := tHid (HNum2.out w1 H1.out.1 (H1.out.2 (by first | trivial | rfl)))
        go_wp2_with fail
        refine HC2.out.mono ?_
        rintro e w2 ⟨rfl, H2⟩
        have hF2 : Fr (fun k => k = Rb) w0 w2 := H1.out.1.trans H2.out.1
        have hrow := HRow.out w2 hF2
        obtain ⟨⟨v0, v1⟩, ⟨v2, v3⟩⟩ := two_cells hrow
        have s0 := setSame hrow (i := 0) (v := .int .i64 0) rfl
        have s1 := setSame hrow (i := 1) (v := .int .i64 0) rfl
        have HF2 := tHid (HFin.out w2 0 0 3 hone (hF2.mono (fun i hi => .inl (.inl hi))))
        have HRow1 := tHid hrow
        clear HFin HRow HNum2 HC1 HC2 H1 H2 hrow hone hF2 z1 z2
        go_wp2_with (first
          | (go_at_call 51; with_reducible refine (HAdd.out _).mono ?_; rintro e w3 ⟨rfl, rfl⟩))
        exact hretT RB rfl HRow1.out rfl HF2.out
    · rw [if_pos he2] at hone
      have he2i : ¬ ((e2 : Int) = 0) := by omega
      go_enter Tryd.func43, Tryd.ntmps43
      go_upto_region 1 with fail
      rw [HRB.out, HW0.out]
      go_wp2_with fail
      refine HC1.out.mono ?_
      rintro e w1 ⟨rfl, H1⟩
      have HC2 := tHid (HNum2.out w1 H1.out.1 (H1.out.2 (by first | trivial | rfl)))
      go_wp2_with fail
      refine HC2.out.mono ?_
      rintro e w2 ⟨rfl, H2⟩
      have hF2 : Fr (fun k => k = Rb) w0 w2 := H1.out.1.trans H2.out.1
      have hrow := HRow.out w2 hF2
      obtain ⟨⟨v0, v1⟩, ⟨v2, v3⟩⟩ := two_cells hrow
      have s0 := setSame hrow (i := 0) (v := .int .i64 0) rfl
      have s1 := setSame hrow (i := 1) (v := .int .i64 0) rfl
      have HF2 := tHid (HFin.out w2 0 0 e2 hone (hF2.mono (fun i hi => .inl (.inl hi))))
      have HRow1 := tHid hrow
      clear HFin HRow HNum2 HC1 HC2 H1 H2 hrow hone hF2 z1 z2
      go_wp2_with fail
      exact hretT RB rfl HRow1.out rfl HF2.out
  · rw [if_pos he1] at hone
    have he1i : ¬ ((e1 : Int) = 0) := by omega
    go_enter Tryd.func43, Tryd.ntmps43
    go_upto_region 1 with fail
    rw [HRB.out, HW0.out]
    go_wp2_with fail
    refine HC1.out.mono ?_
    rintro e w1 ⟨rfl, H1⟩
    have hrow := HRow.out w1 H1.out.1
    obtain ⟨⟨v0, v1⟩, ⟨v2, v3⟩⟩ := two_cells hrow
    have s0 := setSame hrow (i := 0) (v := .int .i64 0) rfl
    have s1 := setSame hrow (i := 1) (v := .int .i64 0) rfl
    have HF2 := tHid (HFin.out w1 0 0 e1 hone (H1.out.1.mono (fun i hi => .inl (.inl hi))))
    have HRow1 := tHid hrow
    clear HFin HRow HNum2 HC1 H1 hrow hone z1 z2
    go_wp2_with fail
    exact hretT RB rfl HRow1.out rfl HF2.out
end Go.Proofs.YtffhpoilifgcdaaDoor

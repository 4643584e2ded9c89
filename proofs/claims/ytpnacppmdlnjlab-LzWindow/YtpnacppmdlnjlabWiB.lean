import Derived.Test.YtpnacppmdlnjlabWiA
namespace Go.Proofs.Ytpnacppmdlnjlab
open Go.RowKit
set_option linter.unusedVariables false
/-- What comes behind the second Encode. -/
abbrev WRst (w : World) (vp : Value) (N lo : Nat) (gE cE : Nat) (a6 : Option Addr) (l6 c6 : Nat) (a9 : Option Addr) (l9 c9 : Nat) (w9 : World) : Prop :=
  Hid (∀ V, Nw w9 V → Calls Try.prog 7 #[.slice a6 l6 c6, .slice a9 l9 c9] V fun e w' => e = .returned (.bool true) ∧ Nw w9 w') ∧
  Hid (∀ V, Nw w9 V → ∃ a10 c10 W10, Hid (∀ ty, (Builtin.append_ #[22, 22] ty #[.slice (some ⟨V.heap.size, 0, none⟩) 0 0, .slice (some ⟨gE, lo, none⟩) 65535 (cE - lo)]).run Try.prog (V.alloc (.cells #[] 5)) = .ok (.slice a10 65535 c10) W10) ∧ Hid (Calls Try.prog 5 #[.slice a9 l9 c9, .slice a10 65535 c10, .int .i64 N] W10 fun e w11 => ∃ a11 c11, ∃ z11 : Int, e = .returned (.tuple #[.slice a11 N c11, .int .i64 z11, .int .i64 0]) ∧ Hid (Calls Try.prog 7 #[.slice a11 N c11, vp] w11 fun e w12 => e = .returned (.bool true) ∧ Nw w w12)))
/-- The second Encode's arguments, from two empty slices of one's own. -/
abbrev WTwo (V : World) (gA gB : Nat) (vp vf vd : Value) (N Fl : Nat) (R : Ending → World → Prop) : Prop :=
  ∃ aA cA X1, Hid (∀ ty, (Builtin.append_ #[22, 22] ty #[.slice (some ⟨gA, 0, none⟩) 0 0, vp]).run Try.prog V = .ok (.slice aA N cA) X1) ∧ ∃ aB cB X2, Hid (∀ ty, (Builtin.append_ #[22, 22] ty #[.slice (some ⟨gB, 0, none⟩) 0 0, vf]).run Try.prog X1 = .ok (.slice aB Fl cB) X2) ∧ ∃ aC cC X3, Hid (∀ ty, (Builtin.append_ #[22, 22] ty #[.slice aB Fl cB, vd]).run Try.prog X2 = .ok (.slice aC (Fl + 65535) cC) X3) ∧ Hid (Calls Try.prog 6 #[.slice aA N cA, .slice aC (Fl + 65535) cC] X3 R)
theorem win_two (w V : World) (hV : Nw w V) (gA gB : Nat) (hA : Ow gA (.slice (some ⟨gA, 0, none⟩) 0 0) [] V) (hB : Ow gB (.slice (some ⟨gB, 0, none⟩) 0 0) [] V) (hne : gA ≠ gB) (hgA : w.heap.size ≤ gA) (hgB : w.heap.size ≤ gB) (vp vf vd : Value) (p far D : List By) (hp : Old w vp p) (hf : Old w vf far) (hd : Old w vd D) (hpl : p.length ≤ 4194304) (hfl : far.length ≤ 140737488351232) (hD : D.length = 65535) (R : Ending → World → Prop)
    (hR : ∀ a c b w', EncOf p (far ++ D) b → Mine (fun k => k < w.heap.size) (.slice a b.length c) b w' → Nw w w' → R (.returned (.tuple #[.slice a b.length c, .int .i64 0])) w') : WTwo V gA gB vp vf vd p.length far.length R := by
  have hs := hV.size
  obtain ⟨v1, g1, X1, h1, hO1, hF1, hg1⟩ := app_any V gA _ [] hA vp p ((hp.nw hV).mono (fun _ h => h.elim)) (by simp; omega)
  rw [List.nil_append] at hO1
  have hN1 : Nw w X1 := Fr.then hV hF1 (fun k hk => .inr (by omega))
  have hO1' := hO1
  obtain ⟨xs, rfl, _⟩ := hO1'
  have hgAl := hA.lt
  have hgBl := hB.lt
  have hb1 : w.heap.size ≤ g1 ∧ g1 ≠ gB := by rcases hg1 with h | h <;> omega
  refine ⟨_, _, X1, h1, ?_⟩
  obtain ⟨v2, g2, X2, h2, hO2, hF2, hg2⟩ := app_any X1 gB _ [] (hB.kept hF1 (by show ¬ gB = gA; omega)) vf far ((hf.nw hN1).mono (fun _ h => h.elim)) (by simp; omega)
  rw [List.nil_append] at hO2
  have hN2 : Nw w X2 := Fr.then hN1 hF2 (fun k hk => .inr (by omega))
  have hO2' := hO2
  obtain ⟨ys, rfl, _⟩ := hO2'
  have hg1l := hO1.lt
  have hb2 : w.heap.size ≤ g2 ∧ g1 ≠ g2 := by
    have := hN1.size
    rcases hg2 with h | h <;> omega
  refine ⟨_, _, X2, h2, ?_⟩
  have hO12 := hO1.kept hF2 hb1.2
  obtain ⟨v3, g3, X3, h3, hO3, hF3, hg3⟩ := app_any X2 g2 _ far hO2 vd D ((hd.nw hN2).mono (fun _ h => h.elim)) (by omega)
  have hN3 : Nw w X3 := Fr.then hN2 hF3 (fun k hk => .inr (by omega))
  have hO3' := hO3
  obtain ⟨zs, rfl, _⟩ := hO3'
  have hlen : (far ++ D).length = far.length + 65535 := by rw [List.length_append, hD]
  rw [hlen] at h3 hO3
  refine ⟨_, _, X3, h3, ?_⟩
  have hO13 := hO12.kept hF3 (show ¬ g1 = g2 from hb2.2)
  show Calls _ _ _ _ _
  refine (Encode_any X3 _ _ p (far ++ D) hO13.old hO3.old hpl (by omega)).mono ?_
  rintro e w' ⟨a, c, b, rfl, k1, k2, k3⟩
  exact hR a c b w' k1 (k2.more (fun g hg => .inl (Nat.lt_of_lt_of_le hg hN3.size))) (hN3.trans k3)
/-- The whole chain, from the end's bytes on. -/
theorem win_chain (w WE : World) (hE : Nw w WE) (vp vf : Value) (p far E : List By) (hp : Old w vp p) (hf : Old w vf far) (hpl : p.length ≤ 4194304) (hfl : far.length ≤ 140737488351232) (gE cE : Nat) (hO : Ow gE (.slice (some ⟨gE, 0, none⟩) E.length cE) E WE) (hE1 : 65535 ≤ E.length) (hE2 : E.length ≤ 140737488351232) :
    ∃ a4 c4 W4, Hid (∀ ty, (Builtin.append_ #[22, 22] ty #[.slice (some ⟨WE.heap.size, 0, none⟩) 0 0, vp]).run Try.prog (WE.alloc (.cells #[] 5)) = .ok (.slice a4 p.length c4) W4) ∧ ∃ a5 c5 W5, Hid (∀ ty, (Builtin.append_ #[22, 22] ty #[.slice (some ⟨W4.heap.size, 0, none⟩) 0 0, .slice (some ⟨gE, 0, none⟩) E.length cE]).run Try.prog (W4.alloc (.cells #[] 5)) = .ok (.slice a5 E.length c5) W5) ∧ Hid (Calls Try.prog 6 #[.slice a4 p.length c4, .slice a5 E.length c5] W5 fun e w6 => ∃ a6 l6 c6, e = .returned (.tuple #[.slice a6 l6 c6, .int .i64 0]) ∧
      Hid (∃ aA cA X1, Hid (∀ ty, (Builtin.append_ #[22, 22] ty #[.slice (some ⟨w6.heap.size, 0, none⟩) 0 0, vp]).run Try.prog (w6.drew.alloc (.cells #[] 5)) = .ok (.slice aA p.length cA) X1) ∧ ∃ aB cB X2, Hid (∀ ty, (Builtin.append_ #[22, 22] ty #[.slice (some ⟨X1.heap.size, 0, none⟩) 0 0, vf]).run Try.prog (X1.alloc (.cells #[] 5)) = .ok (.slice aB far.length cB) X2) ∧ ∃ aC cC X3, Hid (∀ ty, (Builtin.append_ #[22, 22] ty #[.slice aB far.length cB, .slice (some ⟨gE, E.length - 65535, none⟩) 65535 (cE - (E.length - 65535))]).run Try.prog X2 = .ok (.slice aC (far.length + 65535) cC) X3) ∧ Hid (Calls Try.prog 6 #[.slice aA p.length cA, .slice aC (far.length + 65535) cC] X3 fun e w9 => ∃ a9 l9 c9, e = .returned (.tuple #[.slice a9 l9 c9, .int .i64 0]) ∧ WRst w vp p.length (E.length - 65535) gE cE a6 l6 c6 a9 l9 c9 w9)) ∧
      Hid (WTwo ((w6.drew.alloc (.cells #[] 5)).alloc (.cells #[] 5)) w6.heap.size (w6.heap.size + 1) vp vf (.slice (some ⟨gE, E.length - 65535, none⟩) 65535 (cE - (E.length - 65535))) p.length far.length fun e w9 => ∃ a9 l9 c9, e = .returned (.tuple #[.slice a9 l9 c9, .int .i64 0]) ∧ WRst w vp p.length (E.length - 65535) gE cE a6 l6 c6 a9 l9 c9 w9) ∧
      Hid (WTwo ((w6.drew.alloc (.cells #[] 5)).alloc (.cells #[] 5)) (w6.heap.size + 1) w6.heap.size vp vf (.slice (some ⟨gE, E.length - 65535, none⟩) 65535 (cE - (E.length - 65535))) p.length far.length fun e w9 => ∃ a9 l9 c9, e = .returned (.tuple #[.slice a9 l9 c9, .int .i64 0]) ∧ WRst w vp p.length (E.length - 65535) gE cE a6 l6 c6 a9 l9 c9 w9)) := by
  have hsE := hE.size
  obtain ⟨o, c', e0, hc1, hc2, hrd⟩ := hO.slb
  injection e0 with e1 _ e3
  injection e1 with e1
  injection e1 with _ e1
  subst e1 e3
  have hpV : ∀ {V}, Nw w V → Old V vp p := fun h => Sl.later hp h
  have hfV : ∀ {V}, Nw w V → Old V vf far := fun h => Sl.later hf h
  have hgl := hO.lt
  have hD : (E.drop (E.length - 65535)).length = 65535 := by simp; omega
  have hdV : ∀ {V}, Nw WE V → Old V (.slice (some ⟨gE, E.length - 65535, none⟩) 65535 (cE - (E.length - 65535))) (E.drop (E.length - 65535)) := fun {V} h => .inr ⟨gE, by have := h.size; omega, E.length - 65535, cE - (E.length - 65535), by rw [hD], by rw [hD]; omega, by omega, by
    have := hrd.drop (E.length - 65535)
    rw [Nat.zero_add] at this
    exact fun j hj => h.cell (this j hj)⟩
  obtain ⟨a4, c4, W4, h4, hM4, hN4⟩ := copyW WE vp p (hpV hE) (by omega)
  refine ⟨a4, c4, W4, h4, ?_⟩
  obtain ⟨a5, c5, W5, h5, hM5, hN5⟩ := copyW W4 (.slice (some ⟨gE, 0, none⟩) E.length cE) E (Sl.later hO.old hN4) (by omega)
  refine ⟨a5, c5, W5, h5, ?_⟩
  show Calls _ _ _ _ _
  refine (Encode_any W5 _ _ p E (Sl.later hM4.old hN5) hM5.old hpl (by omega)).mono ?_
  rintro e w6 ⟨a6, c6, b6, rfl, hB6, hM6, hN6⟩
  have hE6 : Nw WE w6 := (hN4.trans hN5).trans hN6
  have hw6 : Nw w w6 := hE.trans hE6
  have hwin : win E = E.drop (E.length - 65535) := rfl
  have F : ∀ {X : Nat → Prop} {v l w}, Sl X v l w → Sl (fun _ => False) v l w := fun h => h.mono (fun _ h => h.elim)
  -- what comes behind
  have hR : ∀ a c b w9, EncOf p (far ++ E.drop (E.length - 65535)) b → Mine (fun k => k < w6.heap.size) (.slice a b.length c) b w9 → Nw w6 w9 → ∃ a9 l9 c9, (Ending.returned (.tuple #[.slice a b.length c, .int .i64 0])) = .returned (.tuple #[.slice a9 l9 c9, .int .i64 0]) ∧ WRst w vp p.length (E.length - 65535) gE cE a6 b6.length c6 a9 l9 c9 w9 := by
    intro a c b w9 hb hM hN
    have hb' : EncOf p E b := hb.win (by rw [win_app far _ hD, hwin])
    obtain rfl := hB6.uniq hb'
    have hbl := hb'.bound
    have hw9 := hw6.trans hN
    refine ⟨a, _, c, rfl, ?_, ?_⟩
    · intro V hV
      have hsm := same_any V (.slice a6 b6.length c6) (.slice a b6.length c) b6 b6 (F ((hM6.nw hN).nw hV).sl) (F (hM.nw hV).sl) (by omega) (by omega)
      rw [decide_eq_true rfl] at hsm
      exact cbase hV hsm
    · intro V hV
      obtain ⟨a10, c10, W10, h10, hM10, hN10⟩ := copyW V _ (E.drop (E.length - 65535)) (hdV ((hE6.trans hN).trans hV)) (by omega)
      rw [hD] at h10 hM10
      refine ⟨a10, c10, W10, h10, ?_⟩
      show Calls _ _ _ _ _
      refine (decode_any W10 _ _ b6 (E.drop (E.length - 65535)) p.length (Sl.later hM.old (hV.trans hN10)) hM10.old (by omega) (by omega)).mono ?_
      have hbD : EncOf p (E.drop (E.length - 65535)) b6 := hb'.win (by rw [hwin, win_of _ (by omega)])
      rw [hbD.dec hpl]
      rintro e w11 ⟨a11, c11, rfl, hM11, hN11⟩
      refine ⟨a11, c11, _, rfl, ?_⟩
      have hw11 : Nw w w11 := ((hw9.trans hV).trans hN10).trans hN11
      have hsm := same_any w11 (.slice a11 p.length c11) vp p p (F hM11.sl) (F (hp.nw hw11)) (by omega) (by omega)
      rw [decide_eq_true rfl] at hsm
      show Calls _ _ _ _ _
      refine hsm.mono ?_
      rintro e w12 ⟨rfl, hN12⟩
      exact ⟨rfl, hw11.trans hN12⟩
  have hVd : Nw w6 w6.drew := (Fr.refl _ _).drew
  have hsd : w6.drew.heap.size = w6.heap.size := rfl
  have s1 : (w6.drew.alloc (.cells #[] 5)).heap.size = w6.heap.size + 1 := by simp
  have hV2 : Nw w6 ((w6.drew.alloc (.cells #[] 5)).alloc (.cells #[] 5)) := (hVd.alloc _).alloc _
  have o1 : Ow w6.heap.size (.slice (some ⟨w6.heap.size, 0, none⟩) 0 0) [] ((w6.drew.alloc (.cells #[] 5)).alloc (.cells #[] 5)) := (Ow.empty w6.drew).nw ((Fr.refl _ _).alloc _)
  have o2 : Ow (w6.heap.size + 1) (.slice (some ⟨w6.heap.size + 1, 0, none⟩) 0 0) [] ((w6.drew.alloc (.cells #[] 5)).alloc (.cells #[] 5)) := by
    have := Ow.empty (w6.drew.alloc (.cells #[] 5))
    rw [s1] at this; exact this
  refine ⟨a6, b6.length, c6, rfl, ?_, ?_, ?_⟩
  · obtain ⟨aA, cA, X1, hA1, hMA, hNA⟩ := copyW w6.drew vp p (hpV (hw6.trans hVd)) (by omega)
    refine ⟨aA, cA, X1, hA1, ?_⟩
    have hN1 : Nw w6 X1 := hVd.trans hNA
    obtain ⟨aB, cB, X2, hB1, hMB, hNB⟩ := copyW X1 vf far (hfV (hw6.trans hN1)) (by omega)
    refine ⟨aB, cB, X2, hB1, ?_⟩
    have hN2 := hN1.trans hNB
    obtain ⟨v3, X3, h3, hM3, hF3⟩ := mine_app (fun k => k < X1.heap.size) X2 (fun k hk => Nat.lt_of_lt_of_le hk hNB.size) _ far hMB _ (E.drop (E.length - 65535)) (F (hdV (hE6.trans hN2))) (by omega)
    have hN3 : Nw X1 X3 := Fr.then hNB hF3 (fun k hk => .inr (by omega))
    have hlen : (far ++ E.drop (E.length - 65535)).length = far.length + 65535 := by rw [List.length_append, hD]
    obtain ⟨aC, cC, rfl, _, _⟩ := hM3.sl.form
    rw [hlen] at h3 hM3
    refine ⟨aC, cC, X3, h3, ?_⟩
    show Calls _ _ _ _ _
    refine (Encode_any X3 _ _ p (far ++ E.drop (E.length - 65535)) (Sl.later hMA.old hN3) hM3.old hpl (by omega)).mono ?_
    rintro e w9 ⟨a, c, b, rfl, k1, k2, k3⟩
    exact hR a c b w9 k1 (k2.more (fun g hg => .inl (Nat.lt_of_lt_of_le hg (Nat.le_trans hN1.size hN3.size)))) ((hN1.trans hN3).trans k3)
  · exact win_two w6 _ hV2 _ _ o1 o2 (by omega) (Nat.le_refl _) (by omega) vp vf _ p far _ (hpV hw6) (hfV hw6) (hdV hE6) hpl hfl hD _ hR
  · exact win_two w6 _ hV2 _ _ o2 o1 (by omega) (by omega) (Nat.le_refl _) vp vf _ p far _ (hpV hw6) (hfV hw6) (hdV hE6) hpl hfl hD _ hR
end Go.Proofs.Ytpnacppmdlnjlab

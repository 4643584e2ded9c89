import Derived.Test.YtcogkhcfpgelhabGreatVfT
namespace Go.Proofs.YtcogkhcfpgelhabGreat
open Go.RowKit
set_option linter.unusedVariables false
set_option maxRecDepth 100000
variable {fb mb : Nat} {ot : Option Nat} {L : Int → Lay} {h : Hx} {q : Int → Option Pn} {cnt : Nat} {T : List Ac} {w w' : World} {X : Nat → Prop}
/-- What Read answers. -/
def rdE (q : Int → Option Pn) (n pl c : Int) : Int := match q n with
  | none => 100
  | some p => if pl < 0 ∨ c < 0 then 1 else if p.kind ≠ 2 then 106 else 0
def rdD (l : List By) (A C : Nat) : List By := (l.drop A).take C
def RdO (q : Int → Option Pn) (n pl c : Int) (w : World) (e : Ending) (w' : World) : Prop :=
  (rdE q n pl c ≠ 0 ∧ e = .returned (.tuple #[.slice none 0 0, .int .i64 (rdE q n pl c)]) ∧ Nw w w') ∨
  (rdE q n pl c = 0 ∧ ∃ p a' c' od, q n = some p ∧ e = .returned (.tuple #[.slice a' (rdD p.data pl.toNat c.toNat).length c', .int .i64 0]) ∧ OgB od (.slice a' (rdD p.data pl.toNat c.toNat).length c') (rdD p.data pl.toNat c.toNat) w' ∧ Nw w w' ∧ ∀ g, od = some g → w.heap.size ≤ g)
theorem drop_min (l : List By) (A : Nat) : l.drop (min A l.length) = l.drop A := by
  by_cases h : A ≤ l.length
  · rw [Nat.min_eq_left h]
  · rw [Nat.min_eq_right (by omega), List.drop_of_length_le (by omega), List.drop_of_length_le (by omega)]
theorem Ow.suf {g : Nat} {l : List By} {c : Nat} (hO : Ow g (.slice (some ⟨g, 0, none⟩) l.length c) l w) (m : Nat) (hm : m ≤ l.length) : SlB g (.slice (some ⟨g, m, none⟩) (l.length - m) (c - m)) (l.drop m) w := by
  obtain ⟨o, c', e, h1, h2, h3⟩ := hO.slb
  injection e with e1 _ e2
  injection e1 with e1
  injection e1 with _ e1
  subst e1 e2
  refine ⟨m, c - m, by rw [List.length_drop], by rw [List.length_drop]; omega, by omega, ?_⟩
  have := h3.drop m
  rw [Nat.zero_add] at this
  exact this
set_option maxHeartbeats 16000000 in
theorem readF_any (H : FsH fb mb ot L h q cnt T w) (n : Int) (hn64 : I64 n) (pl c : Int) (hp64 : I64 pl) (hc64 : I64 c) (hd : ∀ p, q n = some p → p.data.length ≤ 4194304) :
    Calls Tryz.prog 29 #[.pointer (some ⟨fb, 0, none⟩), .int .i64 n, .int .i64 pl, .int .i64 c] w (RdO q n pl c w) := by
  obtain ⟨P, hP⟩ : ∃ P : Ending → World → Prop, P = RdO q n pl c w := ⟨_, rfl⟩
  rw [← hP]
  have HFE : Hid (∀ er V, er ≠ 0 → rdE q n pl c = er → Nw w V → P (.returned (.tuple #[.slice none 0 0, .int .i64 er])) V) := fun er V h1 h2 hV => by
    rw [hP]
    subst h2
    exact .inl ⟨h1, rfl, hV⟩
  have c0 := H.cs.c0
  rcases option_none_iff (q n) with hqn | ⟨p, hqn⟩
  · have hl := H.look_none hn64 hqn
    have HF := tHid (HFE.out 100 w (by decide) (by unfold rdE; rw [hqn]) (Fr.refl _ _))
    clear H hP HFE
    go_enter Tryz.func29, Tryz.ntmps29
    go_wp2_with fail
    exact HF.out
  · have hl := H.look_some hn64 hqn
    have e0 : rdE q n pl c = if pl < 0 ∨ c < 0 then 1 else if p.kind ≠ 2 then 106 else 0 := by unfold rdE; rw [hqn]
    obtain ⟨dv, ev, m1, m2, _, _⟩ := (H.nd n p hqn).blk
    have x0 := (ndc_of m1).c0
    have x6 := (ndc_of m1).c6
    have hnl := (ndc_of m1).lt
    by_cases hs1 : pl < 0 ∨ c < 0
    · have HF := tHid (HFE.out 1 w (by decide) (by rw [e0, if_pos hs1]) (Fr.refl _ _))
      clear H hP HFE e0 m1 m2
      generalize (L n).ib = ib at *
      by_cases hs2 : pl < 0
      · have hsd := decide_eq_true hs2
        go_enter Tryz.func29, Tryz.ntmps29
        go_wp2_with fail
        exact HF.out
      · have hsd := decide_eq_false hs2
        have hs3 : c < 0 := hs1.resolve_left hs2
        have hse := decide_eq_true hs3
        go_enter Tryz.func29, Tryz.ntmps29
        go_wp2_with fail
        exact HF.out
    · have hs2 : ¬ pl < 0 := fun e => hs1 (.inl e)
      have hs3 : ¬ c < 0 := fun e => hs1 (.inr e)
      have hsd := decide_eq_false hs2
      have hse := decide_eq_false hs3
      rw [if_neg hs1] at e0
      by_cases hk2 : p.kind = 2
      · rw [if_neg (fun e => e hk2)] at e0
        rw [hk2] at x0
        obtain ⟨A, hA⟩ : ∃ A : Nat, pl = (A : Int) := ⟨pl.toNat, by omega⟩
        obtain ⟨C, hC⟩ : ∃ C : Nat, c = (C : Int) := ⟨c.toNat, by omega⟩
        have eA : pl.toNat = A := by omega
        have eC : c.toNat = C := by omega
        obtain ⟨m, hm⟩ : ∃ m, m = min A p.data.length := ⟨_, rfl⟩
        obtain ⟨r, hr⟩ : ∃ r, r = min C (p.data.length - m) := ⟨_, rfl⟩
        have hD : rdD p.data A C = (p.data.drop m).take r := by
          unfold rdD
          rw [← drop_min p.data A, ← hm]
          by_cases hCl : C ≤ p.data.length - m
          · rw [show r = C by omega]
          · rw [List.take_of_length_le (by rw [List.length_drop]; omega), List.take_of_length_le (by rw [List.length_drop]; omega)]
        have hdl := hd p hqn
        have hDl : (rdD p.data A C).length = r := by rw [hD, List.length_take, List.length_drop]; omega
        have HB : Hid (∀ V a' c', Nw w V → Sl (fun _ => False) (.slice a' r c') (rdD p.data A C) V → Calls Tryz.prog 40 #[.slice a' r c'] V fun e w2 => ∃ a2 c2, e = .returned (.slice a2 r c2) ∧ Hid (P (.returned (.tuple #[.slice a2 r c2, .int .i64 0])) w2)) := fun V a' c' hV hsl => by
          refine (bcl_any V a' r c' (rdD p.data A C) hDl.symm hsl (by rw [hDl]; omega)).mono ?_
          rintro e w2 ⟨a2, c2, od, rfl, h2, h3, h4⟩
          refine ⟨a2, c2, rfl, ?_⟩
          show P _ _
          rw [hP]
          have hs := hV.size
          refine .inr ⟨e0, p, a2, c2, od, hqn, by rw [eA, eC, hDl], by rw [eA, eC, hDl]; exact h2, hV.trans h3, fun g hg => by have := h4 g hg; omega⟩
        have zm : min (A : Int) (p.data.length : Int) = (m : Int) := by omega
        have hml : m ≤ p.data.length := by omega
        cases hod : (L n).od with
        | none =>
          rw [hod] at m2
          obtain ⟨rfl, hnil⟩ := m2
          have hdl0 : p.data.length = 0 := by rw [hnil]; rfl
          have hr0 : r = 0 := by omega
          have hD0 : rdD p.data A C = [] := List.eq_nil_of_length_eq_zero (by rw [hDl, hr0])
          have HB2 : Hid (∀ V, Nw w V → Calls Tryz.prog 40 #[.slice none 0 0] V fun e w2 => ∃ a2 c2, e = .returned (.slice a2 0 c2) ∧ Hid (P (.returned (.tuple #[.slice a2 0 c2, .int .i64 0])) w2)) := fun V hV => by
            have := HB.out V none 0 hV (by rw [hr0, hD0]; exact .inl ⟨none, rfl, rfl⟩)
            rw [hr0] at this
            exact this
          have zm0 : min (A : Int) 0 = 0 := by omega
          have zr0 : min (C : Int) 0 = 0 := by omega
          subst hA hC
          clear H hP HFE e0 m1 hs1 hk2 hD HB hDl hod hnil
          generalize (L n).ib = ib at *
          go_enter Tryz.func29, Tryz.ntmps29
          go_upto_region 8 with fail
          go_region
          go_wp2_with (first | (go_at_call 40; with_reducible refine (HB2.out _ ?_).mono ?_; exact (Fr.refl _ _).drew; rintro e w2 ⟨a2, c2, rfl, HF⟩))
          exact HF.out
        | some g =>
          rw [hod] at m2
          have hO : Ow g dv p.data w := m2
          obtain ⟨xs, e1, _, h3, h4, _⟩ := id hO
          obtain ⟨dc, hdc⟩ : ∃ dc, dc = xs.length := ⟨_, rfl⟩
          rw [← hdc] at e1 h3 h4
          subst e1
          obtain ⟨R, hR⟩ : ∃ R, p.data.length - m = R := ⟨_, rfl⟩
          obtain ⟨Cc, hCc⟩ : ∃ Cc, dc - m = Cc := ⟨_, rfl⟩
          have zr : min (C : Int) (R : Int) = (r : Int) := by omega
          have zm2 : (m : Int) ≤ (p.data.length : Int) := by omega
          have zm3 : (m : Int) ≤ (dc : Int) := by omega
          have zr2 : (r : Int) ≤ (Cc : Int) := by omega
          have zr3 : r ≤ Cc := by omega
          by_cases hcm : dc = m
          · have hr0 : r = 0 := by omega
            have hD0 : rdD p.data A C = [] := List.eq_nil_of_length_eq_zero (by rw [hDl, hr0])
            have HB2 : Hid (∀ V, Nw w V → Calls Tryz.prog 40 #[.slice (some ⟨g, 0, none⟩) 0 0] V fun e w2 => ∃ a2 c2, e = .returned (.slice a2 0 c2) ∧ Hid (P (.returned (.tuple #[.slice a2 0 c2, .int .i64 0])) w2)) := fun V hV => by
              have := HB.out V (some ⟨g, 0, none⟩) 0 hV (by rw [hr0, hD0]; exact .inl ⟨_, rfl, rfl⟩)
              rw [hr0] at this
              exact this
            have hR0 : p.data.length - m = 0 := by omega
            have hC0 : dc - m = 0 := by omega
            have zr0 : min (C : Int) 0 = 0 := by omega
            subst hA hC
            clear H hP HFE e0 m1 m2 hs1 hk2 hD HB hDl hod hD0 hO hR hCc zr zr2 zr3 hr hm hdc
            generalize (L n).ib = ib at *
            generalize p.data.length = dl at *
            go_enter Tryz.func29, Tryz.ntmps29
            go_upto_region 8 with fail
            go_region
            all_goals go_wp2_with (first | (go_at_call 40; with_reducible refine (HB2.out _ ?_).mono ?_; exact (Fr.refl _ _).drew; rintro e w2 ⟨a2, c2, rfl, HF⟩))
            all_goals exact HF.out
          · have hsuf := Ow.suf hO m hml
            have HB2 : Hid (∀ V, Nw w V → Calls Tryz.prog 40 #[.slice (some ⟨g, m, none⟩) r Cc] V fun e w2 => ∃ a2 c2, e = .returned (.slice a2 r c2) ∧ Hid (P (.returned (.tuple #[.slice a2 r c2, .int .i64 0])) w2)) := fun V hV => by
              refine HB.out V (some ⟨g, m, none⟩) Cc hV ?_
              obtain ⟨o, c9, e9, _, h92, h93⟩ := hsuf
              injection e9 with e91 _ e92
              injection e91 with e91
              injection e91 with _ e91
              subst e91
              refine .inr ⟨g, fun h => h, m, Cc, by rw [hDl], by rw [hDl]; exact zr3, by omega, ?_⟩
              rw [hD]
              exact (h93.take r).nw hV
            subst hA hC
            clear H hP HFE e0 m1 m2 hs1 hk2 hD HB hDl hod hO hr hm hdc hsuf
            generalize (L n).ib = ib at *
            generalize p.data.length = dl at *
            go_enter Tryz.func29, Tryz.ntmps29
            go_upto_region 8 with fail
            go_region
            all_goals go_wp2_with (first | (go_at_call 40; with_reducible refine (HB2.out _ ?_).mono ?_; exact (Fr.refl _ _).drew; rintro e w2 ⟨a2, c2, rfl, HF⟩))
            all_goals exact HF.out
      · have HF := tHid (HFE.out 106 w (by decide) (by rw [e0, if_pos hk2]) (Fr.refl _ _))
        have hkb : (p.kind == 2) = false := by rw [beq_eq_false_iff_ne]; exact hk2
        clear H hP HFE e0 m1 m2
        generalize (L n).ib = ib at *
        generalize p.kind = kd at *
        go_enter Tryz.func29, Tryz.ntmps29
        go_wp2_with fail
        exact HF.out
end Go.Proofs.YtcogkhcfpgelhabGreat

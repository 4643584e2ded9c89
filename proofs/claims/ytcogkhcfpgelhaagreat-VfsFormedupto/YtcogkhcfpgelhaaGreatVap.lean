import Derived.Test.YtcogkhcfpgelhaaGreatVao
import Derived.Lib.MinMax
import Derived.Laws.Tables
namespace Go.Proofs.YtcogkhcfpgelhaaGreat
open Go.RowKit
set_option linter.unusedVariables false
set_option maxRecDepth 100000
variable {fb mb : Nat} {ot : Option Nat} {L : Int → Lay} {h : Hx} {q : Int → Option Pn} {cnt : Nat} {T : List Ac} {w w' : World} {X : Nat → Prop}
/-- Bytes written over a file's. -/
def wrD (l : List By) (A : Nat) (b : List By) : List By := if b = [] then l else ovl (rszD l (max l.length (A + b.length))) A b
def wrH (h : Hx) (p : Pn) (A : Nat) (b : List By) : Hx := if b = [] then h else rszH h p (max p.data.length (A + b.length))
/-- What Write answers. -/
def wrE (h : Hx) (q : Int → Option Pn) (n pl : Int) (b : List By) : Int := match q n with
  | none => 100
  | some p => if pl < 0 ∨ 4194304 < pl ∨ 4194304 - pl < (b.length : Int) then 1 else if p.kind ≠ 2 then 106 else if b ≠ [] ∧ h.bytes - h.held < max (p.data.length : Int) (pl + (b.length : Int)) - (p.data.length : Int) then 105 else 0
def WrO (fb mb : Nat) (ot : Option Nat) (L : Int → Lay) (h : Hx) (q : Int → Option Pn) (cnt : Nat) (T : List Ac) (n pl : Int) (b : List By) (w : World) (e : Ending) (w' : World) : Prop :=
  (wrE h q n pl b ≠ 0 ∧ e = .returned (.int .i64 (wrE h q n pl b)) ∧ Nw w w') ∨
  (wrE h q n pl b = 0 ∧ e = .returned (.int .i64 0) ∧ ∃ p, q n = some p ∧ MutO fb mb ot L q (wrH h p pl.toNat b) (fun j => if j = n then some { p with data := wrD p.data pl.toNat b } else q j) cnt (T ++ [⟨5, 0, [], n, 0, [], pl, b.length⟩]) w w')
section
attribute [local go_sem ↓] cpyV_fold
set_option maxHeartbeats 16000000 in
theorem write_any (H : FsH fb mb ot L h q cnt T w) (hT : T.length ≤ 2000000000000) (n : Int) (hn64 : I64 n) (pl : Int) (hp64 : I64 pl) (ba : Option Addr) (cb : Nat) (b : List By) (hsl : Sl (fun k => Bk fb mb ot L q k ∨ w.heap.size ≤ k) (.slice ba b.length cb) b w) (hd : ∀ p, q n = some p → p.data.length ≤ 4194304) (hh : 0 ≤ h.held ∧ h.held ≤ 1000000000000) (hb : 0 ≤ h.bytes ∧ h.bytes ≤ 1000000000000) :
    Calls Tryz.prog 58 #[.pointer (some ⟨fb, 0, none⟩), .int .i64 n, .int .i64 pl, .slice ba b.length cb] w (WrO fb mb ot L h q cnt T n pl b w) := by
  obtain ⟨P, hP⟩ : ∃ P : Ending → World → Prop, P = WrO fb mb ot L h q cnt T n pl b w := ⟨_, rfl⟩
  rw [← hP]
  have HFE : Hid (∀ er V, er ≠ 0 → wrE h q n pl b = er → Nw w V → P (.returned (.int .i64 er)) V) := fun er V h1 h2 hV => by
    rw [hP]
    subst h2
    exact .inl ⟨h1, rfl, hV⟩
  have c0 := H.cs.c0
  have hbl := hsl.length
  rcases option_none_iff (q n) with hqn | ⟨p, hqn⟩
  · have hl := H.look_none hn64 hqn
    have e1 : wrE h q n pl b = 100 := by unfold wrE; rw [hqn]
    have HF := tHid (HFE.out 100 w (by decide) e1 (Fr.refl _ _))
    clear H hP HFE hsl
    go_enter Tryz.func58, Tryz.ntmps58
    go_wp2_with fail
    exact HF.out
  · have hl := H.look_some hn64 hqn
    have e0 : wrE h q n pl b = if pl < 0 ∨ 4194304 < pl ∨ 4194304 - pl < (b.length : Int) then 1 else if p.kind ≠ 2 then 106 else if b ≠ [] ∧ h.bytes - h.held < max (p.data.length : Int) (pl + (b.length : Int)) - (p.data.length : Int) then 105 else 0 := by unfold wrE; rw [hqn]
    obtain ⟨dv, ev, m1, m2, _, _⟩ := (H.nd n p hqn).blk
    have x0 := (ndc_of m1).c0
    have x6 := (ndc_of m1).c6
    by_cases hs1 : pl < 0 ∨ 4194304 < pl ∨ 4194304 - pl < (b.length : Int)
    · have HF := tHid (HFE.out 1 w (by decide) (by rw [e0, if_pos hs1]) (Fr.refl _ _))
      clear H hP HFE e0 hsl m1 m2
      generalize (L n).ib = ib at *
      generalize b.length = bl at *
      by_cases hs2 : pl < 0
      · have hsd := decide_eq_true hs2
        go_enter Tryz.func58, Tryz.ntmps58
        go_wp2_with fail
        exact HF.out
      · have hsd := decide_eq_false hs2
        by_cases hs3 : 4194304 < pl
        · have hse := decide_eq_true hs3
          go_enter Tryz.func58, Tryz.ntmps58
          go_wp2_with fail
          exact HF.out
        · have hse := decide_eq_false hs3
          have hs4 : 4194304 - pl < (bl : Int) := (hs1.resolve_left hs2).resolve_left hs3
          have hsf := decide_eq_true hs4
          have hw4 : IntKind.i64.wrap (4194304 - pl) = 4194304 - pl := by rw [IntKind.wrap_i64]; omega
          go_enter Tryz.func58, Tryz.ntmps58
          go_wp2_with fail
          exact HF.out
    · have hs2 : ¬ pl < 0 := fun e => hs1 (.inl e)
      have hs3 : ¬ 4194304 < pl := fun e => hs1 (.inr (.inl e))
      have hs4 : ¬ 4194304 - pl < (b.length : Int) := fun e => hs1 (.inr (.inr e))
      have hsd := decide_eq_false hs2
      have hse := decide_eq_false hs3
      have hsf := decide_eq_false hs4
      have hw4 : IntKind.i64.wrap (4194304 - pl) = 4194304 - pl := by rw [IntKind.wrap_i64]; omega
      rw [if_neg hs1] at e0
      by_cases hk2 : p.kind = 2
      · rw [if_neg (fun e => e hk2)] at e0
        rw [hk2] at x0
        obtain ⟨A, hA⟩ : ∃ A : Nat, pl = (A : Int) := ⟨pl.toNat, by omega⟩
        by_cases hb0 : b = []
        · rw [if_neg (fun e => e.1 hb0)] at e0
          have HD : Hid (Calls Tryz.prog 97 #[.pointer (some ⟨fb, 0, none⟩), .agg #[.int .i64 5, .int .i64 0, .string ⟨#[]⟩, .int .i64 n, .int .i64 0, .string ⟨#[]⟩, .int .i64 pl, .int .i64 0]] w fun e w4 => (∃ r, e = .returned r) ∧ Hid (P (.returned (.int .i64 0)) w4)) := by
            show Calls _ _ _ _ _
            refine Calls.mono (did_any H hT ⟨5, 0, [], n, 0, [], pl, 0⟩) ?_
            rintro e w4 ⟨hr4, ot', H4, f4, ho⟩
            refine ⟨hr4, ?_⟩
            show P _ _
            rw [hP]
            refine .inr ⟨e0, rfl, p, hqn, ?_⟩
            have e5 : (fun j => if j = n then some { p with data := wrD p.data pl.toNat b } else q j) = q := by
              funext j
              by_cases hj : j = n
              · rw [if_pos hj, hj, hqn]; unfold wrD; rw [if_pos hb0]
              · rw [if_neg hj]
            have e6 : wrH h p pl.toNat b = h := by unfold wrH; rw [if_pos hb0]
            rw [e5, e6, hb0]
            exact MutO.of (X := fun _ => False) (fun k x hx => ⟨x, hx, rfl⟩) (Fr.refl _ _) (fun k e => e.elim) H4 f4 ho
          subst hb0
          simp only [List.length_nil] at *
          clear H hP HFE e0 m1 m2 hsl hk2 hA hs1
          generalize (L n).ib = ib at *
          go_enter Tryz.func58, Tryz.ntmps58
          go_wp2_with (first | (go_at_call 97; with_reducible refine HD.out.mono ?_; rintro e w4 ⟨⟨r4, rfl⟩, HF⟩))
          exact HF.out
        · have hbp : 0 < b.length := List.length_pos_iff.2 hb0
          obtain ⟨AB, hAB⟩ : ∃ AB, AB = A + b.length := ⟨_, rfl⟩
          obtain ⟨M, hM⟩ : ∃ M, M = max p.data.length AB := ⟨_, rfl⟩
          have hdl := hd p hqn
          have zab : (A : Int) + (b.length : Int) = (AB : Int) := by omega
          have zM : max (p.data.length : Int) (AB : Int) = (M : Int) := by omega
          have hM1 : AB ≤ M := by omega
          have hM2 : M ≤ 4194304 := by omega
          obtain ⟨da, dc, rfl, hdc1, hdc2⟩ := m2.form
          rw [hA, zab, zM] at e0
          have HR : Hid (Calls Tryz.prog 96 #[.pointer (some ⟨fb, 0, none⟩), .pointer (some ⟨(L n).ib, 0, none⟩), .int .i64 M] w fun e w2 => (∃ c, c ≠ 0 ∧ e = .returned (.int .i64 c) ∧ Hid (P (.returned (.int .i64 c)) w2)) ∨ (e = .returned (.int .i64 0) ∧ ∃ g c, w2.cell? ⟨(L n).ib, 6, none⟩ = some (.slice (some ⟨g, 0, none⟩) M c) ∧ M ≤ c ∧ c < 9223372036854775808 ∧ ∃ W3, (∀ ty, (cpyV #[34, 34] ty #[.slice (some ⟨g, A, none⟩) (M - A) (c - A), .slice ba b.length cb]).run Tryz.prog w2 = .ok (.int .i64 b.length) W3) ∧ Hid (Calls Tryz.prog 97 #[.pointer (some ⟨fb, 0, none⟩), .agg #[.int .i64 5, .int .i64 0, .string ⟨#[]⟩, .int .i64 n, .int .i64 0, .string ⟨#[]⟩, .int .i64 A, .int .i64 b.length]] W3 fun e w4 => (∃ r, e = .returned r) ∧ Hid (P (.returned (.int .i64 0)) w4)))) := by
            show Calls _ _ _ _ _
            refine Calls.mono (resize_any H hqn M hM2 hdl hh hb) ?_
            rintro e w2 (⟨hm, rfl, hV⟩ | ⟨hm, rfl, L', H2, f2, hL⟩)
            · exact .inl ⟨105, by decide, rfl, HFE.out 105 w2 (by decide) (by rw [hA, e0, if_pos ⟨hb0, hm⟩]) hV⟩
            · refine .inr ⟨rfl, ?_⟩
              have hq2 : (if n = n then some (rszP p M) else q n) = some (rszP p M) := if_pos rfl
              have hlen : (rszP p M).data.length = M := rszD_len _ _
              obtain ⟨dv3, ev3, n1, n2, _, _⟩ := (H2.nd n (rszP p M) hq2).blk
              obtain ⟨l1, l2, l3⟩ := hL n
              rw [l1] at n1
              have hod : ∃ g c, (L' n).od = some g ∧ dv3 = .slice (some ⟨g, 0, none⟩) M c ∧ M ≤ c ∧ c < 9223372036854775808 := by
                cases hod : (L' n).od with
                | none =>
                  rw [hod] at n2
                  have := n2.2
                  rw [this] at hlen
                  simp at hlen; omega
                | some g =>
                  rw [hod] at n2
                  obtain ⟨xs, e1, _, e3, e4, _⟩ := (n2 : Ow g _ _ _)
                  rw [hlen] at e1 e3
                  exact ⟨g, xs.length, rfl, e1, e3, e4⟩
              obtain ⟨g, c, hog, rfl, hc1, hc2⟩ := hod
              rw [hog] at n2
              have n3 : Ow g (.slice (some ⟨g, 0, none⟩) (rszP p M).data.length c) (rszP p M).data w2 := by rw [hlen]; exact n2
              have hX : ∀ k, (k = fb ∨ k = (L n).ib ∨ (L n).od = some k) → Bk fb mb ot L q k := fun k hk => by
                rcases hk with rfl | rfl | hk
                · exact .inl rfl
                · exact .inr (.inr (.inr ⟨n, p, hqn, .inl rfl⟩))
                · exact .inr (.inr (.inr ⟨n, p, hqn, .inr (.inr hk)⟩))
              have hbs : Sl (fun _ => False) (.slice ba b.length cb) b w2 := (hsl.kept f2 (fun k hk => .inl (hX k hk))).mono (fun _ h => h.elim)
              have hba : ∃ ad, ba = some ad := by
                rcases hsl with ⟨a', e, hl0⟩ | ⟨g', _, o, c', e, _⟩
                · exact absurd hl0 hb0
                · injection e with e
                  exact ⟨_, e⟩
              obtain ⟨ad, rfl⟩ := hba
              obtain ⟨W3, r1, r2, r3⟩ := cpy_data g (rszP p M).data c n3 A b (by rw [hlen]; omega) ad cb hbs
              rw [hlen] at r1
              refine ⟨g, c, (rc n1 6 _ rfl).1, hc1, hc2, W3, r1, ?_⟩
              have x6' : w2.cell? ⟨(L' n).ib, 6, none⟩ = some (.slice (some ⟨g, 0, none⟩) M c) := by rw [l1]; exact (rc n1 6 _ rfl).1
              rw [hlen] at r2
              have H3 := cpy_set H2 hq2 hog r3 (d' := ovl (rszP p M).data A b) x6' r2
              refine Calls.mono (did_any H3 hT ⟨5, 0, [], n, 0, [], (A : Int), b.length⟩) ?_
              rintro e w4 ⟨hr4, ot', H4, f4, ho⟩
              refine ⟨hr4, ?_⟩
              show P _ _
              rw [hP]
              refine .inr ⟨by rw [hA, e0, if_neg (fun e => hm e.2)], rfl, p, hqn, ?_⟩
              have eA : pl.toNat = A := by omega
              have e6 : wrH h p pl.toNat b = rszH h p M := by unfold wrH; rw [if_neg hb0, eA, hM, hAB]
              have e7 : (fun j => if j = n then some { p with data := wrD p.data pl.toNat b } else q j) = fun j => if j = n then some { rszP p M with data := ovl (rszP p M).data A b } else (if j = n then some (rszP p M) else q j) := by
                funext j
                by_cases hj : j = n
                · rw [if_pos hj, if_pos hj]
                  unfold wrD
                  rw [if_neg hb0, eA, ← hAB, ← hM]; rfl
                · rw [if_neg hj, if_neg hj, if_neg hj]
              rw [e6, e7, hA]
              have hgB : Bk fb mb ot L q g ∨ w.heap.size ≤ g := by
                rcases l3 g hog with e | e
                · exact .inl (hX g (.inr (.inr e)))
                · exact .inr e
              refine MutO.ofL (X := fun k => Bk fb mb ot L q k ∨ w.heap.size ≤ k) hL ?_ ((f2.mono (fun k hk => .inl (.inl (hX k hk)))).trans (r3.mono (fun k hk => .inl (by rw [hk]; exact hgB)))) (fun k hk => hk) H4 f4 ho
              intro k x hx
              by_cases hkn : k = n
              · rw [if_pos hkn] at hx
                injection hx with hx
                exact ⟨p, by rw [hkn]; exact hqn, by rw [← hx]; rfl⟩
              · rw [if_neg hkn, if_neg hkn] at hx
                exact ⟨x, hx, rfl⟩
          have zw1 : IntKind.i64.wrap (AB : Int) = (AB : Int) := by rw [IntKind.wrap_i64]; omega
          have hbi : (0 : Int) < (b.length : Int) := by omega
          have hbd := decide_eq_true hbi
          have zA1 : A ≤ M := by omega
          have zA2 : (A : Int) ≤ (M : Int) := by omega
          have zA3 : A < M := by omega
          subst hA
          clear H hP HFE e0 m1 m2 hsl hk2 hs1 hAB hM hd hb0 hqn
          generalize (L n).ib = ib at *
          generalize b.length = bl at *
          generalize p.data.length = dl at *
          go_enter Tryz.func58, Tryz.ntmps58
          go_wp2_with fail
          go_at_call 96
          with_reducible refine HR.out.mono ?_
          rintro e w2 (⟨c, hc, rfl, HF⟩ | ⟨rfl, g, c, x62, hc1, hc2, W3, hcp, HD⟩)
          · have hcb : (c == 0) = false := by rw [beq_eq_false_iff_ne]; exact hc
            go_wp2_with fail
            exact HF.out
          · have hcA : ¬ c = A := by omega
            have hcA2 : (A : Int) ≤ (c : Int) := by omega
            go_wp2_with (first | (go_at_call 97; with_reducible refine HD.out.mono ?_; rintro e w4 ⟨⟨r4, rfl⟩, HF⟩))
            exact HF.out
      · have HF := tHid (HFE.out 106 w (by decide) (by rw [e0, if_pos hk2]) (Fr.refl _ _))
        have hkb : (p.kind == 2) = false := by rw [beq_eq_false_iff_ne]; exact hk2
        clear H hP HFE e0 hsl m1 m2
        generalize (L n).ib = ib at *
        generalize p.kind = kd at *
        generalize b.length = bl at *
        go_enter Tryz.func58, Tryz.ntmps58
        go_wp2_with fail
        exact HF.out
end
end Go.Proofs.YtcogkhcfpgelhaaGreat

namespace Go.Proofs.YtcogkhcfpgelhaaGreat
open Go.RowKit
set_option linter.unusedVariables false
set_option maxRecDepth 100000
variable {fb mb : Nat} {ot : Option Nat} {L : Int → Lay} {h : Hx} {q : Int → Option Pn} {cnt : Nat} {T : List Ac} {w w' : World} {X : Nat → Prop}
/-- What Read answers. -/
def rdE (q : Int → Option Pn) (n pl c : Int) : Int := match q n with
  | none => 100
  | some p => if pl < 0 ∨ c < 0 then 1 else if p.kind ≠ 2 then 106 else 0
def rdD (l : List By) (A C : Nat) : List By := (l.drop A).take C
def RdO (q : Int → Option Pn) (n pl c : Int) (w : World) (e : Ending) (w' : World) : Prop :=
  (rdE q n pl c ≠ 0 ∧ e = .returned (.tuple #[.slice none 0 0, .int .i64 (rdE q n pl c)]) ∧ Nw w w') ∨
  (rdE q n pl c = 0 ∧ ∃ p a' c' od, q n = some p ∧ e = .returned (.tuple #[.slice a' (rdD p.data pl.toNat c.toNat).length c', .int .i64 0]) ∧ OgB od (.slice a' (rdD p.data pl.toNat c.toNat).length c') (rdD p.data pl.toNat c.toNat) w' ∧ Nw w w' ∧ ∀ g, od = some g → w.heap.size ≤ g)
theorem drop_min (l : List By) (A : Nat) : l.drop (min A l.length) = l.drop A := by
  by_cases h : A ≤ l.length
  · rw [Nat.min_eq_left h]
  · rw [Nat.min_eq_right (by omega), List.drop_of_length_le (by omega), List.drop_of_length_le (by omega)]
theorem Ow.suf {g : Nat} {l : List By} {c : Nat} (hO : Ow g (.slice (some ⟨g, 0, none⟩) l.length c) l w) (m : Nat) (hm : m ≤ l.length) : SlB g (.slice (some ⟨g, m, none⟩) (l.length - m) (c - m)) (l.drop m) w := by
  obtain ⟨o, c', e, h1, h2, h3⟩ := hO.slb
  injection e with e1 _ e2
  injection e1 with e1
  injection e1 with _ e1
  subst e1 e2
  refine ⟨m, c - m, by rw [List.length_drop], by rw [List.length_drop]; omega, by omega, ?_⟩
  have := h3.drop m
  rw [Nat.zero_add] at this
  exact this
set_option maxHeartbeats 16000000 in
theorem readF_any (H : FsH fb mb ot L h q cnt T w) (n : Int) (hn64 : I64 n) (pl c : Int) (hp64 : I64 pl) (hc64 : I64 c) (hd : ∀ p, q n = some p → p.data.length ≤ 4194304) :
    Calls Tryz.prog 39 #[.pointer (some ⟨fb, 0, none⟩), .int .i64 n, .int .i64 pl, .int .i64 c] w (RdO q n pl c w) := by
  obtain ⟨P, hP⟩ : ∃ P : Ending → World → Prop, P = RdO q n pl c w := ⟨_, rfl⟩
  rw [← hP]
  have HFE : Hid (∀ er V, er ≠ 0 → rdE q n pl c = er → Nw w V → P (.returned (.tuple #[.slice none 0 0, .int .i64 er])) V) := fun er V h1 h2 hV => by
    rw [hP]
    subst h2
    exact .inl ⟨h1, rfl, hV⟩
  have c0 := H.cs.c0
  rcases option_none_iff (q n) with hqn | ⟨p, hqn⟩
  · have hl := H.look_none hn64 hqn
    have HF := tHid (HFE.out 100 w (by decide) (by unfold rdE; rw [hqn]) (Fr.refl _ _))
    clear H hP HFE
    go_enter Tryz.func39, Tryz.ntmps39
    go_wp2_with fail
    exact HF.out
  · have hl := H.look_some hn64 hqn
    have e0 : rdE q n pl c = if pl < 0 ∨ c < 0 then 1 else if p.kind ≠ 2 then 106 else 0 := by unfold rdE; rw [hqn]
    obtain ⟨dv, ev, m1, m2, _, _⟩ := (H.nd n p hqn).blk
    have x0 := (ndc_of m1).c0
    have x6 := (ndc_of m1).c6
    have hnl := (ndc_of m1).lt
    by_cases hs1 : pl < 0 ∨ c < 0
    · have HF := tHid (HFE.out 1 w (by decide) (by rw [e0, if_pos hs1]) (Fr.refl _ _))
      clear H hP HFE e0 m1 m2
      generalize (L n).ib = ib at *
      by_cases hs2 : pl < 0
      · have hsd := decide_eq_true hs2
        go_enter Tryz.func39, Tryz.ntmps39
        go_wp2_with fail
        exact HF.out
      · have hsd := decide_eq_false hs2
        have hs3 : c < 0 := hs1.resolve_left hs2
        have hse := decide_eq_true hs3
        go_enter Tryz.func39, Tryz.ntmps39
        go_wp2_with fail
        exact HF.out
    · have hs2 : ¬ pl < 0 := fun e => hs1 (.inl e)
      have hs3 : ¬ c < 0 := fun e => hs1 (.inr e)
      have hsd := decide_eq_false hs2
      have hse := decide_eq_false hs3
      rw [if_neg hs1] at e0
      by_cases hk2 : p.kind = 2
      · rw [if_neg (fun e => e hk2)] at e0
        rw [hk2] at x0
        obtain ⟨A, hA⟩ : ∃ A : Nat, pl = (A : Int) := ⟨pl.toNat, by omega⟩
        obtain ⟨C, hC⟩ : ∃ C : Nat, c = (C : Int) := ⟨c.toNat, by omega⟩
        have eA : pl.toNat = A := by omega
        have eC : c.toNat = C := by omega
        obtain ⟨m, hm⟩ : ∃ m, m = min A p.data.length := ⟨_, rfl⟩
        obtain ⟨r, hr⟩ : ∃ r, r = min C (p.data.length - m) := ⟨_, rfl⟩
        have hD : rdD p.data A C = (p.data.drop m).take r := by
          unfold rdD
          rw [← drop_min p.data A, ← hm]
          by_cases hCl : C ≤ p.data.length - m
          · rw [show r = C by omega]
          · rw [List.take_of_length_le (by rw [List.length_drop]; omega), List.take_of_length_le (by rw [List.length_drop]; omega)]
        have hdl := hd p hqn
        have hDl : (rdD p.data A C).length = r := by rw [hD, List.length_take, List.length_drop]; omega
        have HB : Hid (∀ V a' c', Nw w V → Sl (fun _ => False) (.slice a' r c') (rdD p.data A C) V → Calls Tryz.prog 68 #[.slice a' r c'] V fun e w2 => ∃ a2 c2, e = .returned (.slice a2 r c2) ∧ Hid (P (.returned (.tuple #[.slice a2 r c2, .int .i64 0])) w2)) := fun V a' c' hV hsl => by
          refine (bcl_any V a' r c' (rdD p.data A C) hDl.symm hsl (by rw [hDl]; omega)).mono ?_
          rintro e w2 ⟨a2, c2, od, rfl, h2, h3, h4⟩
          refine ⟨a2, c2, rfl, ?_⟩
          show P _ _
          rw [hP]
          have hs := hV.size
          refine .inr ⟨e0, p, a2, c2, od, hqn, by rw [eA, eC, hDl], by rw [eA, eC, hDl]; exact h2, hV.trans h3, fun g hg => by have := h4 g hg; omega⟩
        have zm : min (A : Int) (p.data.length : Int) = (m : Int) := by omega
        have hml : m ≤ p.data.length := by omega
        cases hod : (L n).od with
        | none =>
          rw [hod] at m2
          obtain ⟨rfl, hnil⟩ := m2
          have hdl0 : p.data.length = 0 := by rw [hnil]; rfl
          have hr0 : r = 0 := by omega
          have hD0 : rdD p.data A C = [] := List.eq_nil_of_length_eq_zero (by rw [hDl, hr0])
          have HB2 : Hid (∀ V, Nw w V → Calls Tryz.prog 68 #[.slice none 0 0] V fun e w2 => ∃ a2 c2, e = .returned (.slice a2 0 c2) ∧ Hid (P (.returned (.tuple #[.slice a2 0 c2, .int .i64 0])) w2)) := fun V hV => by
            have := HB.out V none 0 hV (by rw [hr0, hD0]; exact .inl ⟨none, rfl, rfl⟩)
            rw [hr0] at this
            exact this
          have zm0 : min (A : Int) 0 = 0 := by omega
          have zr0 : min (C : Int) 0 = 0 := by omega
          subst hA hC
          clear H hP HFE e0 m1 hs1 hk2 hD HB hDl hod hnil
          generalize (L n).ib = ib at *
          go_enter Tryz.func39, Tryz.ntmps39
          go_upto_region 8 with fail
          go_region
          go_wp2_with (first | (go_at_call 68; with_reducible refine (HB2.out _ ?_).mono ?_; exact (Fr.refl _ _).drew; rintro e w2 ⟨a2, c2, rfl, HF⟩))
          exact HF.out
        | some g =>
          rw [hod] at m2
          have hO : Ow g dv p.data w := m2
          obtain ⟨xs, e1, _, h3, h4, _⟩ := id hO
          obtain ⟨dc, hdc⟩ : ∃ dc, dc = xs.length := ⟨_, rfl⟩
          rw [← hdc] at e1 h3 h4
          subst e1
          obtain ⟨R, hR⟩ : ∃ R, p.data.length - m = R := ⟨_, rfl⟩
          obtain ⟨Cc, hCc⟩ : ∃ Cc, dc - m = Cc := ⟨_, rfl⟩
          have zr : min (C : Int) (R : Int) = (r : Int) := by omega
          have zm2 : (m : Int) ≤ (p.data.length : Int) := by omega
          have zm3 : (m : Int) ≤ (dc : Int) := by omega
          have zr2 : (r : Int) ≤ (Cc : Int) := by omega
          have zr3 : r ≤ Cc := by omega
          by_cases hcm : dc = m
          · have hr0 : r = 0 := by omega
            have hD0 : rdD p.data A C = [] := List.eq_nil_of_length_eq_zero (by rw [hDl, hr0])
            have HB2 : Hid (∀ V, Nw w V → Calls Tryz.prog 68 #[.slice (some ⟨g, 0, none⟩) 0 0] V fun e w2 => ∃ a2 c2, e = .returned (.slice a2 0 c2) ∧ Hid (P (.returned (.tuple #[.slice a2 0 c2, .int .i64 0])) w2)) := fun V hV => by
              have := HB.out V (some ⟨g, 0, none⟩) 0 hV (by rw [hr0, hD0]; exact .inl ⟨_, rfl, rfl⟩)
              rw [hr0] at this
              exact this
            have hR0 : p.data.length - m = 0 := by omega
            have hC0 : dc - m = 0 := by omega
            have zr0 : min (C : Int) 0 = 0 := by omega
            subst hA hC
            clear H hP HFE e0 m1 m2 hs1 hk2 hD HB hDl hod hD0 hO hR hCc zr zr2 zr3 hr hm hdc
            generalize (L n).ib = ib at *
            generalize p.data.length = dl at *
            go_enter Tryz.func39, Tryz.ntmps39
            go_upto_region 8 with fail
            go_region
            all_goals go_wp2_with (first | (go_at_call 68; with_reducible refine (HB2.out _ ?_).mono ?_; exact (Fr.refl _ _).drew; rintro e w2 ⟨a2, c2, rfl, HF⟩))
            all_goals exact HF.out
          · have hsuf := Ow.suf hO m hml
            have HB2 : Hid (∀ V, Nw w V → Calls Tryz.prog 68 #[.slice (some ⟨g, m, none⟩) r Cc] V fun e w2 => ∃ a2 c2, e = .returned (.slice a2 r c2) ∧ Hid (P (.returned (.tuple #[.slice a2 r c2, .int .i64 0])) w2)) := fun V hV => by
              refine HB.out V (some ⟨g, m, none⟩) Cc hV ?_
              obtain ⟨o, c9, e9, _, h92, h93⟩ := hsuf
              injection e9 with e91 _ e92
              injection e91 with e91
              injection e91 with _ e91
              subst e91
              refine .inr ⟨g, fun h => h, m, Cc, by rw [hDl], by rw [hDl]; exact zr3, by omega, ?_⟩
              rw [hD]
              exact (h93.take r).nw hV
            subst hA hC
            clear H hP HFE e0 m1 m2 hs1 hk2 hD HB hDl hod hO hr hm hdc hsuf
            generalize (L n).ib = ib at *
            generalize p.data.length = dl at *
            go_enter Tryz.func39, Tryz.ntmps39
            go_upto_region 8 with fail
            go_region
            all_goals go_wp2_with (first | (go_at_call 68; with_reducible refine (HB2.out _ ?_).mono ?_; exact (Fr.refl _ _).drew; rintro e w2 ⟨a2, c2, rfl, HF⟩))
            all_goals exact HF.out
      · have HF := tHid (HFE.out 106 w (by decide) (by rw [e0, if_pos hk2]) (Fr.refl _ _))
        have hkb : (p.kind == 2) = false := by rw [beq_eq_false_iff_ne]; exact hk2
        clear H hP HFE e0 m1 m2
        generalize (L n).ib = ib at *
        generalize p.kind = kd at *
        go_enter Tryz.func39, Tryz.ntmps39
        go_wp2_with fail
        exact HF.out
end Go.Proofs.YtcogkhcfpgelhaaGreat

namespace Go.Proofs.YtcogkhcfpgelhaaGreat
open Go.RowKit
set_option linter.unusedVariables false
set_option maxRecDepth 100000
variable {fb mb : Nat} {ot : Option Nat} {L : Int → Lay} {h : Hx} {q : Int → Option Pn} {cnt : Nat} {T : List Ac} {w w' : World} {X : Nat → Prop}
def sizN (p : Pn) : Nat := p.data.length + p.ne + p.tgt.length
set_option maxHeartbeats 4000000 in
theorem size_any (H : FsH fb mb ot L h q cnt T w) (n : Int) {p : Pn} (hn : q n = some p) (hs : p.data.length ≤ 1000000000000000 ∧ p.ne ≤ 1000000000000000 ∧ p.tgt.length ≤ 1000000000000000) : Calls Tryz.prog 78 #[.pointer (some ⟨(L n).ib, 0, none⟩)] w fun e w' => e = .returned (.int .i64 (sizN p)) ∧ ∃ m, w' = w.drewN m := by
  obtain ⟨P, hP⟩ : ∃ P : Ending → World → Prop, P = fun e w' => e = .returned (.int .i64 (sizN p)) ∧ ∃ m, w' = w.drewN m := ⟨_, rfl⟩
  rw [← hP]
  obtain ⟨dv, ev, k1, k2, k3, k4⟩ := (H.nd n p hn).blk
  obtain ⟨da, dc, rfl, _, _⟩ := k2.form
  have hC := ndc_of k1
  have x6 := hC.c6
  have x7 := hC.c7
  have x8 := hC.c8
  have hsz := mk_size p.tgt
  obtain ⟨S1, hS1⟩ : ∃ S1, S1 = p.data.length + p.ne := ⟨_, rfl⟩
  obtain ⟨S2, hS2⟩ : ∃ S2, S2 = S1 + p.tgt.length := ⟨_, rfl⟩
  have HF : Hid (∀ m, P (.returned (.int .i64 (S2 : Nat))) (w.drewN m)) := fun m => by rw [hP]; exact ⟨by unfold sizN; rw [hS2, hS1], m, rfl⟩
  have hlen : ∀ m ty, (Builtin.len_ #[102] ty #[ev]).run Tryz.prog (w.drewN m) = .ok (.int .i64 p.ne) (w.drewN m) := fun m ty => by
    by_cases hk : p.kind = 1
    · rw [(k3 hk).1]
      exact ((k3 hk).2.nw ((Fr.refl _ _).drewN m)).len meOk ty
    · rw [(k4 hk).1, (k4 hk).2.1]
      exact len_nil' meOk (w.drewN m) ty
  have z1 : (p.data.length : Int) + (p.ne : Int) = (S1 : Int) := by omega
  have z2 : (S1 : Int) + (p.tgt.length : Int) = (S2 : Int) := by omega
  have hw1 : IntKind.i64.wrap (S1 : Int) = (S1 : Int) := by rw [IntKind.wrap_i64]; omega
  have hw2 : IntKind.i64.wrap (S2 : Int) = (S2 : Int) := by rw [IntKind.wrap_i64]; omega
  rw [← hsz] at z2
  have HEV : Hid (∃ o, ev = .map o) := by
    by_cases hk : p.kind = 1
    · exact ⟨_, (k3 hk).1⟩
    · exact ⟨_, (k4 hk).1⟩
  clear H k1 k2 k3 k4 hP hC hS1 hS2 hsz
  obtain ⟨o, rfl⟩ := HEV.out
  generalize (L n).ib = ib at *
  generalize p.data.length = dl at *
  generalize mk p.tgt = tt at *
  generalize p.ne = ne at *
  go_enter Tryz.func78, Tryz.ntmps78
  go_upto_region 1 with fail
  go_quiet (fail)
  go_wp2_with fail
  exact HF.out _
end Go.Proofs.YtcogkhcfpgelhaaGreat

namespace Go.Proofs.YtcogkhcfpgelhaaGreat
open Go.RowKit
set_option linter.unusedVariables false
set_option maxRecDepth 100000
variable {fb mb : Nat} {ot : Option Nat} {L : Int → Lay} {h : Hx} {q : Int → Option Pn} {cnt : Nat} {T : List Ac} {w w' : World} {X : Nat → Prop}
def stoV (t : TypeId) (a v : Value) : Sem Unit := Instr.storeAt t a v
theorem stoV_fold (t : TypeId) (a v : Value) : Instr.storeAt t a v = stoV t a v := rfl
theorem stoV_row (w : World) (g : Nat) (t ty : TypeId) (old cells : Array Value) (hg : w.heap[g]? = some (.cells old t (0, 0))) (hi : (Tryz.prog.info? ty).map (·.size) = some cells.size) (ho : old.size = cells.size) (h1 : cells.all (·.oneCell') = true) :
    (stoV ty (.pointer (some ⟨g, 0, none⟩)) (.agg cells)).run Tryz.prog w = .ok () (w.setRow g cells) := by
  unfold stoV
  simp only [Instr.storeAt, Instr.sureAddr, Sem.run_bind, Sem.run_pure, Result.andThen_ok, run_storeVar_row w g t ty old cells hg hi ho h1]
/-- What Stat tells. -/
abbrev stC (n : Int) (p : Pn) : Array Value := #[.int .i64 n, .int .i64 p.kind, .int .u32 p.mt.mode, .int .u32 p.mt.uid, .int .u32 p.mt.gid, .int .i64 p.mt.time, .int .i32 p.mt.nano, .int .i64 p.links, .int .i64 (sizN p)]
abbrev stZ : Array Value := #[.int .i64 0, .int .i64 0, .int .u32 0, .int .u32 0, .int .u32 0, .int .i64 0, .int .i32 0, .int .i64 0, .int .i64 0]
def stV (q : Int → Option Pn) (n : Int) : Value := match q n with
  | none => .tuple #[.agg stZ, .int .i64 100]
  | some p => .tuple #[.agg (stC n p), .int .i64 0]
theorem sret {R : Ending → World → Prop} {a : Act} {w : World} {row : Array Value} {v5 : Value} (rs : Nat) (h4 : a.tmps.getD 4 undef = .pointer (some ⟨rs, 0, none⟩)) (h5 : a.tmps.getD 5 undef = v5) (hrow : w.heap[rs]? = some (.cells row 79)) (hsz : row.size = 9) (hd : a.defers = []) (hR : R (.returned (.tuple #[.agg row, v5])) w) : bodyPost Tryz.prog Tryz.f37 R .ret a w := by
  have hi : (Tryz.prog.info? 79).map (·.size) = some row.size := by rw [hsz]; kernel_rfl
  have hl := run_loadVar_row (P := Tryz.prog) w rs 79 79 row (0, 0) _ hrow Tryz.underlying79 rfl hi
  have hp4 : a.tmps[4]?.getD undef = .pointer (some ⟨rs, 0, none⟩) := by simpa using h4
  have hp5 : a.tmps[5]?.getD undef = v5 := by simpa using h5
  refine bodyPost_ret ?_ hd hR
  simp [results, hp4, hp5, asAddr, hl]
section
attribute [local go_sem ↓] stoV_fold
set_option maxHeartbeats 8000000 in
theorem stat_any (H : FsH fb mb ot L h q cnt T w) (n : Int) (hn64 : I64 n) (hs : ∀ p, q n = some p → p.data.length ≤ 1000000000000000 ∧ p.ne ≤ 1000000000000000 ∧ p.tgt.length ≤ 1000000000000000) : Calls Tryz.prog 37 #[.pointer (some ⟨fb, 0, none⟩), .int .i64 n] w fun e w' => e = .returned (stV q n) ∧ Nw w w' := by
  obtain ⟨P, hP⟩ : ∃ P : Ending → World → Prop, P = fun e w' => e = .returned (stV q n) ∧ Nw w w' := ⟨_, rfl⟩
  rw [← hP]
  obtain ⟨V, hV⟩ : ∃ V, V = w.alloc (.cells stZ 79) := ⟨_, rfl⟩
  have hN : Nw w V := by rw [hV]; exact (Fr.refl _ _).alloc _
  have HV := H.nw hN
  have c0 := HV.cs.c0
  have hrb : V.heap[w.heap.size]? = some (.cells stZ 79) := by rw [hV]; exact nh _ _
  obtain ⟨rb, hrb2⟩ : ∃ rb, rb = w.heap.size := ⟨_, rfl⟩
  rw [← hrb2] at hrb
  have HW := tHid hV
  have HW2 := tHid hrb2
  rcases option_none_iff (q n) with hqn | ⟨p, hqn⟩
  · have hl := HV.look_none hn64 hqn
    have hst := stoV_row V rb 79 79 stZ stZ hrb (by kernel_rfl) rfl (by simp [Value.oneCell'])
    have HF : Hid (P (.returned (.tuple #[.agg stZ, .int .i64 100])) (V.setRow rb stZ)) := by
      show P _ _
      rw [hP]
      exact ⟨by unfold stV; rw [hqn], hN.setRow _ _ (.inr (by omega))⟩
    have hrow := setRow_heap V rb _ stZ 79 _ hrb
    have HROW := tHid hrow
    clear H HV hP hV hN hrow hrb hrb2
    unfold stZ at hst
    go_enter Tryz.func37, Tryz.ntmps37
    go_upto_region 1 with fail
    rw [← HW.out, ← HW2.out]
    clear HW HW2
    go_wp2_with fail
    exact sret (v5 := .int .i64 100) rb (by first | rfl | simp [Act.put]) (by first | rfl | simp [Act.put]) HROW.out rfl rfl HF.out
  · have hl := HV.look_some hn64 hqn
    obtain ⟨dv, ev, k1, k2, k3, k4⟩ := (HV.nd n p hqn).blk
    have x0 := (rc k1 0 _ rfl).1
    have x1 := (rc k1 1 _ rfl).1
    have x2 := (rc k1 2 _ rfl).1
    have x3 := (rc k1 3 _ rfl).1
    have x4 := (rc k1 4 _ rfl).1
    have x5 := (rc k1 5 _ rfl).1
    have x9 := (rc k1 9 _ rfl).1
    have HS : Hid (∀ k, Calls Tryz.prog 78 #[.pointer (some ⟨(L n).ib, 0, none⟩)] (V.drewN k) fun e w' => e = .returned (.int .i64 (sizN p)) ∧ ∃ m, w' = V.drewN m) := fun k => by
      refine (size_any (HV.nw ((Fr.refl _ _).drewN k)) n hqn (hs p hqn)).mono ?_
      rintro e w' ⟨rfl, m, rfl⟩
      exact ⟨rfl, k + m, by rw [World.drewN_drewN]⟩
    have hst := fun k => stoV_row (V.drewN k) rb 79 79 stZ (stC n p) hrb (by kernel_rfl) rfl (by simp [Value.oneCell'])
    have HF : Hid (∀ k, P (.returned (.tuple #[.agg (stC n p), .int .i64 0])) ((V.drewN k).setRow rb (stC n p))) := fun k => by
      show P _ _
      rw [hP]
      exact ⟨by unfold stV; rw [hqn], (hN.drewN k).setRow _ _ (.inr (by omega))⟩
    have HROW : Hid (∀ k, ((V.drewN k).setRow rb (stC n p)).heap[rb]? = some (.cells (stC n p) 79)) := fun k => setRow_heap (V.drewN k) rb _ (stC n p) 79 _ hrb
    obtain ⟨SS, hSS⟩ : ∃ SS : World → Prop, SS = fun W => W.cell? ⟨(L n).ib, 0, none⟩ = some (.int .i64 p.kind) ∧ W.cell? ⟨(L n).ib, 1, none⟩ = some (.int .u32 p.mt.mode) ∧ W.cell? ⟨(L n).ib, 2, none⟩ = some (.int .u32 p.mt.uid) ∧ W.cell? ⟨(L n).ib, 3, none⟩ = some (.int .u32 p.mt.gid) ∧ W.cell? ⟨(L n).ib, 4, none⟩ = some (.int .i64 p.mt.time) ∧ W.cell? ⟨(L n).ib, 5, none⟩ = some (.int .i32 p.mt.nano) ∧ W.cell? ⟨(L n).ib, 9, none⟩ = some (.int .i64 p.links) := ⟨_, rfl⟩
    have hne0 : ¬ (L n).ib = rb := by have := H.lt _ (.inr (.inr (.inr ⟨n, p, hqn, .inl rfl⟩))); omega
    have HSA : Hid (∀ k, SS (V.drewN k)) := fun k => by rw [hSS]; exact ⟨x0, x1, x2, x3, x4, x5, x9⟩
    have HSB : Hid (∀ k, SS ((V.drewN k).setRow rb (stC n p))) := fun k => by
      have f : Fr (fun b => b = rb) V ((V.drewN k).setRow rb (stC n p)) := ((Fr.refl (fun b => b = rb) V).drewN k).setRow rb _ (.inl rfl)
      rw [hSS]
      exact ⟨f.cellv x0 hne0, f.cellv x1 hne0, f.cellv x2 hne0, f.cellv x3 hne0, f.cellv x4 hne0, f.cellv x5 hne0, f.cellv x9 hne0⟩
    rw [hSS] at HSA HSB
    clear hSS
    clear SS
    have hne : ¬ (L n).ib = rb := by have := H.lt _ (.inr (.inr (.inr ⟨n, p, hqn, .inl rfl⟩))); omega
    clear H HV hP hV hN hrb hrb2 k1 k2 k3 k4
    unfold stC at *
    generalize (L n).ib = ib at *
    go_enter Tryz.func37, Tryz.ntmps37
    go_upto_region 1 with fail
    rw [← HW.out, ← HW2.out]
    clear HW HW2
    go_upto_region 4 with fail
    go_region_held3 (fun W => W.cell? ⟨ib, 0, none⟩ = some (.int .i64 p.kind) ∧ W.cell? ⟨ib, 1, none⟩ = some (.int .u32 p.mt.mode) ∧ W.cell? ⟨ib, 2, none⟩ = some (.int .u32 p.mt.uid) ∧ W.cell? ⟨ib, 3, none⟩ = some (.int .u32 p.mt.gid) ∧ W.cell? ⟨ib, 4, none⟩ = some (.int .i64 p.mt.time) ∧ W.cell? ⟨ib, 5, none⟩ = some (.int .i32 p.mt.nano) ∧ W.cell? ⟨ib, 9, none⟩ = some (.int .i64 p.links))
      (first | exact HSA.out _ | exact HSA.out 1 | exact HSB.out _)
      (first | (go_at_call 78; refine (HS.out _).mono ?_; rintro e w5 ⟨rfl, m, rfl⟩) | (go_at_call 78; refine (HS.out 1).mono ?_; rintro e w5 ⟨rfl, m, rfl⟩))
    all_goals go_wp2_with fail
    all_goals exact sret (v5 := .int .i64 0) rb (by first | rfl | simp [Act.put]) (by first | rfl | simp [Act.put]) (HROW.out m) rfl rfl (HF.out m)
end
end Go.Proofs.YtcogkhcfpgelhaaGreat

namespace Go.Proofs.YtcogkhcfpgelhaaGreat
open Go.RowKit
set_option linter.unusedVariables false
set_option maxRecDepth 100000
variable {fb mb : Nat} {ot : Option Nat} {L : Int → Lay} {h : Hx} {q : Int → Option Pn} {cnt : Nat} {T : List Ac} {w w' : World} {X : Nat → Prop}
set_option maxHeartbeats 4000000 in
theorem cloneA_any (w : World) (a : Option Addr) (n c : Nat) (og : Option Nat) (l : List Ac) (hn : n = l.length) (hO : OgR RAc og (.slice a n c) l w) (hl : n ≤ 1000000000000) :
    Calls Tryz.prog 74 #[.slice a n c] w fun e w' => ∃ a' c' og', e = .returned (.slice a' n c') ∧ OgR RAc og' (.slice a' n c') l w' ∧ Nw w w' ∧ ∀ g, og' = some g → w.heap.size ≤ g := by
  obtain ⟨P, hP⟩ : ∃ P : Ending → World → Prop, P = fun e w' => ∃ a' c' og', e = .returned (.slice a' n c') ∧ OgR RAc og' (.slice a' n c') l w' ∧ Nw w w' ∧ ∀ g, og' = some g → w.heap.size ≤ g := ⟨_, rfl⟩
  rw [← hP]
  cases og with
  | none =>
    obtain ⟨e, rfl⟩ := hO
    injection e with e1 e2 e3
    subst e1 e2 e3
    have HF : Hid (P (.returned (.slice none 0 0)) w) := by rw [hP]; exact ⟨none, 0, none, rfl, ⟨rfl, rfl⟩, Fr.refl _ _, fun g hg => by cases hg⟩
    have hnil : ∀ w, (binOp BinOp.eql 68 (.slice none 0 0) (.slice none 0 0)).run Tryz.prog w = .ok (.bool true) w := fun _ => by kernel_rfl
    clear hP hn hl
    go_enter Tryz.func74, Tryz.ntmps74
    go_wp2_with fail
    exact HF.out
  | some g =>
    have hO2 : OwR RAc g (.slice a n c) l w := hO
    obtain ⟨c2, e, _, _⟩ := hO2.form
    injection e with e1 e2 e3
    subst e1 e3
    have hN : Nw w (w.alloc (.cells #[] 129)) := (Fr.refl _ _).alloc _
    obtain ⟨v', g', W, k1, k2, k3, k4⟩ := owR_app racOk (w.alloc (.cells #[] RAc.T)) w.heap.size _ [] (OwR.empty w) (.slice (some ⟨g, 0, none⟩) n c) l (((hO2.nw hN).slr racOk).mono (fun _ h => h.elim)) (by simp only [RAc, List.length_nil]; omega) (by simp only [List.length_nil]; omega)
    rw [List.nil_append] at k2
    obtain ⟨c', e2', _, _⟩ := k2.form
    rw [← hn] at e2'
    subst e2'
    have HF : Hid (P (.returned (.slice (some ⟨g', 0, none⟩) n c')) W) := by
      show P _ _
      rw [hP]
      refine ⟨_, _, some g', rfl, k2, Fr.then hN k3 (fun i hi => .inr (by omega)), fun g2 hg => ?_⟩
      injection hg with hg
      subst hg
      rcases k4 with h | h
      · omega
      · have : (w.alloc (.cells #[] RAc.T)).heap.size = w.heap.size + 1 := by simp
        omega
    have HAP : Hid (∀ ty, (Builtin.append_ #[68, 68] ty #[.slice (some ⟨w.heap.size, 0, none⟩) 0 0, .slice (some ⟨g, 0, none⟩) n c]).run Tryz.prog (w.alloc (.cells #[] 129)) = .ok (.slice (some ⟨g', 0, none⟩) n c') W) := k1
    clear k1 k2 k3 k4 hP hO hO2 hN hn e2
    have hnil : ∀ w, (binOp BinOp.eql 68 (.slice (some ⟨g, 0, none⟩) n c) (.slice none 0 0)).run Tryz.prog w = .ok (.bool false) w := fun _ => by kernel_rfl
    go_enter Tryz.func74, Tryz.ntmps74
    go_wp2_with (first
      | (at_builtin; refine Lib.wpList_append_run _ rfl _ _ 68 68 rfl (.slice (some ⟨w.heap.size, 0, none⟩) 0 0) (.slice (some ⟨g, 0, none⟩) n c) (by simp [Act.eval]) (by simp [Act.eval]) _ _ (HAP.out _) ?_))
    exact HF.out
set_option maxHeartbeats 4000000 in
theorem trace_any (H : FsH fb mb ot L h q cnt T w) (hT : T.length ≤ 1000000000000) : Calls Tryz.prog 30 #[.pointer (some ⟨fb, 0, none⟩)] w fun e w' => ∃ a' c' og', e = .returned (.slice a' T.length c') ∧ OgR RAc og' (.slice a' T.length c') T w' ∧ Nw w w' ∧ ∀ g, og' = some g → w.heap.size ≤ g := by
  obtain ⟨P, hP⟩ : ∃ P : Ending → World → Prop, P = fun e w' => ∃ a' c' og', e = .returned (.slice a' T.length c') ∧ OgR RAc og' (.slice a' T.length c') T w' ∧ Nw w w' ∧ ∀ g, og' = some g → w.heap.size ≤ g := ⟨_, rfl⟩
  rw [← hP]
  obtain ⟨tv, h1, h2⟩ := H.blk
  obtain ⟨a, c, rfl, _, _⟩ := h2.form
  have x5 := (rc h1 5 _ rfl).1
  have HC : Hid (Calls Tryz.prog 74 #[.slice a T.length c] w fun e w' => ∃ a' c', e = .returned (.slice a' T.length c') ∧ Hid (P (.returned (.slice a' T.length c')) w')) := by
    refine Calls.mono (cloneA_any w a T.length c ot T rfl h2 hT) ?_
    rintro e w' ⟨a', c', og', rfl, k⟩
    exact ⟨a', c', rfl, by show P _ _; rw [hP]; exact ⟨a', c', og', rfl, k⟩⟩
  clear H hP h1 h2
  generalize T.length = N at *
  go_enter Tryz.func30, Tryz.ntmps30
  go_wp2_with (first | (go_at_call 74; with_reducible refine HC.out.mono ?_; rintro e w2 ⟨a', c', rfl, HF⟩))
  exact HF.out
/-! ### The root alone -/
abbrev rootC : Array Value := #[.int .i64 1, .int .i64 1, .int .u32 0, .int .u32 0, .int .u32 0, .int .i64 0, .int .i32 0, .slice none 0 0, .string ⟨#[]⟩, .slice none 0 0]
def newOk (nodes bytes : Int) : Bool := decide (1 ≤ nodes) && decide (nodes ≤ 4096) && decide (0 ≤ bytes) && decide (bytes ≤ 4194304)
set_option maxHeartbeats 8000000 in
theorem bounds_root (nodes bytes : Int) (lb : Nat) (w : World) : Calls Tryz.prog 70 #[.agg #[.int .i64 nodes, .int .i64 bytes, .int .i64 2, .slice (some ⟨lb, 0, none⟩) 1 1]] w fun e w' => e = .returned (.bool (newOk nodes bytes)) ∧ Nw w w' := by
  obtain ⟨P, hP⟩ : ∃ P : Ending → World → Prop, P = fun e w' => e = .returned (.bool (newOk nodes bytes)) ∧ Nw w w' := ⟨_, rfl⟩
  rw [← hP]
  have HF : Hid (∀ V, Nw w V → P (.returned (.bool (newOk nodes bytes))) V) := fun V hV => by rw [hP]; exact ⟨rfl, hV⟩
  unfold newOk at HF
  clear hP
  by_cases h1 : 1 ≤ nodes
  · by_cases h2 : nodes ≤ 4096
    · by_cases h3 : 0 ≤ bytes
      · by_cases h4 : bytes ≤ 4194304
        · rw [decide_eq_true h1, decide_eq_true h2, decide_eq_true h3, decide_eq_true h4] at HF
          simp only [Bool.and_self] at HF
          have d1 := decide_eq_true h1
          have d2 := decide_eq_true h2
          have d3 := decide_eq_true h3
          have d4 := decide_eq_true h4
          go_enter Tryz.func70, Tryz.ntmps70
          go_wp2_with fail
          exact HF.out _ ((Fr.refl _ _).alloc _)
        · rw [decide_eq_true h1, decide_eq_true h2, decide_eq_true h3, decide_eq_false h4] at HF
          simp only [Bool.and_false] at HF
          have d1 := decide_eq_true h1
          have d2 := decide_eq_true h2
          have d3 := decide_eq_true h3
          have d4 := decide_eq_false h4
          go_enter Tryz.func70, Tryz.ntmps70
          go_wp2_with fail
          exact HF.out _ ((Fr.refl _ _).alloc _)
      · rw [decide_eq_true h1, decide_eq_true h2, decide_eq_false h3] at HF
        simp only [Bool.and_false, Bool.false_and] at HF
        have d1 := decide_eq_true h1
        have d2 := decide_eq_true h2
        have d3 := decide_eq_false h3
        go_enter Tryz.func70, Tryz.ntmps70
        go_wp2_with fail
        exact HF.out _ ((Fr.refl _ _).alloc _)
    · rw [decide_eq_true h1, decide_eq_false h2] at HF
      simp only [Bool.and_false, Bool.false_and] at HF
      have d1 := decide_eq_true h1
      have d2 := decide_eq_false h2
      go_enter Tryz.func70, Tryz.ntmps70
      go_wp2_with fail
      exact HF.out _ ((Fr.refl _ _).alloc _)
  · rw [decide_eq_false h1] at HF
    simp only [Bool.false_and] at HF
    have d1 := decide_eq_false h1
    go_enter Tryz.func70, Tryz.ntmps70
    go_wp2_with fail
    exact HF.out _ ((Fr.refl _ _).alloc _)
set_option maxHeartbeats 4000000 in
theorem entries_nil (w : World) : Calls Tryz.prog 131 #[.slice none 0 0] w fun e w' => e = .returned (.bool true) ∧ w = w' := by
  obtain ⟨P, hP⟩ : ∃ P : Ending → World → Prop, P = fun e w' => e = .returned (.bool true) ∧ w = w' := ⟨_, rfl⟩
  rw [← hP]
  have HF : Hid (P (.returned (.bool true)) w) := by rw [hP]; exact ⟨rfl, rfl⟩
  clear hP
  go_enter Tryz.func131, Tryz.ntmps131
  go_wp2_with fail
  go_loopg [8] 0 (fun kx i wr => i = .int .i64 0 ∧ wr = w)
  case atStart => exact ⟨rfl, rfl⟩
  case round =>
    obtain ⟨rfl, rfl⟩ := hrel
    go_wp2_with fail
    exact HF.out
set_option maxHeartbeats 4000000 in
theorem inode_root (w : World) : Calls Tryz.prog 111 #[.agg rootC] w fun e w' => e = .returned (.bool true) ∧ Nw w w' := by
  obtain ⟨P, hP⟩ : ∃ P : Ending → World → Prop, P = fun e w' => e = .returned (.bool true) ∧ Nw w w' := ⟨_, rfl⟩
  rw [← hP]
  have HF : Hid (∀ V, Nw w V → P (.returned (.bool true)) V) := fun V hV => by rw [hP]; exact ⟨rfl, hV⟩
  clear hP
  obtain ⟨V, hV⟩ : ∃ V, V = w.alloc (.cells rootC 58) := ⟨_, rfl⟩
  have hN : Nw w V := by rw [hV]; exact (Fr.refl _ _).alloc _
  have hc : ∀ j v, rootC[j]? = some v → V.cell? ⟨w.heap.size, j, none⟩ = some v := fun j v hv => by rw [hV]; exact (rc (nh w _) j v hv).1
  have c0 := hc 0 _ rfl
  have c1 := hc 1 _ rfl
  have c2 := hc 2 _ rfl
  have c3 := hc 3 _ rfl
  have c4 := hc 4 _ rfl
  have c5 := hc 5 _ rfl
  have c6 := hc 6 _ rfl
  have c7 := hc 7 _ rfl
  have c8 := hc 8 _ rfl
  have c9 := hc 9 _ rfl
  have HE : Hid (∀ W, Calls Tryz.prog 131 #[.slice none 0 0] W fun e w' => e = .returned (.bool true) ∧ W = w') := entries_nil
  have HM : Hid (∀ W, Calls Tryz.prog 104 #[.agg #[.int .u32 0, .int .u32 0, .int .u32 0, .int .i64 0, .int .i32 0]] W fun e w' => e = .returned (.bool true) ∧ Hid (Nw W w')) := fun W => isMeta_int 0 0 0 0 0 W
  have HW := tHid hV
  clear hc hV
  unfold rootC
  go_enter Tryz.func111, Tryz.ntmps111
  go_upto_region 1 with fail
  rw [← HW.out]
  clear HW
  go_quiet (fail)
  go_wp2_with (first | (go_at_call 131; with_reducible refine (HE.out _).mono ?_; rintro e w2 ⟨rfl, rfl⟩) | (go_at_call 104; with_reducible refine (HM.out _).mono ?_; rintro e w3 ⟨rfl, H3⟩))
  exact HF.out _ ((hN.drewN _).trans H3.out)
end Go.Proofs.YtcogkhcfpgelhaaGreat

namespace Go.Proofs.YtcogkhcfpgelhaaGreat
open Go.RowKit
set_option linter.unusedVariables false
set_option maxRecDepth 100000
variable {fb mb : Nat} {ot : Option Nat} {L : Int → Lay} {h : Hx} {q : Int → Option Pn} {cnt : Nat} {T : List Ac} {w w' : World} {X : Nat → Prop}
set_option maxHeartbeats 4000000 in
theorem lookup_any (H : FsH fb mb ot L h q cnt T w) (d : Int) (hd64 : I64 d) (s : Tx) (hs : s.length ≤ 140737488351232) (hzero : ∀ p n, q d = some p → p.ents s = some n → n ≠ 0) : Calls Tryz.prog 22 #[.pointer (some ⟨fb, 0, none⟩), .int .i64 d, .string (mk s)] w fun e w' => e = .returned (.tuple #[.int .i64 (fndQ q d s).1, .int .i64 (fndQ q d s).2]) ∧ Nw w w' := by
  obtain ⟨P, hP⟩ : ∃ P : Ending → World → Prop, P = fun e w' => e = .returned (.tuple #[.int .i64 (fndQ q d s).1, .int .i64 (fndQ q d s).2]) ∧ Nw w w' := ⟨_, rfl⟩
  rw [← hP]
  have HC : Hid (Calls Tryz.prog 73 #[.pointer (some ⟨fb, 0, none⟩), .agg #[.int .i64 d, .string (mk s)]] w fun e w' => e = .returned (.tuple #[.int .i64 (fndQ q d s).1, .int .i64 (fndQ q d s).2]) ∧ Hid (P (.returned (.tuple #[.int .i64 (fndQ q d s).1, .int .i64 (fndQ q d s).2])) w')) := by
    refine Calls.mono (found_any H d hd64 s hs hzero) ?_
    rintro e w' ⟨rfl, hN⟩
    exact ⟨rfl, by show P _ _; rw [hP]; exact ⟨rfl, hN⟩⟩
  clear H hP hzero
  generalize (fndQ q d s).1 = x1 at *
  generalize (fndQ q d s).2 = x2 at *
  generalize mk s = ss at *
  go_enter Tryz.func22, Tryz.ntmps22
  go_wp2_with (first | (go_at_call 73; with_reducible refine HC.out.mono ?_; rintro e w2 ⟨rfl, HF⟩))
  exact HF.out
/-- What directory answers. -/
def dirE (q : Int → Option Pn) (d : Int) : Int := match q d with | none => 100 | some p => if p.kind = 1 then 0 else 101
def dirV (L : Int → Lay) (q : Int → Option Pn) (d : Int) : Value := if dirE q d = 0 then .pointer (some ⟨(L d).ib, 0, none⟩) else .pointer none
set_option maxHeartbeats 4000000 in
theorem directory_any (H : FsH fb mb ot L h q cnt T w) (d : Int) (hd64 : I64 d) : Calls Tryz.prog 77 #[.pointer (some ⟨fb, 0, none⟩), .int .i64 d] w fun e w' => e = .returned (.tuple #[dirV L q d, .int .i64 (dirE q d)]) ∧ w = w' := by
  obtain ⟨P, hP⟩ : ∃ P : Ending → World → Prop, P = fun e w' => e = .returned (.tuple #[dirV L q d, .int .i64 (dirE q d)]) ∧ w = w' := ⟨_, rfl⟩
  rw [← hP]
  have HF : Hid (P (.returned (.tuple #[dirV L q d, .int .i64 (dirE q d)])) w) := by rw [hP]; exact ⟨rfl, rfl⟩
  clear hP
  have c0 := H.cs.c0
  cases hq : q d with
  | none =>
    have hl := H.look_none hd64 hq
    have e : dirE q d = 100 := by unfold dirE; rw [hq]
    have e2 : dirV L q d = .pointer none := by unfold dirV; rw [e]; rfl
    rw [e, e2] at HF
    clear H e e2
    go_enter Tryz.func77, Tryz.ntmps77
    go_wp2_with fail
    exact HF.out
  | some p =>
    have hl := H.look_some hd64 hq
    obtain ⟨dv, ev, hC⟩ := H.anyC hq
    have x0 := hC.c0
    by_cases hk : p.kind = 1
    · have e : dirE q d = 0 := by unfold dirE; rw [hq]; exact if_pos hk
      have e2 : dirV L q d = .pointer (some ⟨(L d).ib, 0, none⟩) := by unfold dirV; rw [e]; rfl
      rw [e, e2] at HF
      rw [hk] at x0
      clear H e e2 hC
      generalize (L d).ib = ib at *
      go_enter Tryz.func77, Tryz.ntmps77
      go_wp2_with fail
      exact HF.out
    · have e : dirE q d = 101 := by unfold dirE; rw [hq]; exact if_neg hk
      have e2 : dirV L q d = .pointer none := by unfold dirV; rw [e]; rfl
      rw [e, e2] at HF
      have hkb : (p.kind != 1) = true := by simp [hk]
      clear H e e2 hC
      generalize (L d).ib = ib at *
      generalize p.kind = kd at *
      go_enter Tryz.func77, Tryz.ntmps77
      go_wp2_with fail
      exact HF.out
/-- What Up answers. -/
def upQ (q : Int → Option Pn) (d : Int) : Int × Int := match q d with | none => (0, 100) | some p => if p.kind = 1 then (p.up, 0) else (0, 101)
set_option maxHeartbeats 4000000 in
theorem up_any (H : FsH fb mb ot L h q cnt T w) (d : Int) (hd64 : I64 d) : Calls Tryz.prog 32 #[.pointer (some ⟨fb, 0, none⟩), .int .i64 d] w fun e w' => e = .returned (.tuple #[.int .i64 (upQ q d).1, .int .i64 (upQ q d).2]) ∧ w = w' := by
  obtain ⟨P, hP⟩ : ∃ P : Ending → World → Prop, P = fun e w' => e = .returned (.tuple #[.int .i64 (upQ q d).1, .int .i64 (upQ q d).2]) ∧ w = w' := ⟨_, rfl⟩
  rw [← hP]
  have HF : Hid (P (.returned (.tuple #[.int .i64 (upQ q d).1, .int .i64 (upQ q d).2])) w) := by rw [hP]; exact ⟨rfl, rfl⟩
  clear hP
  have CD := tHid (directory_any H d hd64)
  cases hq : q d with
  | none =>
    have e : dirE q d = 100 := by unfold dirE; rw [hq]
    have e2 : dirV L q d = .pointer none := by unfold dirV; rw [e]; rfl
    have e3 : upQ q d = (0, 100) := by unfold upQ; rw [hq]
    rw [e3] at HF
    rw [e, e2] at CD
    clear H e e2
    go_enter Tryz.func32, Tryz.ntmps32
    go_wp2_with (first | (go_at_call 77; with_reducible refine CD.out.mono ?_; rintro e w2 ⟨rfl, rfl⟩))
    exact HF.out
  | some p =>
    obtain ⟨dv, ev, hC⟩ := H.anyC hq
    have xa := hC.ca
    by_cases hk : p.kind = 1
    · have e : dirE q d = 0 := by unfold dirE; rw [hq]; exact if_pos hk
      have e2 : dirV L q d = .pointer (some ⟨(L d).ib, 0, none⟩) := by unfold dirV; rw [e]; rfl
      have e3 : upQ q d = (p.up, 0) := by unfold upQ; rw [hq]; exact if_pos hk
      rw [e3] at HF
      rw [e, e2] at CD
      clear H e e2 hC
      generalize (L d).ib = ib at *
      generalize p.up = up at *
      go_enter Tryz.func32, Tryz.ntmps32
      go_wp2_with (first | (go_at_call 77; with_reducible refine CD.out.mono ?_; rintro e w2 ⟨rfl, rfl⟩))
      exact HF.out
    · have e : dirE q d = 101 := by unfold dirE; rw [hq]; exact if_neg hk
      have e2 : dirV L q d = .pointer none := by unfold dirV; rw [e]; rfl
      have e3 : upQ q d = (0, 101) := by unfold upQ; rw [hq]; exact if_neg hk
      rw [e3] at HF
      rw [e, e2] at CD
      clear H e e2 hC
      go_enter Tryz.func32, Tryz.ntmps32
      go_wp2_with (first | (go_at_call 77; with_reducible refine CD.out.mono ?_; rintro e w2 ⟨rfl, rfl⟩))
      exact HF.out
/-- What Readlink answers. -/
def rdlQ (q : Int → Option Pn) (d : Int) : Tx × Int := match q d with | none => ([], 100) | some p => if p.kind = 3 then (p.tgt, 0) else ([], 106)
set_option maxHeartbeats 4000000 in
theorem readlink_any (H : FsH fb mb ot L h q cnt T w) (d : Int) (hd64 : I64 d) : Calls Tryz.prog 41 #[.pointer (some ⟨fb, 0, none⟩), .int .i64 d] w fun e w' => e = .returned (.tuple #[.string (mk (rdlQ q d).1), .int .i64 (rdlQ q d).2]) ∧ w = w' := by
  obtain ⟨P, hP⟩ : ∃ P : Ending → World → Prop, P = fun e w' => e = .returned (.tuple #[.string (mk (rdlQ q d).1), .int .i64 (rdlQ q d).2]) ∧ w = w' := ⟨_, rfl⟩
  rw [← hP]
  have HF : Hid (P (.returned (.tuple #[.string (mk (rdlQ q d).1), .int .i64 (rdlQ q d).2])) w) := by rw [hP]; exact ⟨rfl, rfl⟩
  clear hP
  have c0 := H.cs.c0
  cases hq : q d with
  | none =>
    have hl := H.look_none hd64 hq
    have e : rdlQ q d = ([], 100) := by unfold rdlQ; rw [hq]
    rw [e] at HF
    clear H e
    go_enter Tryz.func41, Tryz.ntmps41
    go_wp2_with fail
    exact HF.out
  | some p =>
    have hl := H.look_some hd64 hq
    obtain ⟨dv, ev, hC⟩ := H.anyC hq
    have x0 := hC.c0
    have x7 := hC.c7
    by_cases hk : p.kind = 3
    · have e : rdlQ q d = (p.tgt, 0) := by unfold rdlQ; rw [hq]; exact if_pos hk
      rw [e] at HF
      rw [hk] at x0
      clear H e hC
      generalize (L d).ib = ib at *
      have HF2 : Hid (P (.returned (.tuple #[.string (mk p.tgt), .int .i64 0])) w) := HF
      clear HF
      generalize mk p.tgt = tt at *
      go_enter Tryz.func41, Tryz.ntmps41
      go_wp2_with fail
      exact HF2.out
    · have e : rdlQ q d = ([], 106) := by unfold rdlQ; rw [hq]; exact if_neg hk
      rw [e] at HF
      have hkb : (p.kind != 3) = true := by simp [hk]
      clear H e hC x7
      generalize (L d).ib = ib at *
      generalize p.kind = kd at *
      go_enter Tryz.func41, Tryz.ntmps41
      go_wp2_with fail
      exact HF.out
set_option maxHeartbeats 4000000 in
theorem free_any (H : FsH fb mb ot L h q cnt T w) (h1 : 0 ≤ h.nodes ∧ h.nodes ≤ 1000000000000) (h2 : 0 ≤ h.bytes ∧ h.bytes ≤ 1000000000000) (h3 : 0 ≤ h.held ∧ h.held ≤ 1000000000000) (h4 : cnt ≤ 1000000000000) : Calls Tryz.prog 20 #[.pointer (some ⟨fb, 0, none⟩)] w fun e w' => e = .returned (.tuple #[.int .i64 (h.nodes - cnt), .int .i64 (h.bytes - h.held)]) ∧ Nw w w' := by
  obtain ⟨P, hP⟩ : ∃ P : Ending → World → Prop, P = fun e w' => e = .returned (.tuple #[.int .i64 (h.nodes - cnt), .int .i64 (h.bytes - h.held)]) ∧ Nw w w' := ⟨_, rfl⟩
  rw [← hP]
  have HF : Hid (∀ m, P (.returned (.tuple #[.int .i64 (h.nodes - cnt), .int .i64 (h.bytes - h.held)])) (w.drewN m)) := fun m => by rw [hP]; exact ⟨rfl, (Fr.refl _ _).drewN m⟩
  clear hP
  have hC := H.cs
  have c0 := hC.c0
  have c1 := hC.c1
  have c2 := hC.c2
  have c3 := hC.c3
  have hlen : ∀ m ty, (Builtin.len_ #[98] ty #[.map (some mb)]).run Tryz.prog (w.drewN m) = .ok (.int .i64 cnt) (w.drewN m) := fun m ty => (H.nw ((Fr.refl _ _).drewN m)).len ty
  have hw1 : IntKind.i64.wrap (h.nodes - (cnt : Int)) = h.nodes - (cnt : Int) := by rw [IntKind.wrap_i64]; omega
  have hw2 : IntKind.i64.wrap (h.bytes - h.held) = h.bytes - h.held := by rw [IntKind.wrap_i64]; omega
  clear H hC
  go_enter Tryz.func20, Tryz.ntmps20
  go_upto_region 1 with fail
  go_quiet (fail)
  go_wp2_with fail
  exact HF.out _
end Go.Proofs.YtcogkhcfpgelhaaGreat

import Derived.Test.YtcogkhcfpgelhabGreatVfS
import Derived.Lib.MinMax
namespace Go.Proofs.YtcogkhcfpgelhabGreat
open Go.RowKit
set_option linter.unusedVariables false
set_option maxRecDepth 100000
variable {fb mb : Nat} {ot : Option Nat} {L : Int → Lay} {h : Hx} {q : Int → Option Pn} {cnt : Nat} {T : List Ac} {w w' : World} {X : Nat → Prop}
/-- Bytes written over a file's. -/
def wrD (l : List By) (A : Nat) (b : List By) : List By := if b = [] then l else ovl (rszD l (max l.length (A + b.length))) A b
def wrH (h : Hx) (p : Pn) (A : Nat) (b : List By) : Hx := if b = [] then h else rszH h p (max p.data.length (A + b.length))
/-- What Write answers. -/
def wrE (h : Hx) (q : Int → Option Pn) (n pl : Int) (b : List By) : Int := match q n with
  | none => 100
  | some p => if pl < 0 ∨ 4194304 < pl ∨ 4194304 - pl < (b.length : Int) then 1 else if p.kind ≠ 2 then 106 else if b ≠ [] ∧ h.bytes - h.held < max (p.data.length : Int) (pl + (b.length : Int)) - (p.data.length : Int) then 105 else 0
def WrO (fb mb : Nat) (ot : Option Nat) (L : Int → Lay) (h : Hx) (q : Int → Option Pn) (cnt : Nat) (T : List Ac) (n pl : Int) (b : List By) (w : World) (e : Ending) (w' : World) : Prop :=
  (wrE h q n pl b ≠ 0 ∧ e = .returned (.int .i64 (wrE h q n pl b)) ∧ Nw w w') ∨
  (wrE h q n pl b = 0 ∧ e = .returned (.int .i64 0) ∧ ∃ p, q n = some p ∧ MutO fb mb ot L q (wrH h p pl.toNat b) (fun j => if j = n then some { p with data := wrD p.data pl.toNat b } else q j) cnt (T ++ [⟨5, 0, [], n, 0, [], pl, b.length⟩]) w w')
section
attribute [local go_sem ↓] cpyV_fold
set_option maxHeartbeats 16000000 in
theorem write_any (H : FsH fb mb ot L h q cnt T w) (hT : T.length ≤ 2000000000000) (n : Int) (hn64 : I64 n) (pl : Int) (hp64 : I64 pl) (ba : Option Addr) (cb : Nat) (b : List By) (hsl : Sl (fun k => Bk fb mb ot L q k ∨ w.heap.size ≤ k) (.slice ba b.length cb) b w) (hd : ∀ p, q n = some p → p.data.length ≤ 4194304) (hh : 0 ≤ h.held ∧ h.held ≤ 1000000000000) (hb : 0 ≤ h.bytes ∧ h.bytes ≤ 1000000000000) :
    Calls Tryz.prog 27 #[.pointer (some ⟨fb, 0, none⟩), .int .i64 n, .int .i64 pl, .slice ba b.length cb] w (WrO fb mb ot L h q cnt T n pl b w) := by
  obtain ⟨P, hP⟩ : ∃ P : Ending → World → Prop, P = WrO fb mb ot L h q cnt T n pl b w := ⟨_, rfl⟩
  rw [← hP]
  have HFE : Hid (∀ er V, er ≠ 0 → wrE h q n pl b = er → Nw w V → P (.returned (.int .i64 er)) V) := fun er V h1 h2 hV => by
    rw [hP]
    subst h2
    exact .inl ⟨h1, rfl, hV⟩
  have c0 := H.cs.c0
  have hbl := hsl.length
  rcases option_none_iff (q n) with hqn | ⟨p, hqn⟩
  · have hl := H.look_none hn64 hqn
    have e1 : wrE h q n pl b = 100 := by unfold wrE; rw [hqn]
    have HF := tHid (HFE.out 100 w (by decide) e1 (Fr.refl _ _))
    clear H hP HFE hsl
    go_enter Tryz.func27, Tryz.ntmps27
    go_wp2_with fail
    exact HF.out
  · have hl := H.look_some hn64 hqn
    have e0 : wrE h q n pl b = if pl < 0 ∨ 4194304 < pl ∨ 4194304 - pl < (b.length : Int) then 1 else if p.kind ≠ 2 then 106 else if b ≠ [] ∧ h.bytes - h.held < max (p.data.length : Int) (pl + (b.length : Int)) - (p.data.length : Int) then 105 else 0 := by unfold wrE; rw [hqn]
    obtain ⟨dv, ev, m1, m2, _, _⟩ := (H.nd n p hqn).blk
    have x0 := (ndc_of m1).c0
    have x6 := (ndc_of m1).c6
    by_cases hs1 : pl < 0 ∨ 4194304 < pl ∨ 4194304 - pl < (b.length : Int)
    · have HF := tHid (HFE.out 1 w (by decide) (by rw [e0, if_pos hs1]) (Fr.refl _ _))
      clear H hP HFE e0 hsl m1 m2
      generalize (L n).ib = ib at *
      generalize b.length = bl at *
      by_cases hs2 : pl < 0
      · have hsd := decide_eq_true hs2
        go_enter Tryz.func27, Tryz.ntmps27
        go_wp2_with fail
        exact HF.out
      · have hsd := decide_eq_false hs2
        by_cases hs3 : 4194304 < pl
        · have hse := decide_eq_true hs3
          go_enter Tryz.func27, Tryz.ntmps27
          go_wp2_with fail
          exact HF.out
        · have hse := decide_eq_false hs3
          have hs4 : 4194304 - pl < (bl : Int) := (hs1.resolve_left hs2).resolve_left hs3
          have hsf := decide_eq_true hs4
          have hw4 : IntKind.i64.wrap (4194304 - pl) = 4194304 - pl := by rw [IntKind.wrap_i64]; omega
          go_enter Tryz.func27, Tryz.ntmps27
          go_wp2_with fail
          exact HF.out
    · have hs2 : ¬ pl < 0 := fun e => hs1 (.inl e)
      have hs3 : ¬ 4194304 < pl := fun e => hs1 (.inr (.inl e))
      have hs4 : ¬ 4194304 - pl < (b.length : Int) := fun e => hs1 (.inr (.inr e))
      have hsd := decide_eq_false hs2
      have hse := decide_eq_false hs3
      have hsf := decide_eq_false hs4
      have hw4 : IntKind.i64.wrap (4194304 - pl) = 4194304 - pl := by rw [IntKind.wrap_i64]; omega
      rw [if_neg hs1] at e0
      by_cases hk2 : p.kind = 2
      · rw [if_neg (fun e => e hk2)] at e0
        rw [hk2] at x0
        obtain ⟨A, hA⟩ : ∃ A : Nat, pl = (A : Int) := ⟨pl.toNat, by omega⟩
        by_cases hb0 : b = []
        · rw [if_neg (fun e => e.1 hb0)] at e0
          have HD : Hid (Calls Tryz.prog 53 #[.pointer (some ⟨fb, 0, none⟩), .agg #[.int .i64 5, .int .i64 0, .string ⟨#[]⟩, .int .i64 n, .int .i64 0, .string ⟨#[]⟩, .int .i64 pl, .int .i64 0]] w fun e w4 => (∃ r, e = .returned r) ∧ Hid (P (.returned (.int .i64 0)) w4)) := by
            show Calls _ _ _ _ _
            refine Calls.mono (did_any H hT ⟨5, 0, [], n, 0, [], pl, 0⟩) ?_
            rintro e w4 ⟨hr4, ot', H4, f4, ho⟩
            refine ⟨hr4, ?_⟩
            show P _ _
            rw [hP]
            refine .inr ⟨e0, rfl, p, hqn, ?_⟩
            have e5 : (fun j => if j = n then some { p with data := wrD p.data pl.toNat b } else q j) = q := by
              funext j
              by_cases hj : j = n
              · rw [if_pos hj, hj, hqn]; unfold wrD; rw [if_pos hb0]
              · rw [if_neg hj]
            have e6 : wrH h p pl.toNat b = h := by unfold wrH; rw [if_pos hb0]
            rw [e5, e6, hb0]
            exact MutO.of (X := fun _ => False) (fun k x hx => ⟨x, hx, rfl⟩) (Fr.refl _ _) (fun k e => e.elim) H4 f4 ho
          subst hb0
          simp only [List.length_nil] at *
          clear H hP HFE e0 m1 m2 hsl hk2 hA hs1
          generalize (L n).ib = ib at *
          go_enter Tryz.func27, Tryz.ntmps27
          go_wp2_with (first | (go_at_call 53; with_reducible refine HD.out.mono ?_; rintro e w4 ⟨⟨r4, rfl⟩, HF⟩))
          exact HF.out
        · have hbp : 0 < b.length := List.length_pos_iff.2 hb0
          obtain ⟨AB, hAB⟩ : ∃ AB, AB = A + b.length := ⟨_, rfl⟩
          obtain ⟨M, hM⟩ : ∃ M, M = max p.data.length AB := ⟨_, rfl⟩
          have hdl := hd p hqn
          have zab : (A : Int) + (b.length : Int) = (AB : Int) := by omega
          have zM : max (p.data.length : Int) (AB : Int) = (M : Int) := by omega
          have hM1 : AB ≤ M := by omega
          have hM2 : M ≤ 4194304 := by omega
          obtain ⟨da, dc, rfl, hdc1, hdc2⟩ := m2.form
          rw [hA, zab, zM] at e0
          have HR : Hid (Calls Tryz.prog 52 #[.pointer (some ⟨fb, 0, none⟩), .pointer (some ⟨(L n).ib, 0, none⟩), .int .i64 M] w fun e w2 => (∃ c, c ≠ 0 ∧ e = .returned (.int .i64 c) ∧ Hid (P (.returned (.int .i64 c)) w2)) ∨ (e = .returned (.int .i64 0) ∧ ∃ g c, w2.cell? ⟨(L n).ib, 6, none⟩ = some (.slice (some ⟨g, 0, none⟩) M c) ∧ M ≤ c ∧ c < 9223372036854775808 ∧ ∃ W3, (∀ ty, (cpyV #[38, 38] ty #[.slice (some ⟨g, A, none⟩) (M - A) (c - A), .slice ba b.length cb]).run Tryz.prog w2 = .ok (.int .i64 b.length) W3) ∧ Hid (Calls Tryz.prog 53 #[.pointer (some ⟨fb, 0, none⟩), .agg #[.int .i64 5, .int .i64 0, .string ⟨#[]⟩, .int .i64 n, .int .i64 0, .string ⟨#[]⟩, .int .i64 A, .int .i64 b.length]] W3 fun e w4 => (∃ r, e = .returned r) ∧ Hid (P (.returned (.int .i64 0)) w4)))) := by
            show Calls _ _ _ _ _
            refine Calls.mono (resize_any H hqn M hM2 hdl hh hb) ?_
            rintro e w2 (⟨hm, rfl, hV⟩ | ⟨hm, rfl, L', H2, f2, hL⟩)
            · exact .inl ⟨105, by decide, rfl, HFE.out 105 w2 (by decide) (by rw [hA, e0, if_pos ⟨hb0, hm⟩]) hV⟩
            · refine .inr ⟨rfl, ?_⟩
              have hq2 : (if n = n then some (rszP p M) else q n) = some (rszP p M) := if_pos rfl
              have hlen : (rszP p M).data.length = M := rszD_len _ _
              obtain ⟨dv3, ev3, n1, n2, _, _⟩ := (H2.nd n (rszP p M) hq2).blk
              obtain ⟨l1, l2, l3⟩ := hL n
              rw [l1] at n1
              have hod : ∃ g c, (L' n).od = some g ∧ dv3 = .slice (some ⟨g, 0, none⟩) M c ∧ M ≤ c ∧ c < 9223372036854775808 := by
                cases hod : (L' n).od with
                | none =>
                  rw [hod] at n2
                  have := n2.2
                  rw [this] at hlen
                  simp at hlen; omega
                | some g =>
                  rw [hod] at n2
                  obtain ⟨xs, e1, _, e3, e4, _⟩ := (n2 : Ow g _ _ _)
                  rw [hlen] at e1 e3
                  exact ⟨g, xs.length, rfl, e1, e3, e4⟩
              obtain ⟨g, c, hog, rfl, hc1, hc2⟩ := hod
              rw [hog] at n2
              have n3 : Ow g (.slice (some ⟨g, 0, none⟩) (rszP p M).data.length c) (rszP p M).data w2 := by rw [hlen]; exact n2
              have hX : ∀ k, (k = fb ∨ k = (L n).ib ∨ (L n).od = some k) → Bk fb mb ot L q k := fun k hk => by
                rcases hk with rfl | rfl | hk
                · exact .inl rfl
                · exact .inr (.inr (.inr ⟨n, p, hqn, .inl rfl⟩))
                · exact .inr (.inr (.inr ⟨n, p, hqn, .inr (.inr hk)⟩))
              have hbs : Sl (fun _ => False) (.slice ba b.length cb) b w2 := (hsl.kept f2 (fun k hk => .inl (hX k hk))).mono (fun _ h => h.elim)
              have hba : ∃ ad, ba = some ad := by
                rcases hsl with ⟨a', e, hl0⟩ | ⟨g', _, o, c', e, _⟩
                · exact absurd hl0 hb0
                · injection e with e
                  exact ⟨_, e⟩
              obtain ⟨ad, rfl⟩ := hba
              obtain ⟨W3, r1, r2, r3⟩ := cpy_data g (rszP p M).data c n3 A b (by rw [hlen]; omega) ad cb hbs
              rw [hlen] at r1
              refine ⟨g, c, (rc n1 6 _ rfl).1, hc1, hc2, W3, r1, ?_⟩
              have x6' : w2.cell? ⟨(L' n).ib, 6, none⟩ = some (.slice (some ⟨g, 0, none⟩) M c) := by rw [l1]; exact (rc n1 6 _ rfl).1
              rw [hlen] at r2
              have H3 := cpy_set H2 hq2 hog r3 (d' := ovl (rszP p M).data A b) x6' r2
              refine Calls.mono (did_any H3 hT ⟨5, 0, [], n, 0, [], (A : Int), b.length⟩) ?_
              rintro e w4 ⟨hr4, ot', H4, f4, ho⟩
              refine ⟨hr4, ?_⟩
              show P _ _
              rw [hP]
              refine .inr ⟨by rw [hA, e0, if_neg (fun e => hm e.2)], rfl, p, hqn, ?_⟩
              have eA : pl.toNat = A := by omega
              have e6 : wrH h p pl.toNat b = rszH h p M := by unfold wrH; rw [if_neg hb0, eA, hM, hAB]
              have e7 : (fun j => if j = n then some { p with data := wrD p.data pl.toNat b } else q j) = fun j => if j = n then some { rszP p M with data := ovl (rszP p M).data A b } else (if j = n then some (rszP p M) else q j) := by
                funext j
                by_cases hj : j = n
                · rw [if_pos hj, if_pos hj]
                  unfold wrD
                  rw [if_neg hb0, eA, ← hAB, ← hM]; rfl
                · rw [if_neg hj, if_neg hj, if_neg hj]
              rw [e6, e7, hA]
              have hgB : Bk fb mb ot L q g ∨ w.heap.size ≤ g := by
                rcases l3 g hog with e | e
                · exact .inl (hX g (.inr (.inr e)))
                · exact .inr e
              refine MutO.ofL (X := fun k => Bk fb mb ot L q k ∨ w.heap.size ≤ k) hL ?_ ((f2.mono (fun k hk => .inl (.inl (hX k hk)))).trans (r3.mono (fun k hk => .inl (by rw [hk]; exact hgB)))) (fun k hk => hk) H4 f4 ho
              intro k x hx
              by_cases hkn : k = n
              · rw [if_pos hkn] at hx
                injection hx with hx
                exact ⟨p, by rw [hkn]; exact hqn, by rw [← hx]; rfl⟩
              · rw [if_neg hkn, if_neg hkn] at hx
                exact ⟨x, hx, rfl⟩
          have zw1 : IntKind.i64.wrap (AB : Int) = (AB : Int) := by rw [IntKind.wrap_i64]; omega
          have hbi : (0 : Int) < (b.length : Int) := by omega
          have hbd := decide_eq_true hbi
          have zA1 : A ≤ M := by omega
          have zA2 : (A : Int) ≤ (M : Int) := by omega
          have zA3 : A < M := by omega
          subst hA
          clear H hP HFE e0 m1 m2 hsl hk2 hs1 hAB hM hd hb0 hqn
          generalize (L n).ib = ib at *
          generalize b.length = bl at *
          generalize p.data.length = dl at *
          go_enter Tryz.func27, Tryz.ntmps27
          go_wp2_with fail
          go_at_call 52
          with_reducible refine HR.out.mono ?_
          rintro e w2 (⟨c, hc, rfl, HF⟩ | ⟨rfl, g, c, x62, hc1, hc2, W3, hcp, HD⟩)
          · have hcb : (c == 0) = false := by rw [beq_eq_false_iff_ne]; exact hc
            go_wp2_with fail
            exact HF.out
          · have hcA : ¬ c = A := by omega
            have hcA2 : (A : Int) ≤ (c : Int) := by omega
            go_wp2_with (first | (go_at_call 53; with_reducible refine HD.out.mono ?_; rintro e w4 ⟨⟨r4, rfl⟩, HF⟩))
            exact HF.out
      · have HF := tHid (HFE.out 106 w (by decide) (by rw [e0, if_pos hk2]) (Fr.refl _ _))
        have hkb : (p.kind == 2) = false := by rw [beq_eq_false_iff_ne]; exact hk2
        clear H hP HFE e0 hsl m1 m2
        generalize (L n).ib = ib at *
        generalize p.kind = kd at *
        generalize b.length = bl at *
        go_enter Tryz.func27, Tryz.ntmps27
        go_wp2_with fail
        exact HF.out
end
end Go.Proofs.YtcogkhcfpgelhabGreat

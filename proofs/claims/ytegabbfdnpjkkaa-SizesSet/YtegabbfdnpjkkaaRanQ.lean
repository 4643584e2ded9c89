import Derived.Test.YtegabbfdnpjkkaaRanP
namespace Go.Proofs.Ytegabbfdnpjkkaa
open Go.RowKit
set_option linter.unusedVariables false
set_option linter.unusedSimpArgs false

/-- append of one range, as a step of a region that draws. -/
theorem step_app {ops : Array Oper} {o : Oper} {a : Act} {w : World} {K : Act → World → Prop} {Q : Exit → Act → World → Prop} {E : Prop}
    (hg : o.guard = none) (d x : Operand) (hop : o.op = Op.call { callee := Callee.builtin Builtin.append, args := #[d, x], argTypes := #[45, 45] })
    (s : Value) (og : Option Nat) (V0 : List Rg) (y : Rg) (gb : Nat) (hd : a.eval d = s) (hx : a.eval x = .slice (some ⟨gb, 0, none⟩) 1 1) (hs : SVal s og V0 w) (hb : RowB gb [y] w) (hdd : og ≠ some gb) (hbig : (V0.length + 1) * 16 ≤ 140737488355328)
    (hK : ∀ W' b c, Apped og w W' (.slice b (V0.length + 1) c) (V0 ++ [y]) → K (a.put o.dst (.slice b (V0.length + 1) c)) W') :
    if Region.wanted o (yielded ops a.tmps) = true then Oper.wp Try.prog o a w K Q else E := by
  obtain ⟨W', b, c, hr, hA⟩ := app_step w s og V0 y gb hs hb hdd hbig
  exact step_append_run hg d x hop s _ hd hx (hr _) (hK W' b c hA)
theorem Apped.nw {W W' : World} {v' : Value} {L : List Rg} (h : Apped none W W' v' L) : Nw W W' ∧ ∃ g', SVal v' (some g') L W' ∧ W.heap.size ≤ g' ∨ L = [] := by
  obtain ⟨og', h1, h2, h3⟩ := h
  have hn : Nw W W' := h2.mono (fun k hk => by cases hk)
  refine ⟨hn, ?_⟩
  rcases h3 with rfl | ⟨g', rfl, hg⟩
  · rcases h1 with ⟨_, _, h⟩ | ⟨g, _, h, _⟩
    · exact ⟨0, .inr h⟩
    · cases h
  · exact ⟨g', .inl ⟨h1, hg⟩⟩
theorem Apped.some {g : Nat} {W W' : World} {v' : Value} {L : List Rg} (h : Apped (some g) W W' v' L) : Fr (fun k => k = g) W W' ∧ ∃ g', SVal v' (.some g') L W' ∧ (g' = g ∨ W.heap.size ≤ g') := by
  obtain ⟨og', h1, h2, h3⟩ := h
  refine ⟨h2.mono (fun k hk => .inl (by injection hk with hk; exact hk.symm)), ?_⟩
  rcases h3 with rfl | ⟨g', rfl, hg⟩
  · exact ⟨g, h1, .inl rfl⟩
  · exact ⟨g', h1, .inr hg⟩

theorem cutV_no (L : List Rg) (i j : Nat) (x : Rg) (h : ¬ i < j) : cutV L i j x = [] := by unfold cutV; rw [dif_neg (by omega)]
theorem cutV_yes (L : List Rg) (i j : Nat) (x : Rg) (h : i < j) (hj : j ≤ L.length) : cutV L i j x = (if (L[i]'(by omega)).1 < x.1 then [((L[i]'(by omega)).1, x.1)] else []) ++ (if x.2 < (L[j - 1]'(by omega)).2 then [(x.2, (L[j - 1]'(by omega)).2)] else []) := by unfold cutV; rw [dif_pos ⟨h, hj⟩]

/-- What Cut of a range with places leaves. -/
def CutRes (br : Nat) (og : Option Nat) (L : List Rg) (x : Rg) (w w' : World) (e : Ending) : Prop :=
  ∃ i j, Part L (fun y => decide (x.1 < y.2)) i ∧ Part L (fun y => decide (x.2 ≤ y.1)) j ∧ i ≤ j ∧
      (65536 < L.length - (j - i) + (cutV L i j x).length ∧ e = .returned (.int .i64 2) ∧ Nw w w' ∨ L.length - (j - i) + (cutV L i j x).length ≤ 65536 ∧ e = .returned (.int .i64 0) ∧ Setted br og w w' (L.take i ++ cutV L i j x ++ L.drop j))

set_option maxHeartbeats 4000000 in
set_option maxRecDepth 100000 in
theorem cut_do (br : Nat) (og : Option Nat) (L : List Rg) (x : Rg) (w : World) (h : RngB br og L w) (hL : L.length ≤ 65536) (hr : Rises L) (hok : ∀ t (ht : t < L.length), L[t].1 < L[t].2) (hx : cb x = true) (he : x.1 < x.2) :
    Calls Try.prog 22 #[.pointer (some ⟨br, 0, none⟩), rv x] w fun e w' => CutRes br og L x w w' e := by
  have HN0 : Hid (Nw w (w.alloc (.cells #[.int .i64 x.1, .int .i64 x.2] 49))) := (Fr.refl _ _).alloc _
  have HC := fun w => canBe_any x w
  rw [hx] at HC
  have HB : Hid _ := BoxB.new w x
  have hmf : ∀ (fn : Fn) (first cap : Array Value) (w : World), (Instr.makeFunc fn first cap).run Try.prog w = .ok (.func fn first cap) w := fun _ _ _ _ => rfl
  have H0 : Hid _ := h
  have HR : Hid _ := hr
  have HO : Hid _ := hok
  have hne : (x.1 == x.2) = false := by simp; omega
  clear hx h hr hok
  go_enter Try.func22, Try.ntmps22
  go_wp2_with (go_at_call 37; refine (HC _).mono ?_; rintro e w1 ⟨rfl, hN1⟩; obtain ⟨q0, q1, _⟩ := (BoxB.nw HB.out hN1).cell)
  have hN1' := Nw.trans HN0.out hN1
  refine (ends_any br og L x.1 _ (RngB.nw H0.out hN1') hL HR.out).mono ?_
  rintro e w2 ⟨i, rfl, hi, hN2⟩
  have hN2' := hN1'.trans hN2
  obtain ⟨q0, q1, _⟩ := (BoxB.nw HB.out (hN1.trans hN2)).cell
  go_wp2_with fail
  refine (first_any 40 _ (fun y => decide (x.2 ≤ y.1)) br og L _ eg40 (clos_cut1 w.heap.size x w2 q1) (RngB.nw H0.out hN2') hL (fun a b ha hb hab hp => by
      have := (HR.out a b ha hb hab).1
      simp only [decide_eq_true_eq] at hp ⊢
      omega)).mono ?_
  rintro e w3 ⟨j, rfl, hj, hN3⟩
  have hN3' := hN2'.trans hN3
  obtain ⟨q0, q1, q2⟩ := (BoxB.nw HB.out ((hN1.trans hN2).trans hN3)).cell
  have hR3 := RngB.nw H0.out hN3'
  clear hN1 hN1' hN2 hN2' hN3 HC
  have hij : i ≤ j := by
    rcases Nat.lt_or_ge j i with hlt | hge
    · have hjl : j < L.length := by have := hi.1; omega
      have a1 := hi.2.1 j hjl hlt
      have a2 := hj.2.2 j hjl (Nat.le_refl _)
      have a3 := HO.out j hjl
      simp only [decide_eq_true_eq, decide_eq_false_iff_not] at a1 a2
      omega
    · exact hge
  have FIN : Hid (∀ (w' : World) (e : Ending), (65536 < L.length - (j - i) + (cutV L i j x).length ∧ e = .returned (.int .i64 2) ∧ Nw w w' ∨ L.length - (j - i) + (cutV L i j x).length ≤ 65536 ∧ e = .returned (.int .i64 0) ∧ Setted br og w w' (L.take i ++ cutV L i j x ++ L.drop j)) → CutRes br og L x w w' e) := fun w' e hh => ⟨i, j, hi, hj, hij, hh⟩
  have hjL := hj.1
  rcases Nat.lt_or_ge i j with hlt | hge
  · obtain ⟨v3, v1, v2, _⟩ := hR3
    obtain ⟨c3, _⟩ := box_cell v1
    rcases v2 with ⟨_, _, rfl⟩ | ⟨g, xs, hog, rfl, k1, k2, k3, k4⟩
    · simp at hjL; omega
    obtain ⟨d1, _⟩ := k4.cell i (by omega)
    obtain ⟨_, d2⟩ := k4.cell (j - 1) (by omega)
    have e1 : xs[i]'(by omega) = L[i]'(by omega) := by
      have : (xs.take L.length)[i]? = L[i]? := by rw [k3]
      rw [List.getElem?_take, if_pos (by omega), List.getElem?_eq_getElem (by omega), List.getElem?_eq_getElem (by omega)] at this
      exact Option.some.inj this
    have e2 : xs[j - 1]'(by omega) = L[j - 1]'(by omega) := by
      have : (xs.take L.length)[j - 1]? = L[j - 1]? := by rw [k3]
      rw [List.getElem?_take, if_pos (by omega), List.getElem?_eq_getElem (by omega), List.getElem?_eq_getElem (by omega)] at this
      exact Option.some.inj this
    rw [e1] at d1
    rw [e2] at d2
    have AX := cutV_yes L i j x hlt hjL
    generalize L[i]'(by omega) = yi at d1 AX
    generalize L[j - 1]'(by omega) = yj at d2 AX
    generalize cutV L i j x = CV at AX FIN
    have hgl := k4.lt
    have hN3s := hN3'.size
    unfold maxLen at k1
    have hz1 : (i : Int) < (L.length : Int) := by omega
    have hz2 : (j : Int) - 1 < (L.length : Int) := by omega
    have hz3 : ((j : Int) - 1).toNat = j - 1 := by omega
    have hz4 : (0 : Int) ≤ (j : Int) - 1 := by omega
    have hz5 : (1 : Int) ≤ (j : Int) := by omega
    have hwj : IntKind.i64.wrap ((j : Int) - 1) = (j : Int) - 1 := by rw [IntKind.wrap_i64]; omega
    have hlz : decide ((i : Int) < (j : Int)) = true := by simp; omega
    clear e1 e2 k3 k4 v1 q2 hi hj HR HO
    by_cases hA : yi.1 < x.1
    · have hdA : decide (yi.1 < x.1) = true := by simp; omega
      rw [if_pos hA] at AX
      go_wp2_with fail
      go_quiet (fail)
      go_wp2_with fail
      have KEY : Hid (∀ w', Nw w3 w' → w'.cell? ⟨br, 0, none⟩ = some (.slice (some ⟨g, 0, none⟩) L.length xs.length) ∧ w'.cell? ⟨g, i * 2, none⟩ = some (.int .i64 yi.1) ∧ w'.cell? ⟨w.heap.size, 0, none⟩ = some (.int .i64 x.1)) := fun w' hh => ⟨hh.cell c3, hh.cell d1, hh.cell q0⟩
      go_region_held3 (fun w' => w'.cell? ⟨br, 0, none⟩ = some (.slice (some ⟨g, 0, none⟩) L.length xs.length) ∧ w'.cell? ⟨g, i * 2, none⟩ = some (.int .i64 yi.1) ∧ w'.cell? ⟨w.heap.size, 0, none⟩ = some (.int .i64 x.1))
        (first | exact KEY.out _ hK1 | (refine KEY.out _ ?_; (repeat (first | exact Fr.refl _ _ | apply Fr.drew | apply Fr.drewN | apply Fr.alloc)); done))
        (first | (refine step_app rfl _ _ rfl (.slice none 0 0) none [] (yi.1, x.1) w3.heap.size (by simp [Act.eval, Act.put]) (by simp [Act.eval, Act.put]) (.inl ⟨rfl, rfl, rfl⟩) (RowB.new w3 [(yi.1, x.1)]) (fun h => by cases h) (by simp) ?_; intro W1 b1 c1 hA1; (have hK1 : Nw w3 W1 := by (refine Nw.trans ?_ hA1.nw.1; (repeat (first | exact Fr.refl _ _ | apply Fr.drew | apply Fr.drewN | apply Fr.alloc)); done))))
      obtain ⟨hn1, g1, hg1⟩ := hA1.nw
      have hg1 : SVal (.slice b1 ([] : List Rg).length.succ c1) (some g1) ([] ++ [(yi.1, x.1)]) W1 ∧ w3.heap.size ≤ g1 := by
        rcases hg1 with ⟨ha, hb⟩ | hg1
        · exact ⟨ha, by have hb' := hb; simp at hb'; omega⟩
        · cases hg1
      obtain ⟨hs1, hg1⟩ := hg1
      have hn3 : Nw w3 W1 := hK1
      have c3 := hn3.cell c3
      have d2 := hn3.cell d2
      have q1w := q1
      have q1 := hn3.cell q1
      have hNW := hN3'.trans hn3
      have hbg : ¬ (⟨br, 0, none⟩ : Addr).block = g1 := fun e => by have hb : br < w.heap.size := (by obtain ⟨vv, kk, _⟩ := H0.out; exact (Array.getElem?_eq_some_iff.1 kk).1); have := hN3'.size; simp at e; omega
      have hgg : ¬ (⟨g, (j - 1) * 2 + 1, none⟩ : Addr).block = g1 := fun e => by have := hgl; simp at e; omega
      have hwg : ¬ (⟨w.heap.size, 1, none⟩ : Addr).block = g1 := fun e => by have := World.block_lt_of_cell? _ _ q1w; simp at e this; omega
      clear hA1 hn1 d1 q0
      by_cases hBB : x.2 < yj.2
      · have hdB : decide (x.2 < yj.2) = true := by simp; omega
        rw [if_pos hBB] at AX
        subst AX
        go_wp2_with fail
        go_quiet (fail)
        go_wp2_with fail
        have KEY2 : Hid (∀ w', Nw W1 w' → w'.cell? ⟨br, 0, none⟩ = some (.slice (some ⟨g, 0, none⟩) L.length xs.length) ∧ w'.cell? ⟨g, (j - 1) * 2 + 1, none⟩ = some (.int .i64 yj.2) ∧ w'.cell? ⟨w.heap.size, 1, none⟩ = some (.int .i64 x.2)) := fun w' hh => ⟨hh.cell c3, hh.cell d2, hh.cell q1⟩
        have KEY3 : Hid (∀ W w', Nw W1 W → Fr (fun k => k = g1) W w' → w'.cell? ⟨br, 0, none⟩ = some (.slice (some ⟨g, 0, none⟩) L.length xs.length) ∧ w'.cell? ⟨g, (j - 1) * 2 + 1, none⟩ = some (.int .i64 yj.2) ∧ w'.cell? ⟨w.heap.size, 1, none⟩ = some (.int .i64 x.2)) := fun W w' hW hh => by
          obtain ⟨z1, z2, z3⟩ := KEY2.out W hW
          have e1 := World.block_lt_of_cell? _ _ z1
          have e2 := World.block_lt_of_cell? _ _ z2
          have e3 := World.block_lt_of_cell? _ _ z3
          exact ⟨(hh.cell e1 hbg).trans z1, (hh.cell e2 hgg).trans z2, (hh.cell e3 hwg).trans z3⟩
        go_region_held3 (fun w' => w'.cell? ⟨br, 0, none⟩ = some (.slice (some ⟨g, 0, none⟩) L.length xs.length) ∧ w'.cell? ⟨g, (j - 1) * 2 + 1, none⟩ = some (.int .i64 yj.2) ∧ w'.cell? ⟨w.heap.size, 1, none⟩ = some (.int .i64 x.2))
          (first | exact hK3 | (refine KEY2.out _ ?_; (repeat (first | exact Fr.refl _ _ | apply Fr.drew | apply Fr.drewN | apply Fr.alloc)); done))
          (first | (refine step_app rfl _ _ rfl (.slice b1 1 c1) (some g1) [(yi.1, x.1)] (x.2, yj.2) W1.heap.size (by simp [Act.eval, Act.put]) (by simp [Act.eval, Act.put]) (SVal.kept (X := fun _ => False) hs1 (by ((repeat (first | exact Fr.refl _ _ | apply Fr.drew | apply Fr.drewN | apply Fr.alloc)); done)) (fun _ _ h => h)) (RowB.new W1 [(x.2, yj.2)]) (fun h => by have := hs1.lt g1 rfl; injection h with h; omega) (by simp) ?_; intro W2 b2 c2 hA2; have hK3 := KEY3.out _ W2 (by ((repeat (first | exact Fr.refl _ _ | apply Fr.drew | apply Fr.drewN | apply Fr.alloc)); done)) hA2.some.1))
        obtain ⟨hf2, g2, hs2, hg2⟩ := hA2.some
        go_wp2_with fail
        have hNW2 : Nw w W2 := Fr.then (by (repeat (first | exact hNW | apply Fr.drew | apply Fr.drewN | apply Fr.alloc)); done) hf2 (fun k hk => .inr (by subst hk; have := hN3'.size; omega))
        refine (cut_end br og (some g2) L [(yi.1, x.1), (x.2, yj.2)] _ i j w W2 H0.out hNW2 hs2 (fun h => by cases h) (fun g' hg' => by injection hg' with hg'; subst hg'; have := hN3'.size; have := hNW.size; rcases hg2 with h | h; omega; simp at h; omega) hL hij hjL (by simp)).mono ?_
        intro e w' hfin
        rcases hfin with ⟨m1, rfl, m2⟩ | ⟨m1, rfl, m2⟩
        · go_wp2
          go_ret
          exact FIN.out _ _ (.inl ⟨m1, rfl, m2⟩)
        · go_wp2
          go_ret
          exact FIN.out _ _ (.inr ⟨m1, rfl, m2⟩)
      · have hdB : decide (x.2 < yj.2) = false := by simp; omega
        rw [if_neg hBB] at AX
        subst AX
        go_wp2_with fail
        go_quiet (fail)
        go_wp2_with fail
        refine (cut_end br og (some g1) L [(yi.1, x.1)] _ i j w _ H0.out (Fr.drewN hNW _) hs1 (fun h => by cases h) (fun g' hg' => by injection hg' with hg'; subst hg'; have := hN3'.size; omega) hL hij hjL (by simp)).mono ?_
        intro e w' hfin
        rcases hfin with ⟨m1, rfl, m2⟩ | ⟨m1, rfl, m2⟩
        · go_wp2
          go_ret
          exact FIN.out _ _ (.inl ⟨m1, rfl, m2⟩)
        · go_wp2
          go_ret
          exact FIN.out _ _ (.inr ⟨m1, rfl, m2⟩)
    · have hdA : decide (yi.1 < x.1) = false := by simp; omega
      rw [if_neg hA, List.nil_append] at AX
      by_cases hBB : x.2 < yj.2
      · have hdB : decide (x.2 < yj.2) = true := by simp; omega
        rw [if_pos hBB] at AX
        subst AX
        go_wp2_with fail
        go_quiet (fail)
        go_wp2_with fail
        go_quiet (fail)
        go_wp2_with fail
        have KEY : Hid (∀ w', Nw w3 w' → w'.cell? ⟨br, 0, none⟩ = some (.slice (some ⟨g, 0, none⟩) L.length xs.length) ∧ w'.cell? ⟨g, (j - 1) * 2 + 1, none⟩ = some (.int .i64 yj.2) ∧ w'.cell? ⟨w.heap.size, 1, none⟩ = some (.int .i64 x.2)) := fun w' hh => ⟨hh.cell c3, hh.cell d2, hh.cell q1⟩
        go_region_held3 (fun w' => w'.cell? ⟨br, 0, none⟩ = some (.slice (some ⟨g, 0, none⟩) L.length xs.length) ∧ w'.cell? ⟨g, (j - 1) * 2 + 1, none⟩ = some (.int .i64 yj.2) ∧ w'.cell? ⟨w.heap.size, 1, none⟩ = some (.int .i64 x.2))
          (first | exact KEY.out _ hK1 | (refine KEY.out _ ?_; (repeat (first | exact Fr.refl _ _ | apply Fr.drew | apply Fr.drewN | apply Fr.alloc)); done))
          (first | (refine step_app rfl _ _ rfl (.slice none 0 0) none [] (x.2, yj.2) w3.heap.size (by simp [Act.eval, Act.put]) (by simp [Act.eval, Act.put]) (.inl ⟨rfl, rfl, rfl⟩) (RowB.new w3 [(x.2, yj.2)]) (fun h => by cases h) (by simp) ?_; intro W1 b1 c1 hA1; (have hK1 : Nw w3 W1 := by (refine Nw.trans ?_ hA1.nw.1; (repeat (first | exact Fr.refl _ _ | apply Fr.drew | apply Fr.drewN | apply Fr.alloc)); done))))
        obtain ⟨hn1, g1, hg1⟩ := hA1.nw
        have hg1 : SVal (.slice b1 ([] : List Rg).length.succ c1) (some g1) ([] ++ [(x.2, yj.2)]) W1 ∧ w3.heap.size ≤ g1 := by
          rcases hg1 with ⟨ha, hb⟩ | hg1
          · exact ⟨ha, by have hb' := hb; simp at hb'; omega⟩
          · cases hg1
        obtain ⟨hs1, hg1⟩ := hg1
        have hn3 : Nw w3 W1 := hK1
        have hNW := hN3'.trans hn3
        go_wp2_with fail
        refine (cut_end br og (some g1) L [(x.2, yj.2)] _ i j w _ H0.out hNW hs1 (fun h => by cases h) (fun g' hg' => by injection hg' with hg'; subst hg'; have := hN3'.size; omega) hL hij hjL (by simp)).mono ?_
        intro e w' hfin
        rcases hfin with ⟨m1, rfl, m2⟩ | ⟨m1, rfl, m2⟩
        · go_wp2
          go_ret
          exact FIN.out _ _ (.inl ⟨m1, rfl, m2⟩)
        · go_wp2
          go_ret
          exact FIN.out _ _ (.inr ⟨m1, rfl, m2⟩)
      · have hdB : decide (x.2 < yj.2) = false := by simp; omega
        rw [if_neg hBB] at AX
        subst AX
        go_wp2_with fail
        go_quiet (fail)
        go_wp2_with fail
        go_quiet (fail)
        go_wp2_with fail
        refine (cut_end br og none L [] _ i j w _ H0.out (Fr.drewN hN3' _) (.inl ⟨rfl, rfl, rfl⟩) (fun _ => rfl) (fun g' hg' => by cases hg') hL hij hjL (by simp)).mono ?_
        intro e w' hfin
        rcases hfin with ⟨m1, rfl, m2⟩ | ⟨m1, rfl, m2⟩
        · go_wp2
          go_ret
          exact FIN.out _ _ (.inl ⟨m1, rfl, m2⟩)
        · go_wp2
          go_ret
          exact FIN.out _ _ (.inr ⟨m1, rfl, m2⟩)
  · obtain rfl : i = j := by omega
    rw [cutV_no L i i x (by omega)] at FIN
    go_wp2_with fail
    go_quiet (fail)
    go_wp2_with fail
    go_quiet (fail)
    go_wp2_with fail
    refine (cut_end br og none L [] _ i i w _ H0.out (Fr.drewN hN3' _) (.inl ⟨rfl, rfl, rfl⟩) (fun _ => rfl) (fun g' hg' => by cases hg') hL hij hjL (by simp)).mono ?_
    intro e w' hfin
    rcases hfin with ⟨m1, rfl, m2⟩ | ⟨m1, rfl, m2⟩
    · go_wp2
      go_ret
      exact FIN.out _ _ (.inl ⟨m1, rfl, m2⟩)
    · go_wp2
      go_ret
      exact FIN.out _ _ (.inr ⟨m1, rfl, m2⟩)
end Go.Proofs.Ytegabbfdnpjkkaa

import Derived.Test.YtenkchhlaphocaaDoorNkJ
import Derived.Test.YtenkchhlaphocaaDoorNkA
import Derived.Maps.AppendAt
namespace Go.Proofs.YtenkchhlaphocaaDoor
open Go.RowKit
set_option linter.unusedVariables false
/-! ### The document's Print -/
theorem bo_nil (B : Nat) (w : World) : BO B (.slice none 0 0) [] w := World.ownsRow_nil w B 5 1
theorem bo_byte {W0 V : World} {v : Value} {l : Bs} (hN : Nw W0 V) (h : BO W0.heap.size v l V) (m : By) (k : Int) (hk : k = m.toNat) (hl : l.length + 1 ≤ 1000000000) : ∃ v' W, (Builtin.append_ #[24, 24] 24 #[v, .slice (some ⟨V.heap.size, 0, none⟩) 1 1]).run Tryd.prog (V.alloc (.cells #[.int .u8 k] 5)) = .ok v' W ∧ BO W0.heap.size v' (l ++ [m]) W ∧ Nw W0 W := by
  obtain ⟨i, hi, hz, hs, hby⟩ := infoB
  have hNa : Nw V (V.alloc (.cells #[.int .u8 k] 5)) := (Fr.refl _ _).alloc _
  have hN2 := hN.trans hNa
  have h' := bo_nw h hNa
  obtain ⟨v', W, h1, h2, h3, _⟩ := run_append_own (P := Tryd.prog) (V.alloc (.cells #[.int .u8 k] 5)) W0.heap.size 24 24 5 i (.int .u8 0) 1 1 Tryd.underlying24 hi hz hs hby (by simp [Value.cells]) (by decide) v l.length (l.map bv) h' ⟨V.heap.size, 0, none⟩ 1 1 [.int .u8 k] rfl (cell_one_new _ _ _) (by simp [Value.oneCell']) (by unfold maxLen; omega) (by omega) hN2.size
  refine ⟨v', W, h1, ?_, ?_⟩
  · unfold BO
    rw [List.length_append, List.map_append]
    have e : [m].map bv = [Value.int .u8 k] := by rw [hk]; rfl
    rw [e]
    exact h2
  · have hown : ∀ k, v.ownBlock = some k → W0.heap.size ≤ k := fun k hk => (World.ownsRow.lt h' k hk).1
    refine ⟨h3.os.trans hN2.os, h3.tape.trans hN2.tape, h3.output.trans hN2.output, Nat.le_trans hN2.size h3.size, fun k hk _ => ?_⟩
    rw [h3.block k (Nat.lt_of_lt_of_le hk hN2.size) (fun e => by have := hown k e.symm; omega)]
    exact hN2.block k hk (fun h => h)
theorem dec_lt (m : Nat) : m < 10 ^ (dec m).length := by
  have := val_lt (dec m) (dec_digits m) 0 0 (by decide)
  rw [dec_val, Nat.zero_add] at this
  exact this
theorem eqAt_in (l : Bs) (h : 61#8 ∈ l) : 0 ≤ eqAt l ∧ eqAt l < l.length := by
  rcases eqAt_cut l with ⟨_, _, h1⟩ | ⟨x, h1, h2, h3, _⟩
  · exact absurd h h1
  · rw [h2]
    have := congrArg List.length h3
    rw [List.length_append, List.length_cons] at this
    omega
/-- The appends of one record. -/
theorem rec_chain {W0 V : World} {v : Value} {acc : Bs} (hN : Nw W0 V) (h : BO W0.heap.size v acc V) (y : Pr) (L : Bs) (hl : acc.length + L.length + y.1.length + y.2.length + 3 ≤ 1000000000) :
    ∃ v1 W1 v2 W2 v3 W3 v4 W4 v5 W5 v6 W6, Hid ((Builtin.append_ #[24, 9] 24 #[v, .string (str L)]).run Tryd.prog V = .ok v1 W1)
      ∧ Hid ((Builtin.append_ #[24, 24] 24 #[v1, .slice (some ⟨W1.heap.size, 0, none⟩) 1 1]).run Tryd.prog (W1.alloc (.cells #[.int .u8 32] 5)) = .ok v2 W2) ∧ Hid (Nw W0 W2)
      ∧ Hid ((Builtin.append_ #[24, 9] 24 #[v2, .string (str y.1)]).run Tryd.prog W2 = .ok v3 W3)
      ∧ Hid ((Builtin.append_ #[24, 24] 24 #[v3, .slice (some ⟨W3.heap.size, 0, none⟩) 1 1]).run Tryd.prog (W3.alloc (.cells #[.int .u8 61] 5)) = .ok v4 W4) ∧ Hid (Nw W0 W4)
      ∧ Hid ((Builtin.append_ #[24, 9] 24 #[v4, .string (str y.2)]).run Tryd.prog W4 = .ok v5 W5)
      ∧ Hid ((Builtin.append_ #[24, 24] 24 #[v5, .slice (some ⟨W5.heap.size, 0, none⟩) 1 1]).run Tryd.prog (W5.alloc (.cells #[.int .u8 10] 5)) = .ok v6 W6)
      ∧ Hid (PrI W0 (acc ++ (L ++ 32#8 :: (y.1 ++ 61#8 :: (y.2 ++ [10#8])))) v6 W6) := by
  obtain ⟨v1, W1, a1, b1, n1⟩ := bo_str hN h L (by omega)
  obtain ⟨v2, W2, a2, b2, n2⟩ := bo_byte n1 b1 32#8 32 rfl (by rw [List.length_append]; omega)
  obtain ⟨v3, W3, a3, b3, n3⟩ := bo_str n2 b2 y.1 (by simp only [List.length_append, List.length_cons, List.length_nil]; omega)
  obtain ⟨v4, W4, a4, b4, n4⟩ := bo_byte n3 b3 61#8 61 rfl (by simp only [List.length_append, List.length_cons, List.length_nil]; omega)
  obtain ⟨v5, W5, a5, b5, n5⟩ := bo_str n4 b4 y.2 (by simp only [List.length_append, List.length_cons, List.length_nil]; omega)
  obtain ⟨v6, W6, a6, b6, n6⟩ := bo_byte n5 b5 10#8 10 rfl (by simp only [List.length_append, List.length_cons, List.length_nil]; omega)
  refine ⟨v1, W1, v2, W2, v3, W3, v4, W4, v5, W5, v6, W6, a1, a2, n2, a3, a4, n4, a5, a6, ?_, n6⟩
  have e : acc ++ (L ++ 32#8 :: (y.1 ++ 61#8 :: (y.2 ++ [10#8]))) = acc ++ L ++ [32#8] ++ y.1 ++ [61#8] ++ y.2 ++ [10#8] := by simp
  rw [e]
  exact b6
set_option maxHeartbeats 16000000 in
set_option maxRecDepth 100000 in
theorem rprint_any {X : Nat → Prop} (w : World) (a : Option Addr) (n c : Nat) (l : List Pr) (hl : SlR RP X (.slice a n c) l w) (hw : wtP l ≤ 100000000) :
    Calls Tryd.prog 9 #[.slice a n c] w (PrA w l) := by
  obtain ⟨P, hP⟩ : ∃ P : Ending → World → Prop, P = PrA w l := ⟨_, rfl⟩
  rw [← hP]
  have HFa : Hid (∀ V, prE l = 141 → Nw w V → P (.returned (.tuple #[.slice none 0 0, .int .i64 141])) V) := fun V h1 h2 => by rw [hP]; exact ⟨_, by rw [h1]; rfl, h2, fun h => by omega, fun _ => rfl⟩
  have HFb : Hid (∀ V, prE l = 2 → Nw w V → P (.returned (.tuple #[.slice none 0 0, .int .i64 2])) V) := fun V h1 h2 => by rw [hP]; exact ⟨_, by rw [h1]; rfl, h2, fun h => by omega, fun _ => rfl⟩
  have HFc : Hid (∀ v V, prE l = 0 → Nw w V → Sl (fun k => k < w.heap.size) v (prt l) V → P (.returned (.tuple #[v, .int .i64 0])) V) := fun v V h1 h2 h3 => by rw [hP]; exact ⟨v, by rw [h1]; rfl, h2, fun _ => h3, fun h => absurd h1 h⟩
  clear hP
  obtain ⟨a', c', e, k1, k2, _⟩ := hl.form
  injection e with e1 e2 e3
  subst e1 e2 e3
  have hlen : 12 * l.length ≤ wtP l := by
    clear hl hw k1 HFa HFb HFc
    induction l with
    | nil => simp [wtP]
    | cons x r ih =>
      unfold wtP at ih ⊢
      rw [List.map_cons, List.sum_cons, List.length_cons]
      omega
  have HB := tHid hl
  have HM : Hid (∀ j, (hj : j < l.length) → l[j].1.length ≤ 100000000 ∧ l[j].2.length ≤ 100000000) := fun j hj => by have := wtP_mem (List.getElem_mem hj); omega
  clear hl
  have HWT := tHid hw
  have hll : l.length ≤ 100000000 := by omega
  clear hw hlen
  go_enter Tryd.func9, Tryd.ntmps9
  go_upto_region 2 with fail
  go_loopg [4] l.length (fun kx i wr => ∃ I : Nat, I ≤ l.length ∧ l.length - I ≤ kx ∧ i = .int .i64 I ∧ Hid (Nw w wr ∧ ∀ j, j < I → (hj : j < l.length) → canP l[j] = true))
  case atStart => exact ⟨0, by omega, by omega, rfl, Fr.refl _ _, fun j h => by omega⟩
  case round =>
    obtain ⟨I, hI, hkx, rfl, HI⟩ := hrel
    obtain ⟨hN, hC⟩ := HI.out
    by_cases hlt : I < l.length
    · obtain ⟨g, o, rfl, _, x0, x1⟩ := rp_at (HB.out.nw hN) I hlt
      obtain ⟨q1, q2⟩ := HM.out I hlt
      have hltI : (I : Int) < (l.length : Int) := by omega
      obtain ⟨y, hy⟩ : ∃ y, l[I]'hlt = y := ⟨_, rfl⟩
      rw [hy] at x0 x1 q1 q2
      have HQ := tHid (fun V => req_any y.1 (by omega) V)
      have HZ1 := tHid (fun V => rzero_any y.1 (by omega) V)
      have HZ2 := tHid (fun V => rzero_any y.2 (by omega) V)
      have b0 := str_emp y.1
      have b1 := str_emp2 y.1
      have HI2 : Hid (canP y = true → Nw w wr ∧ ∀ j, j < I + 1 → (hj : j < l.length) → canP l[j] = true) := fun hcan => ⟨hN, fun j hj hj' => by
        by_cases hji : j = I
        · subst hji; rw [hy]; exact hcan
        · exact hC j (by omega) hj'⟩
      have HF2 : Hid (canP y = false → P (.returned (.tuple #[.slice none 0 0, .int .i64 141])) wr) := fun hcan => HFa.out wr (by unfold prE; rw [if_neg (fun h => by have hq := h _ (List.getElem_mem hlt); rw [hy, hcan] at hq; cases hq)]) hN
      clear HFa HFb HFc HI hN hC hy HB HM HWT
      by_cases e1 : y.1 = []
      · have HF3 := tHid (HF2.out (by unfold canP; rw [decide_eq_true e1]; rfl))
        rw [decide_eq_true e1] at b0 b1
        clear HF2 HI2 HQ HZ1 HZ2 e1
        generalize str y.1 = s1 at *
        generalize str y.2 = s2 at *
        go_wp2_with fail
        first | exact HF3.out | (go_ret; exact HF3.out)
      · rw [decide_eq_false e1] at b0 b1
        by_cases e2 : 61#8 ∈ y.1
        · have HF3 := tHid (HF2.out (by unfold canP; rw [decide_eq_false e1, decide_eq_true e2]; rfl))
          obtain ⟨p1, p2⟩ := eqAt_in y.1 e2
          clear HF2 HI2 HZ1 HZ2 e1 e2
          generalize eqAt y.1 = Q at *
          generalize str y.1 = s1 at *
          generalize str y.2 = s2 at *
          go_wp2_with (first | (go_at_call 30; with_reducible refine (HQ.out _).mono ?_; rintro e w2 ⟨rfl, rfl⟩))
          first | exact HF3.out | (go_ret; exact HF3.out)
        · rw [eqAt_no y.1 e2] at HQ
          by_cases e3 : 0#8 ∈ y.1
          · have HF3 := tHid (HF2.out (by unfold canP; rw [decide_eq_false e1, decide_eq_false e2, decide_eq_true e3]; rfl))
            rw [decide_eq_true e3] at HZ1
            clear HF2 HI2 HZ2 e1 e2 e3
            generalize str y.1 = s1 at *
            generalize str y.2 = s2 at *
            go_wp2_with (first
              | (go_at_call 30; with_reducible refine (HQ.out _).mono ?_; rintro e w2 ⟨rfl, rfl⟩)
              | (go_at_call 31; with_reducible refine (HZ1.out _).mono ?_; rintro e w3 ⟨rfl, rfl⟩))
            first | exact HF3.out | (go_ret; exact HF3.out)
          · rw [decide_eq_false e3] at HZ1
            by_cases e4 : 0#8 ∈ y.2
            · have HF3 := tHid (HF2.out (by unfold canP; rw [decide_eq_false e1, decide_eq_false e2, decide_eq_false e3, decide_eq_true e4]; rfl))
              rw [decide_eq_true e4] at HZ2
              clear HF2 HI2 e1 e2 e3 e4
              generalize str y.1 = s1 at *
              generalize str y.2 = s2 at *
              go_wp2_with (first
                | (go_at_call 30; with_reducible refine (HQ.out _).mono ?_; rintro e w2 ⟨rfl, rfl⟩)
                | (go_at_call 31; first
                    | (with_reducible refine (HZ1.out _).mono ?_; rintro e w3 ⟨rfl, rfl⟩)
                    | (with_reducible refine (HZ2.out _).mono ?_; rintro e w4 ⟨rfl, rfl⟩)))
              first | exact HF3.out | (go_ret; exact HF3.out)
            · have HI3 := tHid (HI2.out (by unfold canP; rw [decide_eq_false e1, decide_eq_false e2, decide_eq_false e3, decide_eq_false e4]; rfl))
              rw [decide_eq_false e4] at HZ2
              clear HF2 HI2 e1 e2 e3 e4
              generalize str y.1 = s1 at *
              generalize str y.2 = s2 at *
              go_wp2_with (first
                | (go_at_call 30; with_reducible refine (HQ.out _).mono ?_; rintro e w2 ⟨rfl, rfl⟩)
                | (go_at_call 31; first
                    | (with_reducible refine (HZ1.out _).mono ?_; rintro e w3 ⟨rfl, rfl⟩)
                    | (with_reducible refine (HZ2.out _).mono ?_; rintro e w4 ⟨rfl, rfl⟩)))
              go_roundg (l.length - (I + 1))
              case measure => omega
              case rel => exact ⟨I + 1, by omega, by omega, by first | rfl | (congr 1), HI3⟩
    · have hall : ∀ x ∈ l, canP x = true := all_upto l _ (fun j hj => hC j (by omega) hj)
      obtain rfl : I = l.length := by omega
      have HALL := tHid hall
      have HNa := tHid hN
      clear HFa HI hN hC hall
      go_upto_region 8 with fail
      go_loopg [5, 6] l.length (fun kx v i wr2 => ∃ (I : Nat) (v5 : Value), I ≤ l.length ∧ l.length - I ≤ kx ∧ i = .int .i64 I ∧ v = v5 ∧ Hid (PrI w (prt (l.take I)) v5 wr2 ∧ ∀ j, j < I → (hj : j < l.length) → lng l[j] ≠ 0))
      case atStart => exact ⟨0, _, by omega, by omega, rfl, rfl, ⟨bo_nil _ _, HNa.out⟩, fun j h => by omega⟩
      case round =>
        obtain ⟨I, v5, hI, hkx, rfl, hv5, HI⟩ := hrel
        have hv5' := hv5.symm
        subst hv5'
        clear hv5
        obtain ⟨⟨hBO, hN⟩, hC⟩ := HI.out
        by_cases hlt : I < l.length
        · obtain ⟨g, o, rfl, _, x0, x1⟩ := rp_at (HB.out.nw hN) I hlt
          obtain ⟨q1, q2⟩ := HM.out I hlt
          have hltI : (I : Int) < (l.length : Int) := by omega
          have htk : prt (l.take (I + 1)) = prt (l.take I) ++ rec1 (l[I]'hlt) := by
            rw [List.take_add_one, List.getElem?_eq_getElem hlt, Option.toList_some, prt_app]
            simp [prt]
          have hpre : (prt (l.take I)).length + 2 * (l.take I).length ≤ wtP (l.take I) := prt_le _ (all_upto _ _ (fun j hj => by
            have hj2 : j < I := by rw [List.length_take] at hj; omega
            rw [List.getElem_take]
            exact hC j hj2 (by omega)))
          have hpre2 := wtP_take l I
          have hwt := HWT.out
          obtain ⟨y, hy⟩ : ∃ y, l[I]'hlt = y := ⟨_, rfl⟩
          rw [hy] at x0 x1 q1 q2 htk
          obtain ⟨S, hS⟩ : ∃ S, y.1.length + y.2.length + 3 = S := ⟨_, rfl⟩
          have sk := str_size y.1
          have sv := str_size y.2
          have hSi : 3 + ((str y.1).size : Int) + ((str y.2).size : Int) = (S : Int) := by omega
          have hS3 : S ≤ 200000003 := by omega
          have z1 : (str y.1).size ≤ 100000000 := by omega
          have z2 : (str y.2).size ≤ 100000000 := by omega
          have HXC : Hid (∀ V, Nw w V → V.cell? ⟨g, o + I * 2, none⟩ = some (.string (str y.1)) ∧ V.cell? ⟨g, o + I * 2 + 1, none⟩ = some (.string (str y.2))) := fun V hV => by
            obtain ⟨g', o', e, _, z0, z1⟩ := rp_at (HB.out.nw hV) I hlt
            injection e with e
            injection e with e1 e2 _
            subst e1 e2
            rw [hy] at z0 z1
            exact ⟨z0, z1⟩
          have HLONG : Hid (∀ V, lng y = 0 → Nw w V → P (.returned (.tuple #[.slice none 0 0, .int .i64 2])) V) := fun V hz hV => HFb.out V (by unfold prE; rw [if_pos HALL.out, if_neg (fun h => by have hq := h _ (List.getElem_mem hlt); rw [hy] at hq; exact hq hz)]) hV
          have HC2 : Hid (lng y ≠ 0 → ∀ j, j < I + 1 → (hj : j < l.length) → lng l[j] ≠ 0) := fun hz j hj hj' => by
            by_cases hji : j = I
            · subst hji; rw [hy]; exact hz
            · exact hC j (by omega) hj'
          have hls := lng_spec y
          rw [hS] at hls
          have HLS := tHid hls
          have HBO := tHid hBO
          have HNw := tHid hN
          have HTK := tHid htk
          have HPL : Hid ((prt (l.take I)).length ≤ 100000000) := by show _ ≤ _; omega
          clear HFb HFc HI hBO hN hC hy htk hls hpre hpre2 hwt HB HM HWT sk sv
          have HY1 : Hid (y.1.length + y.2.length + 3 = S) := hS
          clear hS
          obtain ⟨s1, hs1⟩ : ∃ s, str y.1 = s := ⟨_, rfl⟩
          obtain ⟨s2, hs2⟩ : ∃ s, str y.2 = s := ⟨_, rfl⟩
          rw [hs1] at x0 hSi z1 HXC
          rw [hs2] at x1 hSi z2 HXC
          have HS1 := tHid hs1
          have HS2 := tHid hs2
          clear hs1 hs2
          go_upto_region 10 with fail
          go_quiet (fail)
          go_upto_region 12 with fail
          go_loopg [8] 8 (fun kx d wrI => ∃ D : Nat, 1 ≤ D ∧ D ≤ 8 ∧ 8 - D ≤ kx ∧ d = .int .i64 D ∧ Hid (Nw wr wrI ∧ ∀ j, 1 ≤ j → j < D → ¬ S + j < 10 ^ j))
          case atStart => exact ⟨1, by omega, by omega, by omega, rfl, (Fr.refl _ _).drewN _, fun j h1 h2 => by omega⟩
          case round =>
            obtain ⟨D, hD1, hD8, hkd, rfl, HD⟩ := hrel
            obtain ⟨hNI, hDj⟩ := HD.out
            by_cases hd : D ≤ 7
            · obtain ⟨T, hT⟩ : ∃ T, S + D = T := ⟨_, rfl⟩
              have hTi : (S : Int) + (D : Int) = (T : Int) := by omega
              have hT3 : T ≤ 200000010 := by omega
              have HDC := tHid (fun V => rdec_any T (by omega) V)
              have hds := str_size (dec T)
              have hdl := dec_lt T
              by_cases hfit : T < 10 ^ D
              · -- it fits
                have hnd : (dec T).length = D := by
                  rw [dec_len]
                  obtain ⟨f, rfl⟩ : ∃ f, D = f + 1 := ⟨D - 1, by omega⟩
                  apply Lib.nDigits_unique f _ _ hfit
                  rcases Nat.eq_zero_or_pos f with hf | hf
                  · subst hf; simp; omega
                  · have := hDj f (by omega) (by omega)
                    omega
                have hlng : lng y = T := by
                  rcases HLS.out with ⟨_, h0⟩ | ⟨e, p1, p2, p3, p4, _, p6⟩
                  · exact absurd (by rw [hT]; exact hfit) (h0 D hD1 hd)
                  · have : e = D := by
                      rcases Nat.lt_trichotomy e D with h | h | h
                      · exact absurd (by rw [p3] at p4; exact p4) (hDj e p1 h)
                      · exact h
                      · exact absurd (by rw [hT]; exact hfit) (p6 D hD1 h)
                    rw [p3, this, hT]
                rw [hnd] at hds
                have hNV := HNw.out.trans hNI
                have HCH : Hid (∀ V, Nw wr V → ∃ v1 W1 v2 W2 v3 W3 v4 W4 v6 W5 v7 W6, Hid ((Builtin.append_ #[24, 9] 24 #[v5, .string (str (dec T))]).run Tryd.prog V = .ok v1 W1)
                    ∧ Hid ((Builtin.append_ #[24, 24] 24 #[v1, .slice (some ⟨W1.heap.size, 0, none⟩) 1 1]).run Tryd.prog (W1.alloc (.cells #[.int .u8 32] 5)) = .ok v2 W2) ∧ Hid (Nw w W2)
                    ∧ Hid ((Builtin.append_ #[24, 9] 24 #[v2, .string (str y.1)]).run Tryd.prog W2 = .ok v3 W3)
                    ∧ Hid ((Builtin.append_ #[24, 24] 24 #[v3, .slice (some ⟨W3.heap.size, 0, none⟩) 1 1]).run Tryd.prog (W3.alloc (.cells #[.int .u8 61] 5)) = .ok v4 W4) ∧ Hid (Nw w W4)
                    ∧ Hid ((Builtin.append_ #[24, 9] 24 #[v4, .string (str y.2)]).run Tryd.prog W4 = .ok v6 W5)
                    ∧ Hid ((Builtin.append_ #[24, 24] 24 #[v6, .slice (some ⟨W5.heap.size, 0, none⟩) 1 1]).run Tryd.prog (W5.alloc (.cells #[.int .u8 10] 5)) = .ok v7 W6)
                    ∧ Hid (PrI w (prt (l.take (I + 1))) v7 W6)) := fun V hV => by
                  have hch := rec_chain (hNV.trans hV) (bo_nw (bo_nw HBO.out hNI) hV) y (dec T) (by have := HPL.out; have := HY1.out; omega)
                  have hrec : rec1 y = dec T ++ 32#8 :: (y.1 ++ 61#8 :: (y.2 ++ [10#8])) := by unfold rec1; rw [hlng]
                  rw [← hrec, ← HTK.out] at hch
                  exact hch
                rw [HS1.out, HS2.out] at HCH
                have HC3 := tHid (HC2.out (by rw [hlng]; omega))
                clear HLONG HC2 hlng hnd hfit hdl HD hDj HLS HBO hT
                generalize str (dec T) = sT at *
                go_upto_region 16 with (first | (go_at_call 32; with_reducible refine (HDC.out _).mono ?_; rintro e w2 ⟨rfl, K2⟩; have K2 := tHid K2))
                go_upto_region 17 with (first
                  | (go_at_call 32; with_reducible refine (HDC.out _).mono ?_; rintro e w3 ⟨rfl, K3⟩; have K3 := tHid (Nw.trans K2.out K3); obtain ⟨v1, W1, v2, W2, v3, W3, v4, W4, v6, W5, v7, W6, R1, R2, N2, R3, R4, N4, R5, R6, HPI⟩ := HCH.out w3 K3.out)
                  | (at_builtin; refine Lib.wpList_append_run _ rfl _ _ 24 9 rfl v5 (.string sT) (by first | rfl | simp [Act.eval]) (by first | rfl | simp [Act.eval]) _ _ R1.out ?_))
                obtain ⟨xa, _⟩ := HXC.out W2 N2.out
                obtain ⟨_, xb⟩ := HXC.out W4 N4.out
                clear HCH x0 x1
                go_wp2_with (first
                  | (at_builtin; refine Lib.wpList_append_run _ rfl _ _ 24 24 rfl v1 (.slice (some ⟨W1.heap.size, 0, none⟩) 1 1) (by first | rfl | simp [Act.eval]) (by first | rfl | simp [Act.eval]) _ _ R2.out ?_)
                  | (at_builtin; refine Lib.wpList_append_run _ rfl _ _ 24 9 rfl v2 (.string s1) (by first | rfl | simp [Act.eval]) (by first | rfl | simp [Act.eval]) _ _ R3.out ?_)
                  | (at_builtin; refine Lib.wpList_append_run _ rfl _ _ 24 24 rfl v3 (.slice (some ⟨W3.heap.size, 0, none⟩) 1 1) (by first | rfl | simp [Act.eval]) (by first | rfl | simp [Act.eval]) _ _ R4.out ?_)
                  | (at_builtin; refine Lib.wpList_append_run _ rfl _ _ 24 9 rfl v4 (.string s2) (by first | rfl | simp [Act.eval]) (by first | rfl | simp [Act.eval]) _ _ R5.out ?_)
                  | (at_builtin; refine Lib.wpList_append_run _ rfl _ _ 24 24 rfl v6 (.slice (some ⟨W5.heap.size, 0, none⟩) 1 1) (by first | rfl | simp [Act.eval]) (by first | rfl | simp [Act.eval]) _ _ R6.out ?_))
                go_roundg (l.length - (I + 1))
                case measure => omega
                case rel => exact ⟨I + 1, v7, by omega, by omega, by first | rfl | (congr 1), rfl, HPI.out, HC3.out⟩
              · obtain ⟨G, hG⟩ : ∃ G, (dec T).length = G := ⟨_, rfl⟩
                rw [hG] at hds hdl
                have hne : ¬ ((G : Int) = (D : Int)) := fun e => by
                  have : G = D := by omega
                  rw [this] at hdl
                  exact hfit hdl
                have HD2 : Hid (∀ V, Nw wr V → Nw _ V ∧ ∀ j, 1 ≤ j → j < D + 1 → ¬ S + j < 10 ^ j) := fun V hV => ⟨hNI.trans hV, fun j j1 j2 => by
                  by_cases hjD : j = D
                  · subst hjD; rw [hT]; exact hfit
                  · exact hDj j j1 (by omega)⟩
                have hG9 : G ≤ 22 := by rw [← hG]; exact dec_short _ (by omega)
                clear HLONG HC2 hfit hdl HD hDj HLS HBO hT hG
                generalize str (dec T) = sT at *
                go_wp2_with (first | (go_at_call 32; with_reducible refine (HDC.out _).mono ?_; rintro e w2 ⟨rfl, K2⟩; have K2 := tHid K2))
                go_roundg (8 - (D + 1))
                case measure => omega
                case rel => exact ⟨D + 1, by omega, by omega, by omega, by first | rfl | (congr 1), HD2.out _ K2.out⟩
            · obtain rfl : D = 8 := by omega
              have hz : lng y = 0 := by
                rcases HLS.out with ⟨h0, _⟩ | ⟨e, p1, p2, p3, p4, _, _⟩
                · exact h0
                · exact absurd (by rw [p3] at p4; exact p4) (hDj e p1 (by omega))
              have HF2 := tHid (HLONG.out wr hz (HNw.out.trans hNI))
              clear HLONG HC2 HD hDj HLS HBO hz
              go_wp2_with fail
              first | exact HF2.out | (go_ret; exact HF2.out)
        · have hall : ∀ x ∈ l, lng x ≠ 0 := all_upto l _ (fun j hj => hC j (by omega) hj)
          obtain rfl : I = l.length := by omega
          have hpe : prE l = 0 := by unfold prE; rw [if_pos HALL.out, if_pos hall]
          rw [List.take_length] at hBO
          have HF2 := tHid (HFc.out v5 wr hpe hN (bo_sl hBO))
          clear HFb HFc HI hBO hN hC hall hpe
          go_wp2_with fail
          first | exact HF2.out | (go_ret; exact HF2.out)
end Go.Proofs.YtenkchhlaphocaaDoor

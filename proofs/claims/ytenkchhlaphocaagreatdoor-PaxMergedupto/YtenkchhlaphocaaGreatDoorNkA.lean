import Derived.Test.YtenkchhlaphocaaGreatDoorNjY
namespace Go.Proofs.YtenkchhlaphocaaGreatDoor
open Go.RowKit
set_option linter.unusedVariables false
/-! ### Print -/
def prE (l : List Pr) : Nat := if (∀ x ∈ l, canP x = true) then (if (∀ x ∈ l, lng x ≠ 0) then 0 else 2) else 141
def PrA (w : World) (l : List Pr) (e : Ending) (V : World) : Prop := ∃ v, e = .returned (.tuple #[v, .int .i64 (prE l : Nat)]) ∧ Hid (Nw w V ∧ (prE l = 0 → Sl (fun k => k < w.heap.size) v (prt l) V) ∧ (prE l ≠ 0 → v = .slice none 0 0))
def PrB (w : World) (l : List Pr) (e : Ending) (V : World) : Prop := ∃ v, e = .returned (.tuple #[v, .int .i64 (prE l : Nat)]) ∧ Hid (Nw w V ∧ (prE l = 0 → BO w.heap.size v (prt l) V) ∧ (prE l ≠ 0 → v = .slice none 0 0))
theorem bo_mono {B B' : Nat} {v : Value} {l : Bs} {w : World} (h : BO B v l w) (hb : B' ≤ B) : BO B' v l w := by
  obtain ⟨h1, h2⟩ := h
  refine ⟨h1, ?_⟩
  rcases h2 with h2 | ⟨g, cap, cur, rfl, hg, hh⟩
  · exact .inl h2
  · exact .inr ⟨g, cap, cur, rfl, by omega, hh⟩
theorem all_upto {α : Type} (l : List α) (p : α → Prop) (h : ∀ j, (hj : j < l.length) → p l[j]) : ∀ x ∈ l, p x := fun x hx => by
  obtain ⟨j, hj, e⟩ := List.getElem_of_mem hx
  rw [← e]; exact h j hj
theorem tail_rec (k v : Bs) : ((((⟨#[32]⟩ : ByteArray) ++ str k) ++ ⟨#[61]⟩) ++ str v) ++ ⟨#[10]⟩ = str (32#8 :: (k ++ 61#8 :: (v ++ [10#8]))) := by
  rw [show (⟨#[32]⟩ : ByteArray) = str [32#8] from rfl, show (⟨#[61]⟩ : ByteArray) = str [61#8] from rfl, show (⟨#[10]⟩ : ByteArray) = str [10#8] from rfl, str_app, str_app, str_app, str_app]
  simp
theorem cat_size (a b : ByteArray) : (a ++ b).size = a.size + b.size := ByteArray.size_append
/-- How Print's last loop stands. -/
def PrI (W0 : World) (acc : Bs) (v : Value) (V : World) : Prop := BO W0.heap.size v acc V ∧ Nw W0 V
set_option maxHeartbeats 16000000 in
set_option maxRecDepth 100000 in
theorem print_own {X : Nat → Prop} (w : World) (hE : EnvT w) (a : Option Addr) (n c : Nat) (l : List Pr) (hl : SlR RP X (.slice a n c) l w) (hw : wtP l ≤ 100000000) :
    Calls Tryz.prog 9 #[.slice a n c] w (PrB w l) := by
  obtain ⟨P, hP⟩ : ∃ P : Ending → World → Prop, P = PrB w l := ⟨_, rfl⟩
  rw [← hP]
  have HFa : Hid (∀ V, prE l = 141 → Nw w V → P (.returned (.tuple #[.slice none 0 0, .int .i64 141])) V) := fun V h1 h2 => by rw [hP]; exact ⟨_, by rw [h1]; rfl, h2, fun h => by omega, fun _ => rfl⟩
  have HFb : Hid (∀ V, prE l = 2 → Nw w V → P (.returned (.tuple #[.slice none 0 0, .int .i64 2])) V) := fun V h1 h2 => by rw [hP]; exact ⟨_, by rw [h1]; rfl, h2, fun h => by omega, fun _ => rfl⟩
  have HFc : Hid (∀ v V, prE l = 0 → Nw w V → BO w.heap.size v (prt l) V → P (.returned (.tuple #[v, .int .i64 0])) V) := fun v V h1 h2 h3 => by rw [hP]; exact ⟨v, by rw [h1]; rfl, h2, fun _ => h3, fun h => absurd h1 h⟩
  clear hP
  obtain ⟨a', c', e, k1, k2, _⟩ := hl.form
  injection e with e1 e2 e3
  subst e1 e2 e3
  have hlen : l.length ≤ 100000000 := by
    have : l.length * 12 ≤ wtP l := by
      clear hl hw k1 HFa HFb HFc
      induction l with
      | nil => simp [wtP]
      | cons x r ih =>
        unfold wtP at ih ⊢
        rw [List.map_cons, List.sum_cons, List.length_cons]
        omega
    omega
  have HB := tHid hl
  have HM : Hid (∀ j, (hj : j < l.length) → l[j].1.length ≤ 100000000 ∧ l[j].2.length ≤ 100000000) := fun j hj => by have := wtP_mem (List.getElem_mem hj); omega
  clear hl
  have HENV := tHid hE
  have HWT := tHid hw
  clear hE hw
  go_enter Tryz.func9, Tryz.ntmps9
  go_upto_region 2 with fail
  go_loopg [15] l.length (fun kx i wr => ∃ I : Nat, I ≤ l.length ∧ l.length - I ≤ kx ∧ i = .int .i64 I ∧ Hid (Nw w wr ∧ ∀ j, j < I → (hj : j < l.length) → canP l[j] = true))
  case atStart => exact ⟨0, by omega, by omega, rfl, Fr.refl _ _, fun j h => by omega⟩
  case round =>
    obtain ⟨I, hI, hkx, rfl, HI⟩ := hrel
    obtain ⟨hN, hC⟩ := HI.out
    by_cases hlt : I < l.length
    · obtain ⟨g, o, rfl, _, x0, x1⟩ := rp_at (HB.out.nw hN) I hlt
      obtain ⟨q1, q2⟩ := HM.out I hlt
      have hltI : (I : Int) < (l.length : Int) := by omega
      obtain ⟨y, hy⟩ : ∃ y, l[I]'hlt = y := ⟨_, rfl⟩
      rw [hy] at x0 x1 q1 q2
      have HPO := tHid (fun V => poss_any y (by omega) (by omega) V)
      obtain ⟨c0, c1⟩ := prCell wr y
      obtain ⟨W1, hW1⟩ : ∃ W1, wr.alloc (.cells (prC y) 28) = W1 := ⟨_, rfl⟩
      have hN1 : Nw wr W1 := by rw [← hW1]; exact (Fr.refl _ _).alloc _
      rw [hW1] at c0 c1
      simp only [prC] at hW1 HPO
      have HW1 := tHid hW1
      have HN1 := tHid (hN.trans hN1)
      have HLT := tHid hlt
      cases hcan : canP y with
      | true =>
        rw [hcan] at HPO
        have HI2 : Hid (∀ V, Nw w V → Nw w V ∧ ∀ j, j < I + 1 → (hj : j < l.length) → canP l[j] = true) := fun V hV => ⟨hV, fun j hj hj' => by
          by_cases hji : j = I
          · subst hji; rw [hy]; exact hcan
          · exact hC j (by omega) hj'⟩
        clear HFa HFb HFc HI hN hC hN1 hW1 hcan hy
        generalize str y.1 = s1 at *
        generalize str y.2 = s2 at *
        go_upto_region 4 with fail
        rw [HW1.out]
        go_wp2_with (first | (go_at_call 17; with_reducible refine (HPO.out _).mono ?_; rintro e w2 ⟨rfl, H2⟩; have H2 := tHid H2))
        go_roundg (l.length - (I + 1))
        case measure => omega
        case rel => exact ⟨I + 1, by omega, by omega, by first | rfl | (congr 1), HI2.out _ (HN1.out.trans H2.out)⟩
      | false =>
        rw [hcan] at HPO
        have hpe : prE l = 141 := by unfold prE; rw [if_neg (fun h => by have hq := h _ (List.getElem_mem hlt); rw [hy, hcan] at hq; cases hq)]
        have HF2 : Hid (∀ V, Nw w V → P (.returned (.tuple #[.slice none 0 0, .int .i64 141])) V) := fun V hV => HFa.out V hpe hV
        clear HFa HFb HFc HI hN hC hN1 hW1 hcan hpe hy
        generalize str y.1 = s1 at *
        generalize str y.2 = s2 at *
        go_upto_region 4 with fail
        rw [HW1.out]
        go_wp2_with (first | (go_at_call 17; with_reducible refine (HPO.out _).mono ?_; rintro e w2 ⟨rfl, H2⟩; have H2 := tHid H2))
        first | exact HF2.out _ (HN1.out.trans H2.out) | (go_ret; exact HF2.out _ (HN1.out.trans H2.out))
    · have hall : ∀ x ∈ l, canP x = true := all_upto l _ (fun j hj => hC j (by omega) hj)
      obtain rfl : I = l.length := by omega
      have HALL := tHid hall
      have HNa := tHid hN
      clear HFa HI hN hC hall
      have hszp : (prt ([] : List Pr)).length = 0 := rfl
      go_upto_region 9 with fail
      go_loopg [6, 25] l.length (fun kx z i wr2 => ∃ I : Nat, I ≤ l.length ∧ l.length - I ≤ kx ∧ i = .int .i64 I ∧ z = .int .i64 ((prt (l.take I)).length : Nat) ∧ (prt (l.take I)).length ≤ 100000000 ∧ Hid (Nw w wr2 ∧ ∀ j, j < I → (hj : j < l.length) → lng l[j] ≠ 0))
      case atStart => exact ⟨0, by omega, by omega, rfl, rfl, by rw [List.take_zero, hszp]; omega, HNa.out, fun j h => by omega⟩
      case round =>
        obtain ⟨I, hI, hkx, rfl, rfl, hpl, HI⟩ := hrel
        obtain ⟨hN, hC⟩ := HI.out
        by_cases hlt : I < l.length
        · obtain ⟨g, o, rfl, _, x0, x1⟩ := rp_at (HB.out.nw hN) I hlt
          obtain ⟨q1, q2⟩ := HM.out I hlt
          have hltI : (I : Int) < (l.length : Int) := by omega
          have htk : prt (l.take (I + 1)) = prt (l.take I) ++ rec1 (l[I]'hlt) := by
            rw [List.take_add_one, List.getElem?_eq_getElem hlt, Option.toList_some, prt_app]
            simp [prt]
          have hwI := wtP_take l (I + 1)
          obtain ⟨y, hy⟩ : ∃ y, l[I]'hlt = y := ⟨_, rfl⟩
          rw [hy] at x0 x1 q1 q2 htk
          have HLN := tHid (fun V => lng_any y (by omega) (by omega) V)
          obtain ⟨c0, c1⟩ := prCell wr y
          obtain ⟨W1, hW1⟩ : ∃ W1, wr.alloc (.cells (prC y) 28) = W1 := ⟨_, rfl⟩
          have hN1 : Nw wr W1 := by rw [← hW1]; exact (Fr.refl _ _).alloc _
          rw [hW1] at c0 c1
          simp only [prC] at hW1 HLN
          have HW1 := tHid hW1
          have HN1 := tHid (hN.trans hN1)
          by_cases hz : lng y = 0
          · rw [hz] at HLN
            have hpe : prE l = 2 := by unfold prE; rw [if_pos HALL.out, if_neg (fun h => by have hq := h _ (List.getElem_mem hlt); rw [hy] at hq; exact hq hz)]
            have HF2 : Hid (∀ V, Nw w V → P (.returned (.tuple #[.slice none 0 0, .int .i64 2])) V) := fun V hV => HFb.out V hpe hV
            have HLN0 : Hid (∀ V, Calls Tryz.prog 18 #[.agg #[.string (str y.1), .string (str y.2)]] V fun e w' => e = .returned (.int .i64 0) ∧ Nw V w') := HLN
            clear HFb HFc HI hN hC hN1 hW1 hpe hy htk hwI HLN hz
            generalize (prt (l.take I)).length = Z at *
            generalize str y.1 = s1 at *
            generalize str y.2 = s2 at *
            go_upto_region 11 with fail
            rw [HW1.out]
            go_wp2_with (first | (go_at_call 18; with_reducible refine (HLN0.out _).mono ?_; rintro e w2 ⟨rfl, H2⟩; have H2 := tHid H2))
            first | exact HF2.out _ (HN1.out.trans H2.out) | (go_ret; exact HF2.out _ (HN1.out.trans H2.out))
          · have hrl := rec1_len y hz
            have hz0 : ¬ ((lng y : Nat) : Int) = 0 := by omega
            have htl : (prt (l.take (I + 1))).length = (prt (l.take I)).length + lng y := by rw [htk, List.length_append, hrl]
            have hb2 : (prt (l.take (I + 1))).length ≤ 100000000 := by
              have := prt_le (l.take (I + 1)) (all_upto _ _ (fun j hj => by
                have hj2 : j < I + 1 := by rw [List.length_take] at hj; omega
                have hj3 : j < l.length := by omega
                rw [List.getElem_take]
                by_cases hji : j = I
                · subst hji; rw [hy]; exact hz
                · exact hC j (by omega) hj3))
              have := HWT.out
              omega
            have HI2 : Hid (∀ V, Nw w V → Nw w V ∧ ∀ j, j < I + 1 → (hj : j < l.length) → lng l[j] ≠ 0) := fun V hV => ⟨hV, fun j hj hj' => by
              by_cases hji : j = I
              · subst hji; rw [hy]; exact hz
              · exact hC j (by omega) hj'⟩
            obtain ⟨Z2, hZ2⟩ : ∃ Z2, (prt (l.take (I + 1))).length = Z2 := ⟨_, rfl⟩
            rw [hZ2] at htl hb2
            have HZ2 := tHid hZ2
            have hLl : lng y ≤ 100000000 := by omega
            clear HFb HFc HI hN hC hN1 hW1 hy htk hwI hrl hz hZ2
            generalize lng y = L at *
            generalize (prt (l.take I)).length = Z at *
            have hZi : (Z : Int) + (L : Int) = (Z2 : Int) := by omega
            clear htl
            generalize str y.1 = s1 at *
            generalize str y.2 = s2 at *
            go_upto_region 11 with fail
            rw [HW1.out]
            go_wp2_with (first | (go_at_call 18; with_reducible refine (HLN.out _).mono ?_; rintro e w2 ⟨rfl, H2⟩; have H2 := tHid H2))
            go_roundg (l.length - (I + 1))
            case measure => omega
            case rel => exact ⟨I + 1, by omega, by omega, by first | rfl | (congr 1), by first | (rw [HZ2.out]; done) | (rw [HZ2.out]; congr 1), by rw [HZ2.out]; exact hb2, HI2.out _ (HN1.out.trans H2.out)⟩
        · have hall : ∀ x ∈ l, lng x ≠ 0 := all_upto l _ (fun j hj => hC j (by omega) hj)
          obtain rfl : I = l.length := by omega
          have hpe : prE l = 0 := by unfold prE; rw [if_pos HALL.out, if_pos hall]
          rw [List.take_length] at hpl ⊢
          obtain ⟨i5, hi5, hz5, hs5, hb5⟩ := infoB
          obtain ⟨W0, hm0, hm1, hm2⟩ := run_make_own (P := Tryz.prog) wr wr.heap.size 32 5 i5 _ 1 Tryz.underlying32 hi5 hz5 hs5 .i64 .i64 (prt l).length (by rw [hb5]; omega) (by unfold maxLen; omega) (Nat.le_refl _)
          have hNW0 : Nw wr W0 := ⟨hm2.os, hm2.tape, hm2.output, hm2.size, fun k hk _ => hm2.block k hk (by simp)⟩
          have hEb : EnvT wr := HENV.out.nw hN
          have H0 : Hid (PrI wr [] (.slice (some ⟨wr.heap.size, 0, none⟩) 0 (prt l).length) W0) := ⟨hm1, hNW0⟩
          have HNb := tHid hN
          have HEB := tHid hEb
          have HA2 := tHid hall
          have HPE := tHid hpe
          obtain ⟨wb, hwb⟩ : ∃ wb, wr = wb := ⟨_, rfl⟩
          rw [hwb] at H0 HNb HEB hm0
          have hwb' := hwb.symm
          subst hwb'
          clear hwb
          obtain ⟨Z, hZ⟩ : ∃ Z, (prt l).length = Z := ⟨_, rfl⟩
          rw [hZ] at H0 hm0 hpl ⊢
          clear HFb HI hN hC hall hpe hm1 hm2 hNW0 hEb hZ hi5 hz5 hs5 hb5 HNa
          go_upto_region 18 with fail
          go_loopg [10, 41] l.length (fun kx v i wr3 => ∃ (I : Nat) (v5 : Value), I ≤ l.length ∧ l.length - I ≤ kx ∧ i = .int .i64 I ∧ v = v5 ∧ Hid (PrI wb (prt (l.take I)) v5 wr3))
          case atStart => exact ⟨0, _, by omega, by omega, rfl, rfl, H0⟩
          case round =>
            obtain ⟨I, v5, hI, hkx, rfl, hv5, HI⟩ := hrel
            have hv5' := hv5.symm
            subst hv5'
            clear hv5
            obtain ⟨hBO, hNb⟩ := HI.out
            by_cases hlt : I < l.length
            · obtain ⟨g, o, rfl, _, x0, x1⟩ := rp_at (HB.out.nw (HNb.out.trans hNb)) I hlt
              obtain ⟨q1, q2⟩ := HM.out I hlt
              have hltI : (I : Int) < (l.length : Int) := by omega
              have htk : prt (l.take (I + 1)) = prt (l.take I) ++ rec1 (l[I]'hlt) := by
                rw [List.take_add_one, List.getElem?_eq_getElem hlt, Option.toList_some, prt_app]
                simp [prt]
              have hlz := HA2.out _ (List.getElem_mem hlt)
              have hpre : (prt (l.take I)).length + 2 * (l.take I).length ≤ wtP (l.take I) := prt_le _ (fun x hx => HA2.out x (List.mem_of_mem_take hx))
              have hpre2 := wtP_take l I
              have hwt := HWT.out
              obtain ⟨y, hy⟩ : ∃ y, l[I]'hlt = y := ⟨_, rfl⟩
              rw [hy] at x0 x1 q1 q2 htk hlz
              have HLN := tHid (fun V => lng_any y (by omega) (by omega) V)
              have hll := lng_le y
              obtain ⟨pb, hpb⟩ : ∃ pb, wr.heap.size = pb := ⟨_, rfl⟩
              obtain ⟨W1, hW1⟩ : ∃ W1, wr.alloc (.cells (prC y) 28) = W1 := ⟨_, rfl⟩
              have hN1 : Nw wr W1 := by rw [← hW1]; exact (Fr.refl _ _).alloc _
              have hrow : W1.heap[pb]? = some (.cells (prC y) 28) := by rw [← hW1, ← hpb]; exact newHeap _ _
              have HCELL : Hid (∀ V : World, V.heap[pb]? = some (.cells (prC y) 28) → V.cell? ⟨pb, 0, none⟩ = some (.string (str y.1)) ∧ V.cell? ⟨pb, 1, none⟩ = some (.string (str y.2))) := fun V hV => by
                constructor <;> (unfold World.cell?; rw [hV]; rfl)
              obtain ⟨c0, c1⟩ := HCELL.out W1 hrow
              have HNUM : Hid (∀ V, Nw W1 V → Calls Tryz.prog 19 #[v5, .int .i64 (lng y : Nat), .int .i64 10] V fun e w' => ∃ v', e = .returned v' ∧ Hid (BO wb.heap.size v' (prt (l.take I) ++ dec (lng y)) w' ∧ Nw wb w' ∧ w'.heap[pb]? = some (.cells (prC y) 28))) := fun V hV => by
                refine (bo_num HEB.out (hNb.trans (hN1.trans hV)) (bo_nw (bo_nw hBO hN1) hV) (by omega) (lng y) (by omega)).mono ?_
                rintro e w' ⟨v', rfl, H⟩
                exact ⟨v', rfl, H.out.1, H.out.2.1, H.out.2.2 pb _ 28 (by decide) (hV.heap hrow)⟩
              have htail := tail_rec y.1 y.2
              have hdl : (dec (lng y)).length ≤ 22 := dec_short _ (by omega)
              have HSTR : Hid (∀ v' V, BO wb.heap.size v' (prt (l.take I) ++ dec (lng y)) V → Nw wb V → ∃ v'' W, Hid ((Builtin.append_ #[32, 9] 32 #[v', .string (str (32#8 :: (y.1 ++ 61#8 :: (y.2 ++ [10#8]))))]).run Tryz.prog V = .ok v'' W) ∧ PrI wb (prt (l.take (I + 1))) v'' W) := fun v' V h1 h2 => by
                obtain ⟨v'', W, a1, a2, a3⟩ := bo_str h2 h1 (32#8 :: (y.1 ++ 61#8 :: (y.2 ++ [10#8]))) (by
                  simp only [List.length_append, List.length_cons, List.length_nil]
                  omega)
                refine ⟨v'', W, a1, ?_, a3⟩
                rw [htk]
                unfold rec1
                rw [← List.append_assoc]
                exact a2
              have sk := str_size y.1
              have sv := str_size y.2
              have t1 : ((⟨#[32]⟩ : ByteArray) ++ str y.1).size ≤ 200000000 := by rw [cat_size, sk]; show 1 + _ ≤ _; omega
              have t2 : (((⟨#[32]⟩ : ByteArray) ++ str y.1) ++ ⟨#[61]⟩).size ≤ 200000000 := by rw [cat_size, cat_size, sk]; show 1 + _ + 1 ≤ _; omega
              have t3 : ((((⟨#[32]⟩ : ByteArray) ++ str y.1) ++ ⟨#[61]⟩) ++ str y.2).size ≤ 300000000 := by rw [cat_size, cat_size, cat_size, sk, sv]; show 1 + _ + 1 + _ ≤ _; omega
              have t4 : (str y.1).size ≤ 100000000 := by omega
              have t5 : (str y.2).size ≤ 100000000 := by omega
              simp only [prC] at hW1 HLN
              have HW1 := tHid hW1
              have HPB := tHid hpb
              have hL : lng y ≤ 300000000 := by omega
              clear HFc HI hBO hNb hN1 hW1 hpb hrow hy htk hlz hpre hpre2 hwt hll hdl sk sv
              obtain ⟨s1, hs1⟩ : ∃ s1, (⟨#[32]⟩ : ByteArray) ++ str y.1 = s1 := ⟨_, rfl⟩
              rw [hs1] at t1 t2 t3 htail
              obtain ⟨s2, hs2⟩ : ∃ s2, s1 ++ (⟨#[61]⟩ : ByteArray) = s2 := ⟨_, rfl⟩
              rw [hs2] at t2 t3 htail
              obtain ⟨s3, hs3⟩ : ∃ s3, s2 ++ str y.2 = s3 := ⟨_, rfl⟩
              rw [hs3] at t3 htail
              go_upto_region 20 with fail
              rw [HW1.out, HPB.out]
              go_upto_region 21 with (first
                | (go_at_call 18; with_reducible refine (HLN.out _).mono ?_; rintro e w2 ⟨rfl, H2⟩; have H2 := tHid H2)
                | (go_at_call 19; with_reducible refine (HNUM.out _ H2.out).mono ?_; rintro e w3 ⟨v', rfl, H3⟩))
              obtain ⟨b1, b2, b3⟩ := H3.out
              obtain ⟨d0, d1⟩ := HCELL.out w3 b3
              obtain ⟨v'', W, HA, hPI⟩ := HSTR.out v' w3 b1 b2
              have HPI := tHid hPI
              clear HSTR HNUM HCELL HLN b1 b2 b3 H3 hPI c0 c1
              generalize str (32#8 :: (y.1 ++ 61#8 :: (y.2 ++ [10#8]))) = s4 at *
              go_wp2_with (first
                | (at_builtin; refine Lib.wpList_append_run _ rfl _ _ 32 9 rfl v' (.string s4) (by first | rfl | simp [Act.eval]) (by first | rfl | simp [Act.eval]) _ _ HA.out ?_))
              go_roundg (l.length - (I + 1))
              case measure => omega
              case rel => exact ⟨I + 1, _, by omega, by omega, by first | rfl | (congr 1), rfl, HPI⟩
            · obtain rfl : I = l.length := by omega
              rw [List.take_length] at hBO
              have hsl := bo_mono hBO HNb.out.size
              have HF2 := tHid (HFc.out v5 wr HPE.out (HNb.out.trans hNb) hsl)
              clear HFc HI hBO hNb hsl
              go_wp2_with fail
              first | exact HF2.out | (go_ret; exact HF2.out)
theorem print_any {X : Nat → Prop} (w : World) (hE : Env w) (a : Option Addr) (n c : Nat) (l : List Pr) (hl : SlR RP X (.slice a n c) l w) (hw : wtP l ≤ 100000000) :
    Calls Tryz.prog 9 #[.slice a n c] w (PrA w l) := by
  refine (print_own w hE.t a n c l hl hw).mono ?_
  rintro e V ⟨v, rfl, H⟩
  exact ⟨v, rfl, H.out.1, fun h => bo_sl (H.out.2.1 h), H.out.2.2⟩
end Go.Proofs.YtenkchhlaphocaaGreatDoor

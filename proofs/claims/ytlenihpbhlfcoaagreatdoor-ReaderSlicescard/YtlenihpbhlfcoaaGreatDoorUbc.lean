import Derived.Test.YtlenihpbhlfcoaaGreatDoorUbb
set_option maxHeartbeats 8000000
set_option maxRecDepth 100000
set_option linter.unusedSimpArgs false
set_option linter.unusedVariables false
namespace Go.Proofs.YtlenihpbhlfcoaaGreatDoor
open Go.RowKit
theorem by_beq (t : By) (c : Nat) (hc : c < 256) : (((t.toNat : Nat) : Int) == (c : Nat)) = decide (t = BitVec.ofNat 8 c) := by
 have h8 : (BitVec.ofNat 8 c).toNat = c := by simp [hc]
 by_cases h : t = BitVec.ofNat 8 c
 ·rw [decide_eq_true h, h, h8]; simp
 ·rw [decide_eq_false h, beq_eq_false_iff_ne];intro e;exact h (BitVec.eq_of_toNat_eq (by rw [h8]; omega))
theorem qtells_any (h : Hr) (R : List By) (q : Nat) (w : World) : Calls Tryz.prog 36 #[.agg (hdC h R q)] w fun e w' => e = .returned (.bool (isTl h.typ)) ∧ Nw w w' := by
 refine asP fun P hP => ?_
 have HF : Hid (∀ W r, Nw w W → isTl h.typ = r → P (.returned (.bool r)) W) := fun W r hW hr => by rw [hP, ← hr]; exact ⟨rfl, hW⟩
 clear hP;have c8 := hdC_lo h R q 8 (.int .u8 h.typ.toNat) rfl;generalize hdC h R q = C at *;obtain ⟨W0, hW0⟩ : ∃ W0, w.alloc (.cells C 89) = W0 := ⟨_, rfl⟩;have hN0 : Nw w W0 := by rw [← hW0]; exact (Fr.refl _ _).alloc _
 have x8 : W0.cell? ⟨w.heap.size, 8, none⟩ = some (.int .u8 h.typ.toNat) := by rw [← hW0]; exact cell_of (newHeap _ _) 8 _ c8
 have HW0 := tHid hW0;have HE := tHid (fun r (hr : isTl h.typ = r) => HF.out W0 r hN0 hr);clear hW0 hN0 c8 HF;have b1 : ((h.typ.toNat : Int) == 103) = decide (h.typ = 103#8) := by_beq h.typ 103 (by omega);have b2 : ((h.typ.toNat : Int) == 120) = decide (h.typ = 120#8) := by_beq h.typ 120 (by omega);have b3 : ((h.typ.toNat : Int) == 76) = decide (h.typ = 76#8) := by_beq h.typ 76 (by omega);have b4 : ((h.typ.toNat : Int) == 75) = decide (h.typ = 75#8) := by_beq h.typ 75 (by omega);unfold isTl at HE;by_cases h1 : h.typ = 103#8
 ·rw [decide_eq_true h1] at HE b1;clear h1 b2 b3 b4;go_enter Tryz.func36, Tryz.ntmps36;go_upto_region 1 with fail;rw [HW0.out]
  go_wp2_with fail
  exact HE.out _ rfl
 rw [decide_eq_false h1] at HE b1;by_cases h2 : h.typ = 120#8
 ·rw [decide_eq_true h2] at HE b2;clear h1 h2 b3 b4;go_enter Tryz.func36, Tryz.ntmps36;go_upto_region 1 with fail;rw [HW0.out]
  go_wp2_with fail
  exact HE.out _ rfl
 rw [decide_eq_false h2] at HE b2;by_cases h3 : h.typ = 76#8
 ·rw [decide_eq_true h3] at HE b3;clear h1 h2 h3 b4;go_enter Tryz.func36, Tryz.ntmps36;go_upto_region 1 with fail;rw [HW0.out]
  go_wp2_with fail
  exact HE.out _ rfl
 rw [decide_eq_false h3] at HE b3;by_cases h4 : h.typ = 75#8
 ·rw [decide_eq_true h4] at HE b4;clear h1 h2 h3 h4;go_enter Tryz.func36, Tryz.ntmps36;go_upto_region 1 with fail;rw [HW0.out]
  go_wp2_with fail
  exact HE.out _ rfl
 rw [decide_eq_false h4] at HE b4;clear h1 h2 h3 h4;go_enter Tryz.func36, Tryz.ntmps36;go_upto_region 1 with fail;rw [HW0.out]
 go_wp2_with fail
 exact HE.out _ rfl
theorem qfew_any (a : Option Addr) (n c : Nat) (hn : n < 9223372036854775808) (h : Hr) (R : List By) (hR : R.length = 512) (q : Nat) (w : World) : Calls Tryz.prog 59 #[.slice a n c, .agg (hdC h R q)] w fun e w' => (1024 < n ∧ e = gvR (q : Nat) 2 ∧ Nw w w') ∨ (n ≤ 1024 ∧ e = .returned (.slice a n c) ∧ Nw w w') := by
 refine asP fun P hP => ?_
 have cq := hdC_at h R hR q;generalize hdC h R q = C at *;obtain ⟨W0, hW0⟩ : ∃ W0, w.alloc (.cells C 89) = W0 := ⟨_, rfl⟩;have hN0 : Nw w W0 := by rw [← hW0]; exact (Fr.refl _ _).alloc _
 have x8 : W0.cell? ⟨w.heap.size, 526, none⟩ = some (.int .i64 (q : Nat)) := by rw [← hW0]; exact cell_of (newHeap _ _) 526 _ cq
 have HW0 := tHid hW0;have HG := tHid (qgiveUp_any (q : Nat) 2);by_cases hlt : 1024 < n
 ·have d1 : (1024 : Int) < (n : Int) := by omega
  have HF : Hid (P (gvR (q : Nat) 2) W0) := by rw [hP]; exact .inl ⟨hlt, rfl, hN0⟩
  clear hP hW0 hN0 cq hlt;go_enter Tryz.func59, Tryz.ntmps59;go_upto_region 1 with fail;rw [HW0.out]
  go_wp2_with (first | (go_at_call 39; with_reducible refine (HG.out _).mono ?_; rintro x w2 ⟨rfl, rfl⟩))
  exact ⟨rfl, HF.out⟩
 ·have d1 : ¬ (1024 : Int) < (n : Int) := by omega
  have HF : Hid (P (.returned (.slice a n c)) W0) := by rw [hP]; exact .inr ⟨by omega, rfl, hN0⟩
  clear hP hW0 hN0 cq hlt;go_enter Tryz.func59, Tryz.ntmps59;go_upto_region 1 with fail;rw [HW0.out]
  go_wp2_with fail
  exact HF.out
theorem qparsed_any {X : Nat → Prop} (a : Option Addr) (n c : Nat) (d : List By) (w : World) (hd : Sl X (.slice a n c) d w) (hn : n ≤ 1000000000) (q : Nat) (hq : q ≤ 140737488351232) : Calls Tryz.prog 61 #[.slice a n c, .int .i64 (q : Nat)] w fun e w' => ((prs d 0 []).2.2 ≠ 0 ∧ e = gvR ((q + (prs d 0 []).2.1 : Nat) : Int) ((prs d 0 []).2.2 : Nat) ∧ Nw w w') ∨ ((prs d 0 []).2.2 = 0 ∧ ∃ v, e = .returned v ∧ Hid (Nw w w' ∧ ∃ og, OgR RP og v (prs d 0 []).1 w' ∧ ∀ g, og = some g → w.heap.size ≤ g)) := by
 refine asP fun P hP => ?_
 have hple := prs_le d;obtain ⟨hdn, _, _⟩ := slx_len hd;have HP := tHid (parse_any w a n c d hd hn);unfold PaA at HP;generalize prs d 0 [] = r at *;obtain ⟨l, pl, E⟩ := r;simp only at HP hP hple;obtain ⟨Q, hQ⟩ : ∃ Q, q + pl = Q := ⟨_, rfl⟩;have d1 : (q : Int) + (pl : Int) = (Q : Int) := by omega
 have kw : wrap64 (Q : Int) = (Q : Int) := by unfold wrap64; omega
 by_cases he : E = 0
 ·subst he;have HM := tHid (qmust_ok (Q : Nat));have HF : Hid (∀ v V, (Nw w V ∧ ∃ og, OgR RP og v l V ∧ ∀ g, og = some g → w.heap.size ≤ g) → P (.returned v) V) := fun v V h => by rw [hP]; exact .inr ⟨rfl, v, rfl, h⟩
  clear hP hd hQ hple;go_enter Tryz.func61, Tryz.ntmps61
  go_wp2_with (first
   | (go_at_call 100; with_reducible refine HP.out.mono ?_; rintro e w1 ⟨v, rfl, K1⟩)
   | (go_at_call 52; with_reducible refine (HM.out _).mono ?_; rintro e w2 ⟨rfl, rfl⟩))
  exact HF.out _ _ K1.out
 ·have hei : ¬ (E : Int) = 0 := by omega
  have HM := tHid (qmust_bad (Q : Nat) (E : Nat) hei);have HF : Hid (∀ V, Nw w V → P (gvR (Q : Nat) (E : Nat)) V) := fun V hV => by rw [hP]; exact .inl ⟨he, by rw [hQ], hV⟩
  clear hP hd hQ hple he hei;go_enter Tryz.func61, Tryz.ntmps61
  go_wp2_with (first
   | (go_at_call 100; with_reducible refine HP.out.mono ?_; rintro e w1 ⟨v, rfl, K1⟩)
   | (go_at_call 52; with_reducible refine (HM.out _).mono ?_; rintro e w2 ⟨rfl, rfl⟩))
  exact ⟨rfl, HF.out _ K1.out.1⟩
end Go.Proofs.YtlenihpbhlfcoaaGreatDoor

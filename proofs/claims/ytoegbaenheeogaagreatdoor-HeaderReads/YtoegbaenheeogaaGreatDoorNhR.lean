import Derived.Test.YtoegbaenheeogaaGreatDoorNhO
import Derived.Test.YtoegbaenheeogaaGreatDoorNgB
import Derived.Test.YtoegbaenheeogaaGreatDoorNfJ
namespace Go.Proofs.YtoegbaenheeogaaGreatDoor
open Go.RowKit
set_option linter.unusedVariables false
/-! ### Decode's parts -/
theorem fd_sl (w : World) (g o n : Nat) (b : List By) (hb : b.length = 512) (hon : o + n ≤ 512) (h : RcH g b w) : Sl (fun _ => False) (.slice (some ⟨g, o, none⟩) n (512 - o)) (fd b o n) w := by
  have hl : (fd b o n).length = n := by unfold fd; rw [List.length_take, List.length_drop]; omega
  refine .inr ⟨g, fun h => h, o, 512 - o, by rw [hl], by rw [hl]; omega, by omega, ?_⟩
  have hr : Rd g 0 b w := fun j hj => by
    rw [Nat.zero_add]
    have := rc_at b j hj
    have hh : w.heap[g]? = some (.cells (rc b) 28) := h
    simp only [World.cell?, hh]
    simpa using this
  have := (hr.drop o).take n
  rw [Nat.zero_add] at this
  exact this
set_option maxHeartbeats 1000000 in
theorem typeOf_any (g : Nat) (b : List By) (hb : b.length = 512) (w : World) (hg : RcH g b w) : Calls Tryz.prog 12 #[.pointer (some ⟨g, 0, none⟩)] w fun e w' => e = .returned (.int .u8 ((tyOf b).toNat : Nat)) ∧ w' = w := by
  obtain ⟨P, hP⟩ : ∃ P : Ending → World → Prop, P = fun e w' => e = .returned (.int .u8 ((tyOf b).toNat : Nat)) ∧ w' = w := ⟨_, rfl⟩
  rw [← hP]
  have HF : Hid (P (.returned (.int .u8 ((tyOf b).toNat : Nat))) w) := by rw [hP]; exact ⟨rfl, rfl⟩
  clear hP
  have c := (hg.cell 156 (by omega)).1
  have ht : b.getD 156 0 = b[156]'(by omega) := by rw [List.getD_eq_getElem?_getD, List.getElem?_eq_getElem (by omega)]; rfl
  unfold tyOf at HF
  rw [ht] at HF
  generalize b[156]'(by omega) = x at *
  clear hg ht
  by_cases hx : x = 0#8
  · rw [if_pos hx] at HF
    subst hx
    go_enter Tryz.func12, Tryz.ntmps12
    go_wp2_with fail
    exact HF.out
  · rw [if_neg hx] at HF
    have hq : ((x.toNat : Int) == 0) = false := by
      rw [beq_eq_false_iff_ne]
      intro e
      apply hx
      apply BitVec.eq_of_toNat_eq
      show x.toNat = 0
      omega
    have hq2 : ¬ x.toNat = 0 := fun e => by rw [beq_eq_false_iff_ne] at hq; omega
    go_enter Tryz.func12, Tryz.ntmps12
    go_wp2_with fail
    exact HF.out
set_option maxHeartbeats 2000000 in
set_option maxRecDepth 100000 in
theorem nread_any (o n g : Nat) (F : Value) (bl : Bool) (b : List By) (w : World) (hb : b.length = 512) (hn : 0 < n) (hon : o + n ≤ 512) (hg : RcH g b w) :
    Calls Tryz.prog 17 #[.agg #[.int .i64 (o : Nat), .int .i64 (n : Nat), F, .bool bl], .pointer (some ⟨g, 0, none⟩)] w fun e w' => ∃ z : Int, e = .returned (.tuple #[.int .i64 z, .int .i64 (nbE b o n bl : Nat)]) ∧ Hid ((nbE b o n bl = 0 → z = nmN (fd b o n)) ∧ Nw w w') := by
  obtain ⟨P, hP⟩ : ∃ P : Ending → World → Prop, P = fun e w' => ∃ z : Int, e = .returned (.tuple #[.int .i64 z, .int .i64 (nbE b o n bl : Nat)]) ∧ Hid ((nbE b o n bl = 0 → z = nmN (fd b o n)) ∧ Nw w w') := ⟨_, rfl⟩
  rw [← hP]
  have HF : Hid (∀ W z E, Nw w W → nbE b o n bl = E → (E = 0 → z = nmN (fd b o n)) → P (.returned (.tuple #[.int .i64 z, .int .i64 (E : Nat)])) W) := fun W z E hW hE hz => by rw [hP, ← hE]; exact ⟨z, rfl, fun q => hz (by rw [← hE]; exact q), hW⟩
  clear hP
  obtain ⟨W1, hW1⟩ : ∃ W1, w.alloc (.cells #[.int .i64 (o : Nat), .int .i64 (n : Nat), F, .bool bl] 59) = W1 := ⟨_, rfl⟩
  have hB : W1.heap[w.heap.size]? = some (.cells #[.int .i64 (o : Nat), .int .i64 (n : Nat), F, .bool bl] 59) := by rw [← hW1]; exact newHeap _ _
  have hN1 : Nw w W1 := by rw [← hW1]; exact (Fr.refl _ _).alloc _
  have hnb : nbE b o n bl = if nmE (fd b o n) = 0 then (if 0 ≤ nmN (fd b o n) ∨ bl = true then 0 else 121) else nmE (fd b o n) := rfl
  have HOF : Hid (Calls Tryz.prog 11 #[.agg #[.int .i64 (o : Nat), .int .i64 (n : Nat)], .pointer (some ⟨g, 0, none⟩)] W1 fun e w2 => e = .returned (.slice (some ⟨g, o, none⟩) n (512 - o)) ∧ Hid (Calls Tryz.prog 45 #[.slice (some ⟨g, o, none⟩) n (512 - o)] w2 fun e w3 => e = .returned (.tuple #[.int .i64 (nmN (fd b o n)), .int .i64 (nmE (fd b o n) : Nat)]) ∧ w3.cell? ⟨w.heap.size, 0, none⟩ = some (.int .i64 (o : Nat)) ∧ w3.cell? ⟨w.heap.size, 1, none⟩ = some (.int .i64 (n : Nat)) ∧ w3.cell? ⟨w.heap.size, 2, none⟩ = some F ∧ w3.cell? ⟨w.heap.size, 3, none⟩ = some (.bool bl) ∧ Hid (Nw w w3))) := by
    refine (of_any o n g b W1 hb hn hon (hg.kept hN1 (fun h => h))).mono ?_
    rintro e w2 ⟨rfl, k2⟩
    refine ⟨rfl, ?_⟩
    have t := number_any w2 _ n (512 - o) (fd b o n) (fd_sl w2 g o n b hb hon ((hg.kept hN1 (fun h => h)).kept k2 (fun h => h)))
    rw [numA_eq] at t
    refine t.mono ?_
    rintro e w3 ⟨rfl, k3⟩
    have hB3 := Nw.heap (k2.trans k3) hB
    exact ⟨rfl, cell_of hB3 0 _ rfl, cell_of hB3 1 _ rfl, cell_of hB3 2 _ rfl, cell_of hB3 3 _ rfl, hN1.trans (k2.trans k3)⟩
  have HM := tHid (fun V => may_any (o : Nat) (n : Nat) (nmN (fd b o n)) F bl V)
  have b0 : W1.cell? ⟨w.heap.size, 0, none⟩ = some (.int .i64 (o : Nat)) := cell_of hB 0 _ rfl
  have b1 : W1.cell? ⟨w.heap.size, 1, none⟩ = some (.int .i64 (n : Nat)) := cell_of hB 1 _ rfl
  have HW1 := tHid hW1
  clear hW1 hB hN1 hg
  generalize nmN (fd b o n) = N at *
  generalize nmE (fd b o n) = E at *
  by_cases hE : E = 0
  · subst hE
    rw [if_pos rfl] at hnb
    by_cases hm : 0 ≤ N ∨ bl = true
    · rw [if_pos hm] at hnb
      have hmb : (decide (0 ≤ N) || bl) = true := by simpa only [Bool.or_eq_true, decide_eq_true_eq] using hm
      rw [hmb] at HM
      have HF2 := tHid (fun W hW => HF.out W N 0 hW hnb (fun _ => rfl))
      clear HF hnb hm hmb
      go_enter Tryz.func17, Tryz.ntmps17
      go_upto_region 1 with fail
      rw [HW1.out]
      go_wp2_with (first
        | (go_at_call 11; with_reducible refine HOF.out.mono ?_; rintro e w2 ⟨rfl, K2⟩)
        | (go_at_call 45; with_reducible refine K2.out.mono ?_; rintro e w3 ⟨rfl, y0, y1, y2, y3, K3⟩)
        | (go_at_call 46; with_reducible refine (HM.out _).mono ?_; rintro e w4 ⟨rfl, K4⟩))
      first | exact HF2.out _ (K3.out.trans K4) | (go_ret2; exact HF2.out _ (K3.out.trans K4))
    · rw [if_neg hm] at hnb
      have hmb : (decide (0 ≤ N) || bl) = false := by
        rw [Bool.eq_false_iff]
        intro q
        exact hm (by simpa only [Bool.or_eq_true, decide_eq_true_eq] using q)
      rw [hmb] at HM
      have HF2 := tHid (fun W hW => HF.out W 0 121 hW hnb (fun q => by cases q))
      clear HF hnb hm hmb
      go_enter Tryz.func17, Tryz.ntmps17
      go_upto_region 1 with fail
      rw [HW1.out]
      go_wp2_with (first
        | (go_at_call 11; with_reducible refine HOF.out.mono ?_; rintro e w2 ⟨rfl, K2⟩)
        | (go_at_call 45; with_reducible refine K2.out.mono ?_; rintro e w3 ⟨rfl, y0, y1, y2, y3, K3⟩)
        | (go_at_call 46; with_reducible refine (HM.out _).mono ?_; rintro e w4 ⟨rfl, K4⟩))
      first | exact HF2.out _ (K3.out.trans K4) | (go_ret2; exact HF2.out _ (K3.out.trans K4))
  · rw [if_neg hE] at hnb
    have hq : ((E : Int) == 0) = false := by rw [beq_eq_false_iff_ne]; omega
    have HF2 := tHid (fun W hW => HF.out W N E hW hnb (fun q => absurd q hE))
    clear HF hnb hE
    go_enter Tryz.func17, Tryz.ntmps17
    go_upto_region 1 with fail
    rw [HW1.out]
    go_wp2_with (first
      | (go_at_call 11; with_reducible refine HOF.out.mono ?_; rintro e w2 ⟨rfl, K2⟩)
      | (go_at_call 45; with_reducible refine K2.out.mono ?_; rintro e w3 ⟨rfl, y0, y1, y2, y3, K3⟩))
    first | exact HF2.out _ K3.out | (go_ret2; exact HF2.out _ K3.out)
/-- Three answers, the first in a block. -/
theorem results_c3 {fn : Func} {p u v : Tmp} {ty : TypeId} (h : fn.results = #[.cell p ty, .tmp u, .tmp v]) (tmps : Array Value) (P : Program) (w : World) :
    (results fn tmps).run P w = ((asAddr (tmps.getD p undef)).run P w).andThen fun a w₁ => ((loadVar ty a).run P w₁).andThen fun x w₂ => .ok (.tuple #[x, tmps.getD u undef, tmps.getD v undef]) w₂ := by
  simp only [results, h]
  simp [Sem.run_bind, Result.andThen]
end Go.Proofs.YtoegbaenheeogaaGreatDoor

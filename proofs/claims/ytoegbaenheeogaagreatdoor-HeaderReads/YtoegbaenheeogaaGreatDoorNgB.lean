import Derived.Test.YtoegbaenheeogaaGreatDoorNgA
namespace Go.Proofs.YtoegbaenheeogaaGreatDoor
open Go.RowKit
set_option linter.unusedVariables false
set_option maxHeartbeats 8000000 in
set_option maxRecDepth 100000 in
theorem check_any (b : List By) (hb : b.length = 512) (w : World) :
    Calls Tryz.prog 8 #[.agg (rc b)] w fun e w' => e = .returned (.bool (chk b)) ∧ Nw w w' := by
  obtain ⟨P, hP⟩ : ∃ P : Ending → World → Prop, P = fun e w' => e = .returned (.bool (chk b)) ∧ Nw w w' := ⟨_, rfl⟩
  rw [← hP]
  have HF : Hid (∀ W, Nw w W → P (.returned (.bool (chk b))) W) := fun W hW => by rw [hP]; exact ⟨rfl, hW⟩
  clear hP
  obtain ⟨W1, hW1⟩ : ∃ W1, w.alloc (.cells (rc b) 28) = W1 := ⟨_, rfl⟩
  have h1 : W1.heap[w.heap.size]? = some (.cells (rc b) 28) := by rw [← hW1]; exact rec_heap w b
  have n1 : Nw w W1 := by rw [← hW1]; exact (Fr.refl _ _).alloc _
  have H1 := tHid h1
  have HI := tHid (rc_info b hb)
  have HSU : Hid (Calls Tryz.prog 28 #[.agg (rc b)] W1 fun e w' => e = .returned (.tuple #[.int .i64 (su (blk b)), .int .i64 (ss (blk b))]) ∧ Hid (Nw w w' ∧ Calls Tryz.prog 29 #[.slice (some ⟨w.heap.size, 148, none⟩) 8 364] w' fun e w2 => e = .returned (.tuple #[.int .i64 (octN (fld b) : Nat), .int .i64 (octE (fld b) : Nat)]) ∧ Hid (Nw w' w2))) := by
    refine (sums_any b hb W1).mono ?_
    rintro e w' ⟨rfl, h⟩
    refine ⟨rfl, n1.trans h, ?_⟩
    refine (octal_any w' _ 8 364 _ (fld_sl w' w.heap.size b hb (h.heap h1))).mono ?_
    rintro e w2 ⟨rfl, h2⟩
    exact ⟨rfl, h2⟩
  have hck : chk b = (decide (octE (fld b) = 0) && (decide ((octN (fld b) : Int) = su (blk b)) || decide ((octN (fld b) : Int) = ss (blk b)))) := rfl
  rw [hck] at HF
  clear h1 n1 hck
  generalize su (blk b) = A at *
  generalize ss (blk b) = B at *
  generalize octN (fld b) = N at *
  generalize octE (fld b) = E at *
  generalize rc b = C at *
  go_enter Tryz.func8, Tryz.ntmps8
  go_upto_region 2 with (first
    | (refine wpList_load_row rfl 28 _ rfl w.heap.size (by first | rfl | simp [Act.eval]) 28 _ (0, 0) _ H1.out Tryz.underlying28 rfl HI.out ?_)
    | (go_at_call 28; with_reducible refine HSU.out.mono ?_; rintro e w2 ⟨rfl, K2⟩))
  have HO := tHid K2.out.2
  have HN2 := tHid K2.out.1
  clear HSU K2 H1 HI
  go_upto_region 3 with (first
    | (go_at_call 29; with_reducible refine HO.out.mono ?_; rintro e w3 ⟨rfl, K3⟩))
  have HF3 := tHid (HF.out w3 (HN2.out.trans K3.out))
  clear HF HO HN2 K3
  by_cases hE : E = 0
  · subst hE
    rw [decide_eq_true rfl, Bool.true_and] at HF3
    by_cases hA : (N : Int) = A
    · rw [decide_eq_true hA, Bool.true_or] at HF3
      have q1 : ((N : Int) == A) = true := by simpa using hA
      clear hA
      go_wp2_with fail
      exact HF3.out
    · rw [decide_eq_false hA, Bool.false_or] at HF3
      have q1 : ((N : Int) == A) = false := by simpa using hA
      clear hA
      by_cases hB : (N : Int) = B
      · rw [decide_eq_true hB] at HF3
        have q2 : ((N : Int) == B) = true := by simpa using hB
        clear hB
        go_wp2_with fail
        exact HF3.out
      · rw [decide_eq_false hB] at HF3
        have q2 : ((N : Int) == B) = false := by simpa using hB
        clear hB
        go_wp2_with fail
        exact HF3.out
  · rw [decide_eq_false hE, Bool.false_and] at HF3
    have q1 : ((E : Int) == 0) = false := by rw [beq_eq_false_iff_ne]; omega
    go_wp2_with fail
    exact HF3.out
set_option maxHeartbeats 8000000 in
set_option maxRecDepth 100000 in
theorem rcheck_any (b : List By) (hb : b.length = 512) (w : World) :
    Calls Tryz.prog 18 #[.agg (rc b)] w fun e w' => e = .returned (.bool (chk b)) ∧ Nw w w' := by
  obtain ⟨P, hP⟩ : ∃ P : Ending → World → Prop, P = fun e w' => e = .returned (.bool (chk b)) ∧ Nw w w' := ⟨_, rfl⟩
  rw [← hP]
  have HF : Hid (∀ W, Nw w W → P (.returned (.bool (chk b))) W) := fun W hW => by rw [hP]; exact ⟨rfl, hW⟩
  clear hP
  obtain ⟨W1, hW1⟩ : ∃ W1, w.alloc (.cells (rc b) 28) = W1 := ⟨_, rfl⟩
  have h1 : W1.heap[w.heap.size]? = some (.cells (rc b) 28) := by rw [← hW1]; exact rec_heap w b
  have n1 : Nw w W1 := by rw [← hW1]; exact (Fr.refl _ _).alloc _
  have H1 := tHid h1
  have HI := tHid (rc_info b hb)
  have HSU : Hid (Calls Tryz.prog 47 #[.agg (rc b)] W1 fun e w' => e = .returned (.tuple #[.int .i64 (su (blk b)), .int .i64 (ss (blk b))]) ∧ Hid (Nw w w' ∧ Calls Tryz.prog 48 #[.slice (some ⟨w.heap.size, 148, none⟩) 8 364] w' fun e w2 => e = .returned (.tuple #[.int .i64 (octN (fld b) : Nat), .int .i64 (octE (fld b) : Nat)]) ∧ Hid (Nw w' w2))) := by
    refine (rsums_any b hb W1).mono ?_
    rintro e w' ⟨rfl, h⟩
    refine ⟨rfl, n1.trans h, ?_⟩
    refine (roctal_any w' _ 8 364 _ (fld_sl w' w.heap.size b hb (h.heap h1))).mono ?_
    rintro e w2 ⟨rfl, h2⟩
    exact ⟨rfl, by rw [← h2]; exact Fr.refl _ _⟩
  have hck : chk b = (decide (octE (fld b) = 0) && (decide ((octN (fld b) : Int) = su (blk b)) || decide ((octN (fld b) : Int) = ss (blk b)))) := rfl
  rw [hck] at HF
  clear h1 n1 hck
  generalize su (blk b) = A at *
  generalize ss (blk b) = B at *
  generalize octN (fld b) = N at *
  generalize octE (fld b) = E at *
  generalize rc b = C at *
  go_enter Tryz.func18, Tryz.ntmps18
  go_upto_region 2 with (first
    | (refine wpList_load_row rfl 28 _ rfl w.heap.size (by first | rfl | simp [Act.eval]) 28 _ (0, 0) _ H1.out Tryz.underlying28 rfl HI.out ?_)
    | (go_at_call 47; with_reducible refine HSU.out.mono ?_; rintro e w2 ⟨rfl, K2⟩))
  have HO := tHid K2.out.2
  have HN2 := tHid K2.out.1
  clear HSU K2 H1 HI
  go_upto_region 3 with (first
    | (go_at_call 48; with_reducible refine HO.out.mono ?_; rintro e w3 ⟨rfl, K3⟩))
  have HF3 := tHid (HF.out w3 (HN2.out.trans K3.out))
  clear HF HO HN2 K3
  by_cases hE : E = 0
  · subst hE
    rw [decide_eq_true rfl, Bool.true_and] at HF3
    by_cases hA : (N : Int) = A
    · rw [decide_eq_true hA, Bool.true_or] at HF3
      have q1 : ((N : Int) == A) = true := by simpa using hA
      clear hA
      go_wp2_with fail
      exact HF3.out
    · rw [decide_eq_false hA, Bool.false_or] at HF3
      have q1 : ((N : Int) == A) = false := by simpa using hA
      clear hA
      by_cases hB : (N : Int) = B
      · rw [decide_eq_true hB] at HF3
        have q2 : ((N : Int) == B) = true := by simpa using hB
        clear hB
        go_wp2_with fail
        exact HF3.out
      · rw [decide_eq_false hB] at HF3
        have q2 : ((N : Int) == B) = false := by simpa using hB
        clear hB
        go_wp2_with fail
        exact HF3.out
  · rw [decide_eq_false hE, Bool.false_and] at HF3
    have q1 : ((E : Int) == 0) = false := by rw [beq_eq_false_iff_ne]; omega
    go_wp2_with fail
    exact HF3.out
end Go.Proofs.YtoegbaenheeogaaGreatDoor

import Derived.Test.YtfmghmidklpdaabPvD
namespace Go.Proofs.Ytfmghmidklpdaab
open Go.RowKit
set_option linter.unusedVariables false
/-! ### What can be a name -/
theorem row_box (w : World) (s : ByteArray) : (w.alloc (.cells #[.string s] 9)).cell? ⟨w.heap.size, 0, none⟩ = some (.string s) := by
  have h : (w.alloc (.cells #[.string s] 9)).heap[w.heap.size]? = some (.cells #[.string s] 9) := by
    show (w.heap.push _)[w.heap.size]? = _
    simp
  exact (cell_of_row h 0 _ rfl).1
set_option maxHeartbeats 1000000 in
set_option maxRecDepth 100000 in
theorem fhas_0 (l : Tx) (cb : Nat) (w : World) (hl : l.length ≤ 140737488351232) (hc : w.cell? ⟨cb, 0, none⟩ = some (.string (mk l))) : Calls Try.prog 26 #[.string ⟨#[0]⟩, .pointer (some ⟨cb, 0, none⟩)] w fun e w' => e = .returned (.bool (decide ((0 : UInt8) ∈ l))) ∧ w = w' := by
  obtain ⟨P, hP⟩ : ∃ P : Ending → World → Prop, P = fun e w' => e = .returned (.bool (decide ((0 : UInt8) ∈ l))) ∧ w = w' := ⟨_, rfl⟩
  rw [← hP]
  have HF : Hid (P (.returned (.bool (decide ((0 : UInt8) ∈ l)))) w) := by rw [hP]; exact ⟨rfl, rfl⟩
  have HC := tHid (cont_0 l w hl)
  clear hP
  generalize decide ((0 : UInt8) ∈ l) = B at *
  generalize mk l = s at *
  go_enter Try.func26, Try.ntmps26
  go_wp2_with (first | (go_at_call 27; with_reducible refine HC.out.mono ?_; rintro e w2 ⟨rfl, hw⟩; (subst hw)))
  exact HF.out
set_option maxHeartbeats 1000000 in
set_option maxRecDepth 100000 in
theorem fhas_47 (l : Tx) (cb : Nat) (w : World) (hl : l.length ≤ 140737488351232) (hc : w.cell? ⟨cb, 0, none⟩ = some (.string (mk l))) : Calls Try.prog 26 #[.string ⟨#[47]⟩, .pointer (some ⟨cb, 0, none⟩)] w fun e w' => e = .returned (.bool (decide ((47 : UInt8) ∈ l))) ∧ w = w' := by
  obtain ⟨P, hP⟩ : ∃ P : Ending → World → Prop, P = fun e w' => e = .returned (.bool (decide ((47 : UInt8) ∈ l))) ∧ w = w' := ⟨_, rfl⟩
  rw [← hP]
  have HF : Hid (P (.returned (.bool (decide ((47 : UInt8) ∈ l)))) w) := by rw [hP]; exact ⟨rfl, rfl⟩
  have HC := tHid (cont_47 l w hl)
  clear hP
  generalize decide ((47 : UInt8) ∈ l) = B at *
  generalize mk l = s at *
  go_enter Try.func26, Try.ntmps26
  go_wp2_with (first | (go_at_call 27; with_reducible refine HC.out.mono ?_; rintro e w2 ⟨rfl, hw⟩; (subst hw)))
  exact HF.out
theorem ptF_eq (p : Tx) : ptF p = if stays p = true then 90 else if p = [46, 46] then 92 else if (0 : UInt8) ∈ p then 93 else if (47 : UInt8) ∈ p then 91 else if 255 < p.length then 94 else 0 := rfl
set_option maxHeartbeats 8000000 in
set_option maxRecDepth 100000 in
theorem faultOf_any (l : Tx) (w : World) (hl : l.length ≤ 140737488351232) : Calls Try.prog 20 #[.string (mk l)] w fun e w' => e = .returned (.int .i64 ((ptF l : Nat) : Int)) ∧ Nw w w' := by
  obtain ⟨P, hP⟩ : ∃ P : Ending → World → Prop, P = fun e w' => e = .returned (.int .i64 ((ptF l : Nat) : Int)) ∧ Nw w w' := ⟨_, rfl⟩
  rw [← hP]
  obtain ⟨W1, hW1⟩ : ∃ W1, w.alloc (.cells #[.string (mk l)] 9) = W1 := ⟨_, rfl⟩
  have hN1 : Nw w W1 := by rw [← hW1]; exact (Fr.refl _ _).alloc _
  have hc1 : W1.cell? ⟨w.heap.size, 0, none⟩ = some (.string (mk l)) := by rw [← hW1]; exact row_box w (mk l)
  have HF : Hid (∀ z : Int, ((ptF l : Nat) : Int) = z → P (.returned (.int .i64 z)) W1) := fun z hz => by rw [hP]; exact ⟨by rw [hz], hN1⟩
  have HS := tHid (pstays_any l W1)
  have HZ := tHid (fhas_0 l w.heap.size W1 hl hc1)
  have HL := tHid (fhas_47 l w.heap.size W1 hl hc1)
  have HT := tHid (tooLong_any l W1 hl)
  have hup := up_eq l
  have eg := enters_of Try.func26 (by kernel_rfl) rfl
  have hE := ptF_eq l
  clear hP hN1
  by_cases b1 : stays l = true
  · rw [b1] at HS
    rw [if_pos b1] at hE
    have HF1 := tHid (HF.out 90 (by rw [hE]; rfl))
    clear HF hE b1
    generalize decide ((0 : UInt8) ∈ l) = Db3 at *
    generalize decide ((47 : UInt8) ∈ l) = Db4 at *
    generalize decide (255 < l.length) = Db5 at *
    generalize mk l = s at *
    go_enter Try.func20, Try.ntmps20
    go_wp2_with (first
      | (go_at_call 18; with_reducible refine HS.out.mono ?_; rintro e w2 ⟨rfl, hw⟩; (subst hw))
      | (go_at_call 26; with_reducible refine HZ.out.mono ?_; rintro e w2 ⟨rfl, hw⟩; (subst hw))
      | (go_at_call 26; with_reducible refine HL.out.mono ?_; rintro e w2 ⟨rfl, hw⟩; (subst hw))
      | (go_at_fn 26; with_reducible refine HZ.out.mono ?_; rintro e w2 ⟨rfl, hw⟩; (subst hw))
      | (go_at_fn 26; with_reducible refine HL.out.mono ?_; rintro e w2 ⟨rfl, hw⟩; (subst hw))
      | (go_at_call 28; with_reducible refine HT.out.mono ?_; rintro e w2 ⟨rfl, hw⟩; (subst hw)))
    exact HF1.out
  rw [show stays l = false by simpa using b1] at HS
  by_cases b2 : l = [46, 46]
  · rw [decide_eq_true b2] at hup
    rw [if_neg b1, if_pos b2] at hE
    have HF1 := tHid (HF.out 92 (by rw [hE]; rfl))
    clear HF hE b1 b2
    generalize decide ((0 : UInt8) ∈ l) = Db3 at *
    generalize decide ((47 : UInt8) ∈ l) = Db4 at *
    generalize decide (255 < l.length) = Db5 at *
    generalize mk l = s at *
    go_enter Try.func20, Try.ntmps20
    go_wp2_with (first
      | (go_at_call 18; with_reducible refine HS.out.mono ?_; rintro e w2 ⟨rfl, hw⟩; (subst hw))
      | (go_at_call 26; with_reducible refine HZ.out.mono ?_; rintro e w2 ⟨rfl, hw⟩; (subst hw))
      | (go_at_call 26; with_reducible refine HL.out.mono ?_; rintro e w2 ⟨rfl, hw⟩; (subst hw))
      | (go_at_fn 26; with_reducible refine HZ.out.mono ?_; rintro e w2 ⟨rfl, hw⟩; (subst hw))
      | (go_at_fn 26; with_reducible refine HL.out.mono ?_; rintro e w2 ⟨rfl, hw⟩; (subst hw))
      | (go_at_call 28; with_reducible refine HT.out.mono ?_; rintro e w2 ⟨rfl, hw⟩; (subst hw)))
    exact HF1.out
  rw [decide_eq_false b2] at hup
  by_cases b3 : (0 : UInt8) ∈ l
  · rw [decide_eq_true b3] at HZ
    rw [if_neg b1, if_neg b2, if_pos b3] at hE
    have HF1 := tHid (HF.out 93 (by rw [hE]; rfl))
    clear HF hE b1 b2 b3
    generalize decide ((47 : UInt8) ∈ l) = Db4 at *
    generalize decide (255 < l.length) = Db5 at *
    generalize mk l = s at *
    go_enter Try.func20, Try.ntmps20
    go_wp2_with (first
      | (go_at_call 18; with_reducible refine HS.out.mono ?_; rintro e w2 ⟨rfl, hw⟩; (subst hw))
      | (go_at_call 26; with_reducible refine HZ.out.mono ?_; rintro e w2 ⟨rfl, hw⟩; (subst hw))
      | (go_at_call 26; with_reducible refine HL.out.mono ?_; rintro e w2 ⟨rfl, hw⟩; (subst hw))
      | (go_at_fn 26; with_reducible refine HZ.out.mono ?_; rintro e w2 ⟨rfl, hw⟩; (subst hw))
      | (go_at_fn 26; with_reducible refine HL.out.mono ?_; rintro e w2 ⟨rfl, hw⟩; (subst hw))
      | (go_at_call 28; with_reducible refine HT.out.mono ?_; rintro e w2 ⟨rfl, hw⟩; (subst hw)))
    exact HF1.out
  rw [decide_eq_false b3] at HZ
  by_cases b4 : (47 : UInt8) ∈ l
  · rw [decide_eq_true b4] at HL
    rw [if_neg b1, if_neg b2, if_neg b3, if_pos b4] at hE
    have HF1 := tHid (HF.out 91 (by rw [hE]; rfl))
    clear HF hE b1 b2 b3 b4
    generalize decide (255 < l.length) = Db5 at *
    generalize mk l = s at *
    go_enter Try.func20, Try.ntmps20
    go_wp2_with (first
      | (go_at_call 18; with_reducible refine HS.out.mono ?_; rintro e w2 ⟨rfl, hw⟩; (subst hw))
      | (go_at_call 26; with_reducible refine HZ.out.mono ?_; rintro e w2 ⟨rfl, hw⟩; (subst hw))
      | (go_at_call 26; with_reducible refine HL.out.mono ?_; rintro e w2 ⟨rfl, hw⟩; (subst hw))
      | (go_at_fn 26; with_reducible refine HZ.out.mono ?_; rintro e w2 ⟨rfl, hw⟩; (subst hw))
      | (go_at_fn 26; with_reducible refine HL.out.mono ?_; rintro e w2 ⟨rfl, hw⟩; (subst hw))
      | (go_at_call 28; with_reducible refine HT.out.mono ?_; rintro e w2 ⟨rfl, hw⟩; (subst hw)))
    exact HF1.out
  rw [decide_eq_false b4] at HL
  by_cases b5 : 255 < l.length
  · rw [decide_eq_true b5] at HT
    rw [if_neg b1, if_neg b2, if_neg b3, if_neg b4, if_pos b5] at hE
    have HF1 := tHid (HF.out 94 (by rw [hE]; rfl))
    clear HF hE b1 b2 b3 b4 b5
    generalize mk l = s at *
    go_enter Try.func20, Try.ntmps20
    go_wp2_with (first
      | (go_at_call 18; with_reducible refine HS.out.mono ?_; rintro e w2 ⟨rfl, hw⟩; (subst hw))
      | (go_at_call 26; with_reducible refine HZ.out.mono ?_; rintro e w2 ⟨rfl, hw⟩; (subst hw))
      | (go_at_call 26; with_reducible refine HL.out.mono ?_; rintro e w2 ⟨rfl, hw⟩; (subst hw))
      | (go_at_fn 26; with_reducible refine HZ.out.mono ?_; rintro e w2 ⟨rfl, hw⟩; (subst hw))
      | (go_at_fn 26; with_reducible refine HL.out.mono ?_; rintro e w2 ⟨rfl, hw⟩; (subst hw))
      | (go_at_call 28; with_reducible refine HT.out.mono ?_; rintro e w2 ⟨rfl, hw⟩; (subst hw)))
    exact HF1.out
  rw [decide_eq_false b5] at HT
  rw [if_neg b1, if_neg b2, if_neg b3, if_neg b4, if_neg b5] at hE
  have HF1 := tHid (HF.out 0 (by rw [hE]; rfl))
  clear HF hE b1 b2 b3 b4 b5
  generalize mk l = s at *
  go_enter Try.func20, Try.ntmps20
  go_wp2_with (first
    | (go_at_call 18; with_reducible refine HS.out.mono ?_; rintro e w2 ⟨rfl, hw⟩; (subst hw))
    | (go_at_call 26; with_reducible refine HZ.out.mono ?_; rintro e w2 ⟨rfl, hw⟩; (subst hw))
    | (go_at_call 26; with_reducible refine HL.out.mono ?_; rintro e w2 ⟨rfl, hw⟩; (subst hw))
    | (go_at_fn 26; with_reducible refine HZ.out.mono ?_; rintro e w2 ⟨rfl, hw⟩; (subst hw))
    | (go_at_fn 26; with_reducible refine HL.out.mono ?_; rintro e w2 ⟨rfl, hw⟩; (subst hw))
    | (go_at_call 28; with_reducible refine HT.out.mono ?_; rintro e w2 ⟨rfl, hw⟩; (subst hw)))
  exact HF1.out

end Go.Proofs.Ytfmghmidklpdaab

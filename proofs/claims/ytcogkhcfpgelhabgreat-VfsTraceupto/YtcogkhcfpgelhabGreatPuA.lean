import Derived.Test.YtcogkhcfpgelhabGreatPtE
import Derived.Lib.Bytealg
import Derived.Handy
namespace Go.Proofs.YtcogkhcfpgelhabGreat
open Go.RowKit
set_option linter.unusedVariables false
/-! ### Strings: Index, Contains, Cut, HasPrefix of one byte -/
theorem tHid {p : Prop} (h : p) : Hid p := h
theorem ix_none (l : Tx) (c : UInt8) : Lib.indexByte l c = -1 ↔ c ∉ l := by
  induction l with
  | nil => simp [Lib.indexByte]
  | cons x r ih =>
    have hg := Lib.indexByte_ge r c
    unfold Lib.indexByte
    by_cases hx : x = c
    · subst hx; simp
    · rw [if_neg (by simpa using hx)]
      rw [List.mem_cons, not_or]
      by_cases h : Lib.indexByte r c = -1
      · rw [if_pos (by simpa using h)]
        simp [ih.1 h, Ne.symm hx]
      · rw [if_neg (by simpa using h)]
        constructor
        · intro e; omega
        · rintro ⟨_, e⟩; exact absurd (ih.2 e) h
theorem ix_some (l : Tx) (c : UInt8) (h : c ∈ l) : ∃ p r, l = p ++ c :: r ∧ c ∉ p ∧ Lib.indexByte l c = (p.length : Int) := by
  induction l with
  | nil => simp at h
  | cons x t ih =>
    by_cases hx : x = c
    · subst hx
      exact ⟨[], t, rfl, by simp, by simp [Lib.indexByte]⟩
    · have ht : c ∈ t := by
        rcases List.mem_cons.1 h with e | e
        · exact absurd e.symm hx
        · exact e
      obtain ⟨p, r, h1, h2, h3⟩ := ih ht
      refine ⟨x :: p, r, by rw [h1]; rfl, ?_, ?_⟩
      · rw [List.mem_cons, not_or]; exact ⟨fun e => hx e.symm, h2⟩
      · unfold Lib.indexByte
        rw [if_neg (by simpa using hx), if_neg (by rw [h3]; simp), h3]
        simp
theorem ix_dec (l : Tx) (c : UInt8) : decide (0 ≤ Lib.indexByte l c) = decide (c ∈ l) := by
  by_cases h : c ∈ l
  · obtain ⟨p, r, _, _, e⟩ := ix_some l c h
    rw [decide_eq_true h, e]; simp
  · rw [(ix_none l c).2 h, decide_eq_false h]; decide
theorem mk_ext_pre (p r : Tx) : (mk (p ++ r)).extract 0 p.length = mk p := by
  apply ByteArray.ext
  simp [mk]
theorem mk_ext_suf (p r : Tx) : (mk (p ++ r)).extract p.length (mk (p ++ r)).size = mk r := by
  apply ByteArray.ext
  rw [mk_size]
  simp [mk]
theorem mk_ext (l : Tx) (i j : Nat) : (mk l).extract i j = mk ((l.take j).drop i) := by
  apply ByteArray.ext
  simp [mk]
  rw [List.drop_take]
theorem not_self (c : UInt8) (s : ByteArray) (h0 : ¬ s = ⟨#[c]⟩) : (([c] : List UInt8) == s.toList) = false := by
  rw [beq_eq_false_iff_ne]
  intro e
  apply h0
  rw [ByteArray.toList_eq] at e
  apply ByteArray.ext
  apply Array.ext'
  exact e.symm
set_option maxHeartbeats 1000000 in
set_option maxRecDepth 100000 in
theorem sib_any (s : ByteArray) (c : Int) (w : World) : Calls Tryz.prog 130 #[.string s, .int .u8 c] w fun e w' => e = .returned (.int .i64 (Lib.indexByte s.data.toList c.toNat.toUInt8)) ∧ w = w' := by
  obtain ⟨P, hP⟩ : ∃ P : Ending → World → Prop, P = fun e w' => e = .returned (.int .i64 (Lib.indexByte s.data.toList c.toNat.toUInt8)) ∧ w = w' := ⟨_, rfl⟩
  rw [← hP]
  have HF : Hid (P (.returned (.int .i64 (Lib.indexByte s.data.toList c.toNat.toUInt8))) w) := by rw [hP]; exact ⟨rfl, rfl⟩
  clear hP
  go_enter Tryz.func130, Tryz.ntmps130
  go_wp2
  rw [run_callFunc_extern Tryz.func134 (by kernel_rfl) (by kernel_rfl) (by kernel_rfl) (e := Extern.BytealgIndexByte.indexByte) (by kernel_rfl), Lib.run_indexByteString]
  simp only [Result.andThen]
  rw [Oper.upon_value]
  go_wp2
  first | exact HF.out | (go_ret; exact HF.out)
set_option maxHeartbeats 4000000 in
set_option maxRecDepth 100000 in
theorem sli_0 (l : Tx) (w : World) (hs : l.length ≤ 140737488351232) : Calls Tryz.prog 127 #[.string (mk l), .string ⟨#[0]⟩] w fun e w' => e = .returned (.int .i64 (Lib.indexByte l 0)) ∧ w = w' := by
  obtain ⟨P, hP⟩ : ∃ P : Ending → World → Prop, P = fun e w' => e = .returned (.int .i64 (Lib.indexByte l 0)) ∧ w = w' := ⟨_, rfl⟩
  rw [← hP]
  have HF : Hid (P (.returned (.int .i64 (Lib.indexByte l 0))) w) := by rw [hP]; exact ⟨rfl, rfl⟩
  have HI : Hid (Calls Tryz.prog 130 #[.string (mk l), .int .u8 0] w fun e w' => e = .returned (.int .i64 (Lib.indexByte l 0)) ∧ w = w') := sib_any (mk l) 0 w
  clear hP
  by_cases h0 : mk l = ⟨#[0]⟩
  · have e : Lib.indexByte l 0 = 0 := by
      have : l = [0] := by rw [← mk_data l, h0]
      rw [this]; decide
    rw [e] at HF
    rw [h0]
    clear HI
    go_enter Tryz.func127, Tryz.ntmps127
    go_wp2
    exact HF.out
  · have h1 := not_self 0 (mk l) h0
    have hsz := mk_size l
    generalize Lib.indexByte l 0 = r at *
    rw [← hsz] at hs
    clear hsz
    generalize mk l = s at *
    go_enter Tryz.func127, Tryz.ntmps127
    go_wp2_with (first | (go_at_call 130; refine HI.out.mono ?_; rintro e w1 ⟨rfl, rfl⟩))
    exact HF.out
set_option maxHeartbeats 1000000 in
set_option maxRecDepth 100000 in
theorem si_0 (l : Tx) (w : World) (hs : l.length ≤ 140737488351232) : Calls Tryz.prog 116 #[.string (mk l), .string ⟨#[0]⟩] w fun e w' => e = .returned (.int .i64 (Lib.indexByte l 0)) ∧ w = w' := by
  obtain ⟨P, hP⟩ : ∃ P : Ending → World → Prop, P = fun e w' => e = .returned (.int .i64 (Lib.indexByte l 0)) ∧ w = w' := ⟨_, rfl⟩
  rw [← hP]
  have HF : Hid (P (.returned (.int .i64 (Lib.indexByte l 0))) w) := by rw [hP]; exact ⟨rfl, rfl⟩
  have HJ := tHid (sli_0 l w hs)
  clear hP
  generalize mk l = s at *
  generalize Lib.indexByte l 0 = r at *
  go_enter Tryz.func116, Tryz.ntmps116
  go_wp2_with (first | (go_at_call 127; with_reducible refine HJ.out.mono ?_; rintro e w1 ⟨rfl, rfl⟩))
  exact HF.out
set_option maxHeartbeats 1000000 in
set_option maxRecDepth 100000 in
theorem cont_0 (l : Tx) (w : World) (hs : l.length ≤ 140737488351232) : Calls Tryz.prog 91 #[.string (mk l), .string ⟨#[0]⟩] w fun e w' => e = .returned (.bool (decide ((0 : UInt8) ∈ l))) ∧ w = w' := by
  obtain ⟨P, hP⟩ : ∃ P : Ending → World → Prop, P = fun e w' => e = .returned (.bool (decide ((0 : UInt8) ∈ l))) ∧ w = w' := ⟨_, rfl⟩
  rw [← hP]
  have hd := ix_dec l 0
  have HF : Hid (P (.returned (.bool (decide ((0 : UInt8) ∈ l)))) w) := by rw [hP]; exact ⟨rfl, rfl⟩
  have HJ := tHid (si_0 l w hs)
  clear hP
  rw [← hd] at HF
  clear hd
  generalize mk l = s at *
  generalize Lib.indexByte l 0 = r at *
  by_cases hr : 0 ≤ r
  · rw [decide_eq_true hr] at HF
    have hd := decide_eq_true hr
    go_enter Tryz.func91, Tryz.ntmps91
    go_wp2_with (first | (go_at_call 116; with_reducible refine HJ.out.mono ?_; rintro e w1 ⟨rfl, rfl⟩))
    exact HF.out
  · rw [decide_eq_false hr] at HF
    have hd := decide_eq_false hr
    go_enter Tryz.func91, Tryz.ntmps91
    go_wp2_with (first | (go_at_call 116; with_reducible refine HJ.out.mono ?_; rintro e w1 ⟨rfl, rfl⟩))
    exact HF.out
set_option maxHeartbeats 4000000 in
set_option maxRecDepth 100000 in
theorem sli_47 (l : Tx) (w : World) (hs : l.length ≤ 140737488351232) : Calls Tryz.prog 127 #[.string (mk l), .string ⟨#[47]⟩] w fun e w' => e = .returned (.int .i64 (Lib.indexByte l 47)) ∧ w = w' := by
  obtain ⟨P, hP⟩ : ∃ P : Ending → World → Prop, P = fun e w' => e = .returned (.int .i64 (Lib.indexByte l 47)) ∧ w = w' := ⟨_, rfl⟩
  rw [← hP]
  have HF : Hid (P (.returned (.int .i64 (Lib.indexByte l 47))) w) := by rw [hP]; exact ⟨rfl, rfl⟩
  have HI : Hid (Calls Tryz.prog 130 #[.string (mk l), .int .u8 47] w fun e w' => e = .returned (.int .i64 (Lib.indexByte l 47)) ∧ w = w') := sib_any (mk l) 47 w
  clear hP
  by_cases h0 : mk l = ⟨#[47]⟩
  · have e : Lib.indexByte l 47 = 0 := by
      have : l = [47] := by rw [← mk_data l, h0]
      rw [this]; decide
    rw [e] at HF
    rw [h0]
    clear HI
    go_enter Tryz.func127, Tryz.ntmps127
    go_wp2
    exact HF.out
  · have h1 := not_self 47 (mk l) h0
    have hsz := mk_size l
    generalize Lib.indexByte l 47 = r at *
    rw [← hsz] at hs
    clear hsz
    generalize mk l = s at *
    go_enter Tryz.func127, Tryz.ntmps127
    go_wp2_with (first | (go_at_call 130; refine HI.out.mono ?_; rintro e w1 ⟨rfl, rfl⟩))
    exact HF.out
set_option maxHeartbeats 1000000 in
set_option maxRecDepth 100000 in
theorem si_47 (l : Tx) (w : World) (hs : l.length ≤ 140737488351232) : Calls Tryz.prog 116 #[.string (mk l), .string ⟨#[47]⟩] w fun e w' => e = .returned (.int .i64 (Lib.indexByte l 47)) ∧ w = w' := by
  obtain ⟨P, hP⟩ : ∃ P : Ending → World → Prop, P = fun e w' => e = .returned (.int .i64 (Lib.indexByte l 47)) ∧ w = w' := ⟨_, rfl⟩
  rw [← hP]
  have HF : Hid (P (.returned (.int .i64 (Lib.indexByte l 47))) w) := by rw [hP]; exact ⟨rfl, rfl⟩
  have HJ := tHid (sli_47 l w hs)
  clear hP
  generalize mk l = s at *
  generalize Lib.indexByte l 47 = r at *
  go_enter Tryz.func116, Tryz.ntmps116
  go_wp2_with (first | (go_at_call 127; with_reducible refine HJ.out.mono ?_; rintro e w1 ⟨rfl, rfl⟩))
  exact HF.out
set_option maxHeartbeats 1000000 in
set_option maxRecDepth 100000 in
theorem cont_47 (l : Tx) (w : World) (hs : l.length ≤ 140737488351232) : Calls Tryz.prog 91 #[.string (mk l), .string ⟨#[47]⟩] w fun e w' => e = .returned (.bool (decide ((47 : UInt8) ∈ l))) ∧ w = w' := by
  obtain ⟨P, hP⟩ : ∃ P : Ending → World → Prop, P = fun e w' => e = .returned (.bool (decide ((47 : UInt8) ∈ l))) ∧ w = w' := ⟨_, rfl⟩
  rw [← hP]
  have hd := ix_dec l 47
  have HF : Hid (P (.returned (.bool (decide ((47 : UInt8) ∈ l)))) w) := by rw [hP]; exact ⟨rfl, rfl⟩
  have HJ := tHid (si_47 l w hs)
  clear hP
  rw [← hd] at HF
  clear hd
  generalize mk l = s at *
  generalize Lib.indexByte l 47 = r at *
  by_cases hr : 0 ≤ r
  · rw [decide_eq_true hr] at HF
    have hd := decide_eq_true hr
    go_enter Tryz.func91, Tryz.ntmps91
    go_wp2_with (first | (go_at_call 116; with_reducible refine HJ.out.mono ?_; rintro e w1 ⟨rfl, rfl⟩))
    exact HF.out
  · rw [decide_eq_false hr] at HF
    have hd := decide_eq_false hr
    go_enter Tryz.func91, Tryz.ntmps91
    go_wp2_with (first | (go_at_call 116; with_reducible refine HJ.out.mono ?_; rintro e w1 ⟨rfl, rfl⟩))
    exact HF.out
/-- What Cut answers. -/
def Cuts (l p r : Tx) (f : Bool) : Prop := (f = true ∧ l = p ++ 47 :: r ∧ (47 : UInt8) ∉ p) ∨ (f = false ∧ p = l ∧ r = [] ∧ (47 : UInt8) ∉ l)
theorem eq_47 (l : Tx) : (([47] : List UInt8) == (mk l).toList) = decide (l = [47]) := by
  rw [mk_toList]
  by_cases h : l = [47]
  · subst h; decide
  · rw [decide_eq_false h, beq_eq_false_iff_ne]; exact fun e => h e.symm
end Go.Proofs.YtcogkhcfpgelhabGreat

import Derived.Test.YtoplhkpbicgceaaPtE
import Derived.Lib.Bytealg
import Derived.Handy
import Derived.Test.YtoplhkpbicgceaaThA
namespace Go.Proofs.Ytoplhkpbicgceaa
open Go.RowKit
set_option linter.unusedVariables false
/-! ### Strings: Index, Contains, Cut, HasPrefix of one byte -/
theorem ix_none (l : Tx) (c : UInt8) : Lib.indexByte l c = -1 ↔ c ∉ l := by
  induction l with
  | nil => simp [Lib.indexByte]
  | cons x r ih =>
    have hg := Lib.indexByte_ge r c
    unfold Lib.indexByte
    by_cases hx : x = c
    · subst hx; simp
    · rw [if_neg (by simpa using hx)]
      rw [List.mem_cons, not_or]
      by_cases h : Lib.indexByte r c = -1
      · rw [if_pos (by simpa using h)]
        simp [ih.1 h, Ne.symm hx]
      · rw [if_neg (by simpa using h)]
        constructor
        · intro e; omega
        · rintro ⟨_, e⟩; exact absurd (ih.2 e) h
theorem ix_some (l : Tx) (c : UInt8) (h : c ∈ l) : ∃ p r, l = p ++ c :: r ∧ c ∉ p ∧ Lib.indexByte l c = (p.length : Int) := by
  induction l with
  | nil => simp at h
  | cons x t ih =>
    by_cases hx : x = c
    · subst hx
      exact ⟨[], t, rfl, by simp, by simp [Lib.indexByte]⟩
    · have ht : c ∈ t := by
        rcases List.mem_cons.1 h with e | e
        · exact absurd e.symm hx
        · exact e
      obtain ⟨p, r, h1, h2, h3⟩ := ih ht
      refine ⟨x :: p, r, by rw [h1]; rfl, ?_, ?_⟩
      · rw [List.mem_cons, not_or]; exact ⟨fun e => hx e.symm, h2⟩
      · unfold Lib.indexByte
        rw [if_neg (by simpa using hx), if_neg (by rw [h3]; simp), h3]
        simp
theorem ix_dec (l : Tx) (c : UInt8) : decide (0 ≤ Lib.indexByte l c) = decide (c ∈ l) := by
  by_cases h : c ∈ l
  · obtain ⟨p, r, _, _, e⟩ := ix_some l c h
    rw [decide_eq_true h, e]; simp
  · rw [(ix_none l c).2 h, decide_eq_false h]; decide
theorem mk_ext_pre (p r : Tx) : (mk (p ++ r)).extract 0 p.length = mk p := by
  apply ByteArray.ext
  simp [mk]
theorem mk_ext_suf (p r : Tx) : (mk (p ++ r)).extract p.length (mk (p ++ r)).size = mk r := by
  apply ByteArray.ext
  rw [mk_size]
  simp [mk]
theorem mk_ext (l : Tx) (i j : Nat) : (mk l).extract i j = mk ((l.take j).drop i) := by
  apply ByteArray.ext
  simp [mk]
  rw [List.drop_take]
theorem not_self (c : UInt8) (s : ByteArray) (h0 : ¬ s = ⟨#[c]⟩) : (([c] : List UInt8) == s.toList) = false := by
  rw [beq_eq_false_iff_ne]
  intro e
  apply h0
  rw [ByteArray.toList_eq] at e
  apply ByteArray.ext
  apply Array.ext'
  exact e.symm
set_option maxHeartbeats 1000000 in
set_option maxRecDepth 100000 in
theorem sib_any (s : ByteArray) (c : Int) (w : World) : Calls Try.prog 37 #[.string s, .int .u8 c] w fun e w' => e = .returned (.int .i64 (Lib.indexByte s.data.toList c.toNat.toUInt8)) ∧ w = w' := by
  obtain ⟨P, hP⟩ : ∃ P : Ending → World → Prop, P = fun e w' => e = .returned (.int .i64 (Lib.indexByte s.data.toList c.toNat.toUInt8)) ∧ w = w' := ⟨_, rfl⟩
  rw [← hP]
  have HF : Hid (P (.returned (.int .i64 (Lib.indexByte s.data.toList c.toNat.toUInt8))) w) := by rw [hP]; exact ⟨rfl, rfl⟩
  clear hP
  go_enter Try.func37, Try.ntmps37
  go_wp2
  rw [run_callFunc_extern Try.func41 (by kernel_rfl) (by kernel_rfl) (by kernel_rfl) (e := Extern.BytealgIndexByte.indexByte) (by kernel_rfl), Lib.run_indexByteString]
  simp only [Result.andThen]
  rw [Oper.upon_value]
  go_wp2
  first | exact HF.out | (go_ret; exact HF.out)
set_option maxHeartbeats 4000000 in
set_option maxRecDepth 100000 in
theorem sli_0 (l : Tx) (w : World) (hs : l.length ≤ 140737488351232) : Calls Try.prog 36 #[.string (mk l), .string ⟨#[0]⟩] w fun e w' => e = .returned (.int .i64 (Lib.indexByte l 0)) ∧ w = w' := by
  obtain ⟨P, hP⟩ : ∃ P : Ending → World → Prop, P = fun e w' => e = .returned (.int .i64 (Lib.indexByte l 0)) ∧ w = w' := ⟨_, rfl⟩
  rw [← hP]
  have HF : Hid (P (.returned (.int .i64 (Lib.indexByte l 0))) w) := by rw [hP]; exact ⟨rfl, rfl⟩
  have HI : Hid (Calls Try.prog 37 #[.string (mk l), .int .u8 0] w fun e w' => e = .returned (.int .i64 (Lib.indexByte l 0)) ∧ w = w') := sib_any (mk l) 0 w
  clear hP
  by_cases h0 : mk l = ⟨#[0]⟩
  · have e : Lib.indexByte l 0 = 0 := by
      have : l = [0] := by rw [← mk_data l, h0]
      rw [this]; decide
    rw [e] at HF
    rw [h0]
    clear HI
    go_enter Try.func36, Try.ntmps36
    go_wp2
    exact HF.out
  · have h1 := not_self 0 (mk l) h0
    have hsz := mk_size l
    generalize Lib.indexByte l 0 = r at *
    rw [← hsz] at hs
    clear hsz
    generalize mk l = s at *
    go_enter Try.func36, Try.ntmps36
    go_wp2_with (first | (go_at_call 37; refine HI.out.mono ?_; rintro e w1 ⟨rfl, rfl⟩))
    exact HF.out
set_option maxHeartbeats 1000000 in
set_option maxRecDepth 100000 in
theorem si_0 (l : Tx) (w : World) (hs : l.length ≤ 140737488351232) : Calls Try.prog 31 #[.string (mk l), .string ⟨#[0]⟩] w fun e w' => e = .returned (.int .i64 (Lib.indexByte l 0)) ∧ w = w' := by
  obtain ⟨P, hP⟩ : ∃ P : Ending → World → Prop, P = fun e w' => e = .returned (.int .i64 (Lib.indexByte l 0)) ∧ w = w' := ⟨_, rfl⟩
  rw [← hP]
  have HF : Hid (P (.returned (.int .i64 (Lib.indexByte l 0))) w) := by rw [hP]; exact ⟨rfl, rfl⟩
  have HJ := tHid (sli_0 l w hs)
  clear hP
  generalize mk l = s at *
  generalize Lib.indexByte l 0 = r at *
  go_enter Try.func31, Try.ntmps31
  go_wp2_with (first | (go_at_call 36; with_reducible refine HJ.out.mono ?_; rintro e w1 ⟨rfl, rfl⟩))
  exact HF.out
set_option maxHeartbeats 1000000 in
set_option maxRecDepth 100000 in
theorem cont_0 (l : Tx) (w : World) (hs : l.length ≤ 140737488351232) : Calls Try.prog 25 #[.string (mk l), .string ⟨#[0]⟩] w fun e w' => e = .returned (.bool (decide ((0 : UInt8) ∈ l))) ∧ w = w' := by
  obtain ⟨P, hP⟩ : ∃ P : Ending → World → Prop, P = fun e w' => e = .returned (.bool (decide ((0 : UInt8) ∈ l))) ∧ w = w' := ⟨_, rfl⟩
  rw [← hP]
  have hd := ix_dec l 0
  have HF : Hid (P (.returned (.bool (decide ((0 : UInt8) ∈ l)))) w) := by rw [hP]; exact ⟨rfl, rfl⟩
  have HJ := tHid (si_0 l w hs)
  clear hP
  rw [← hd] at HF
  clear hd
  generalize mk l = s at *
  generalize Lib.indexByte l 0 = r at *
  by_cases hr : 0 ≤ r
  · rw [decide_eq_true hr] at HF
    have hd := decide_eq_true hr
    go_enter Try.func25, Try.ntmps25
    go_wp2_with (first | (go_at_call 31; with_reducible refine HJ.out.mono ?_; rintro e w1 ⟨rfl, rfl⟩))
    exact HF.out
  · rw [decide_eq_false hr] at HF
    have hd := decide_eq_false hr
    go_enter Try.func25, Try.ntmps25
    go_wp2_with (first | (go_at_call 31; with_reducible refine HJ.out.mono ?_; rintro e w1 ⟨rfl, rfl⟩))
    exact HF.out
set_option maxHeartbeats 4000000 in
set_option maxRecDepth 100000 in
theorem sli_47 (l : Tx) (w : World) (hs : l.length ≤ 140737488351232) : Calls Try.prog 36 #[.string (mk l), .string ⟨#[47]⟩] w fun e w' => e = .returned (.int .i64 (Lib.indexByte l 47)) ∧ w = w' := by
  obtain ⟨P, hP⟩ : ∃ P : Ending → World → Prop, P = fun e w' => e = .returned (.int .i64 (Lib.indexByte l 47)) ∧ w = w' := ⟨_, rfl⟩
  rw [← hP]
  have HF : Hid (P (.returned (.int .i64 (Lib.indexByte l 47))) w) := by rw [hP]; exact ⟨rfl, rfl⟩
  have HI : Hid (Calls Try.prog 37 #[.string (mk l), .int .u8 47] w fun e w' => e = .returned (.int .i64 (Lib.indexByte l 47)) ∧ w = w') := sib_any (mk l) 47 w
  clear hP
  by_cases h0 : mk l = ⟨#[47]⟩
  · have e : Lib.indexByte l 47 = 0 := by
      have : l = [47] := by rw [← mk_data l, h0]
      rw [this]; decide
    rw [e] at HF
    rw [h0]
    clear HI
    go_enter Try.func36, Try.ntmps36
    go_wp2
    exact HF.out
  · have h1 := not_self 47 (mk l) h0
    have hsz := mk_size l
    generalize Lib.indexByte l 47 = r at *
    rw [← hsz] at hs
    clear hsz
    generalize mk l = s at *
    go_enter Try.func36, Try.ntmps36
    go_wp2_with (first | (go_at_call 37; refine HI.out.mono ?_; rintro e w1 ⟨rfl, rfl⟩))
    exact HF.out
set_option maxHeartbeats 1000000 in
set_option maxRecDepth 100000 in
theorem si_47 (l : Tx) (w : World) (hs : l.length ≤ 140737488351232) : Calls Try.prog 31 #[.string (mk l), .string ⟨#[47]⟩] w fun e w' => e = .returned (.int .i64 (Lib.indexByte l 47)) ∧ w = w' := by
  obtain ⟨P, hP⟩ : ∃ P : Ending → World → Prop, P = fun e w' => e = .returned (.int .i64 (Lib.indexByte l 47)) ∧ w = w' := ⟨_, rfl⟩
  rw [← hP]
  have HF : Hid (P (.returned (.int .i64 (Lib.indexByte l 47))) w) := by rw [hP]; exact ⟨rfl, rfl⟩
  have HJ := tHid (sli_47 l w hs)
  clear hP
  generalize mk l = s at *
  generalize Lib.indexByte l 47 = r at *
  go_enter Try.func31, Try.ntmps31
  go_wp2_with (first | (go_at_call 36; with_reducible refine HJ.out.mono ?_; rintro e w1 ⟨rfl, rfl⟩))
  exact HF.out
set_option maxHeartbeats 1000000 in
set_option maxRecDepth 100000 in
theorem cont_47 (l : Tx) (w : World) (hs : l.length ≤ 140737488351232) : Calls Try.prog 25 #[.string (mk l), .string ⟨#[47]⟩] w fun e w' => e = .returned (.bool (decide ((47 : UInt8) ∈ l))) ∧ w = w' := by
  obtain ⟨P, hP⟩ : ∃ P : Ending → World → Prop, P = fun e w' => e = .returned (.bool (decide ((47 : UInt8) ∈ l))) ∧ w = w' := ⟨_, rfl⟩
  rw [← hP]
  have hd := ix_dec l 47
  have HF : Hid (P (.returned (.bool (decide ((47 : UInt8) ∈ l)))) w) := by rw [hP]; exact ⟨rfl, rfl⟩
  have HJ := tHid (si_47 l w hs)
  clear hP
  rw [← hd] at HF
  clear hd
  generalize mk l = s at *
  generalize Lib.indexByte l 47 = r at *
  by_cases hr : 0 ≤ r
  · rw [decide_eq_true hr] at HF
    have hd := decide_eq_true hr
    go_enter Try.func25, Try.ntmps25
    go_wp2_with (first | (go_at_call 31; with_reducible refine HJ.out.mono ?_; rintro e w1 ⟨rfl, rfl⟩))
    exact HF.out
  · rw [decide_eq_false hr] at HF
    have hd := decide_eq_false hr
    go_enter Try.func25, Try.ntmps25
    go_wp2_with (first | (go_at_call 31; with_reducible refine HJ.out.mono ?_; rintro e w1 ⟨rfl, rfl⟩))
    exact HF.out
/-- What Cut answers. -/
def Cuts (l p r : Tx) (f : Bool) : Prop := (f = true ∧ l = p ++ 47 :: r ∧ (47 : UInt8) ∉ p) ∨ (f = false ∧ p = l ∧ r = [] ∧ (47 : UInt8) ∉ l)
set_option maxHeartbeats 4000000 in
set_option maxRecDepth 100000 in
theorem slcut_any (l : Tx) (w : World) (hs : l.length ≤ 140737488351232) : Calls Try.prog 35 #[.string (mk l), .string ⟨#[47]⟩] w fun e w' => ∃ p r f, e = .returned (.tuple #[.string (mk p), .string (mk r), .bool f]) ∧ Cuts l p r f ∧ Nw w w' := by
  obtain ⟨P, hP⟩ : ∃ P : Ending → World → Prop, P = fun e w' => ∃ p r f, e = .returned (.tuple #[.string (mk p), .string (mk r), .bool f]) ∧ Cuts l p r f ∧ Nw w w' := ⟨_, rfl⟩
  rw [← hP]
  have HJ := tHid (sli_47 l w hs)
  by_cases hm : (47 : UInt8) ∈ l
  · obtain ⟨p, r, e1, e2, e3⟩ := ix_some l 47 hm
    have HF : Hid (∀ V, Nw w V → P (.returned (.tuple #[.string (mk p), .string (mk r), .bool true])) V) := fun V hV => by rw [hP]; exact ⟨p, r, true, rfl, .inl ⟨rfl, e1, e2⟩, hV⟩
    have x1 : (mk l).extract 0 p.length = mk p := by rw [e1]; exact mk_ext_pre p (47 :: r)
    obtain ⟨I1, hI1⟩ : ∃ n, n = p.length + 1 := ⟨_, rfl⟩
    have x2 : (mk l).extract I1 (mk l).size = mk r := by
      have := mk_ext_suf (p ++ [47]) r
      rw [List.append_assoc, List.singleton_append, ← e1, List.length_append] at this
      rw [hI1]
      exact this
    have hll : l.length = p.length + 1 + r.length := by rw [e1]; simp; omega
    have hsz := mk_size l
    have hw : IntKind.i64.wrap ((p.length : Int) + 1) = (I1 : Int) := by rw [IntKind.wrap_i64]; omega
    have z1 : (p.length : Int) ≤ ((mk l).size : Int) := by omega
    have z2 : (I1 : Int) ≤ ((mk l).size : Int) := by omega
    have z3 : p.length ≤ (mk l).size := by omega
    have z4 : I1 ≤ (mk l).size := by omega
    have z5 : (p.length : Int) + 1 = (I1 : Int) := by omega
    rw [e3] at HJ
    have z6 : p.length ≤ 140737488351232 := by omega
    have z7 : (mk l).size ≤ 140737488351232 := by omega
    clear e1 e2 e3 hP hm hsz hll hs hI1
    generalize mk l = s at *
    generalize mk p = sp at *
    generalize mk r = sr at *
    generalize p.length = I at *
    go_enter Try.func35, Try.ntmps35
    go_wp2_with (first | (go_at_call 36; with_reducible refine HJ.out.mono ?_; rintro e w1 ⟨rfl, rfl⟩))
    go_quiet (fail)
    go_wp2_with fail
    exact HF.out _ ((Fr.refl _ _).drewN _)
  · have HF : Hid (P (.returned (.tuple #[.string (mk l), .string ⟨#[]⟩, .bool false])) w) := by
      show P _ _
      rw [hP]; exact ⟨l, [], false, rfl, .inr ⟨rfl, rfl, rfl, hm⟩, Fr.refl _ _⟩
    rw [(ix_none l 47).2 hm] at HJ
    clear hP hm
    generalize mk l = s at *
    go_enter Try.func35, Try.ntmps35
    go_wp2_with (first | (go_at_call 36; with_reducible refine HJ.out.mono ?_; rintro e w1 ⟨rfl, rfl⟩))
    exact HF.out
set_option maxHeartbeats 4000000 in
set_option maxRecDepth 100000 in
theorem scut_any (l : Tx) (w : World) (hs : l.length ≤ 140737488351232) : Calls Try.prog 30 #[.string (mk l), .string ⟨#[47]⟩] w fun e w' => ∃ p r f, e = .returned (.tuple #[.string (mk p), .string (mk r), .bool f]) ∧ Cuts l p r f ∧ Nw w w' := by
  obtain ⟨P, hP⟩ : ∃ P : Ending → World → Prop, P = fun e w' => ∃ p r f, e = .returned (.tuple #[.string (mk p), .string (mk r), .bool f]) ∧ Cuts l p r f ∧ Nw w w' := ⟨_, rfl⟩
  rw [← hP]
  have HJ : Hid (Calls Try.prog 35 #[.string (mk l), .string ⟨#[47]⟩] w fun e w' => ∃ p r f, e = .returned (.tuple #[.string (mk p), .string (mk r), .bool f]) ∧ Hid (Cuts l p r f ∧ Nw w w')) := slcut_any l w hs
  have HF : Hid (∀ p r f V, Cuts l p r f ∧ Nw w V → P (.returned (.tuple #[.string (mk p), .string (mk r), .bool f])) V) := fun p r f V h => by rw [hP]; exact ⟨p, r, f, rfl, h⟩
  clear hP
  go_enter Try.func30, Try.ntmps30
  go_wp2_with (first | (go_at_call 35; with_reducible refine HJ.out.mono ?_; rintro e w1 ⟨p, r, f, rfl, h1⟩))
  exact HF.out _ _ _ _ h1.out
theorem eq_47 (l : Tx) : (([47] : List UInt8) == (mk l).toList) = decide (l = [47]) := by
  rw [mk_toList]
  by_cases h : l = [47]
  · subst h; decide
  · rw [decide_eq_false h, beq_eq_false_iff_ne]; exact fun e => h e.symm
set_option maxHeartbeats 4000000 in
set_option maxRecDepth 100000 in
theorem slhp_any (l : Tx) (w : World) (hs : l.length ≤ 140737488351232) : Calls Try.prog 32 #[.string (mk l), .string ⟨#[47]⟩] w fun e w' => e = .returned (.bool (decide (l.head? = some 47))) ∧ w = w' := by
  obtain ⟨P, hP⟩ : ∃ P : Ending → World → Prop, P = fun e w' => e = .returned (.bool (decide (l.head? = some 47))) ∧ w = w' := ⟨_, rfl⟩
  rw [← hP]
  cases l with
  | nil =>
    have HF : Hid (P (.returned (.bool false)) w) := by rw [hP]; exact ⟨rfl, rfl⟩
    clear hP
    show Calls Try.prog 32 #[.string ⟨#[]⟩, .string ⟨#[47]⟩] w P
    go_enter Try.func32, Try.ntmps32
    go_wp2_with fail
    exact HF.out
  | cons c r =>
    have HF : Hid (P (.returned (.bool (decide (c = 47)))) w) := by rw [hP]; exact ⟨by simp, rfl⟩
    have x1 : (mk (c :: r)).extract 0 1 = mk [c] := mk_ext_pre [c] r
    have hsz := mk_size (c :: r)
    have hb : ((mk [c]).toList == ([47] : List UInt8)) = decide (c = 47) := by
      rw [mk_toList]
      by_cases h : c = 47
      · subst h; decide
      · rw [decide_eq_false h, beq_eq_false_iff_ne]; simpa using h
    have z1 : 1 ≤ (mk (c :: r)).size := by rw [hsz]; simp
    have z2 : (1 : Int) ≤ ((mk (c :: r)).size : Int) := by omega
    have z3 : decide ((1 : Int) ≤ ((mk (c :: r)).size : Int)) = true := decide_eq_true z2
    have z4 : decide (1 ≤ (mk (c :: r)).size) = true := decide_eq_true z1
    have z5 : (mk (c :: r)).size ≤ 140737488351232 := by rw [hsz]; exact hs
    clear hP hsz hs
    generalize mk (c :: r) = s at *
    generalize mk [c] = sp at *
    generalize decide (c = 47) = B at *
    go_enter Try.func32, Try.ntmps32
    go_wp2_with fail
    exact HF.out
set_option maxHeartbeats 4000000 in
set_option maxRecDepth 100000 in
theorem hp_any (l : Tx) (w : World) (hs : l.length ≤ 140737488351232) : Calls Try.prog 26 #[.string (mk l), .string ⟨#[47]⟩] w fun e w' => e = .returned (.bool (decide (l.head? = some 47))) ∧ w = w' := by
  obtain ⟨P, hP⟩ : ∃ P : Ending → World → Prop, P = fun e w' => e = .returned (.bool (decide (l.head? = some 47))) ∧ w = w' := ⟨_, rfl⟩
  rw [← hP]
  have HJ := tHid (slhp_any l w hs)
  have HF : Hid (P (.returned (.bool (decide (l.head? = some 47)))) w) := by rw [hP]; exact ⟨rfl, rfl⟩
  clear hP
  generalize decide (l.head? = some 47) = B at *
  generalize mk l = s at *
  go_enter Try.func26, Try.ntmps26
  go_wp2_with (first | (go_at_call 32; with_reducible refine HJ.out.mono ?_; rintro e w1 ⟨rfl, rfl⟩))
  exact HF.out
end Go.Proofs.Ytoplhkpbicgceaa

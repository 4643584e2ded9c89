import Derived.Test.YtenkchhlaphocaaGreatDoorNjI
import Derived.Laws.Concat
namespace Go.Proofs.YtenkchhlaphocaaGreatDoor
open Go.RowKit
set_option linter.unusedVariables false
/-! ### Strings: Index, Contains, Cut of one byte; bytes: Equal, HasSuffix, CutSuffix -/
theorem not_self (c : UInt8) (s : ByteArray) (h0 : ¬ s = ⟨#[c]⟩) : (([c] : List UInt8) == s.toList) = false := by
  rw [beq_eq_false_iff_ne]
  intro e
  apply h0
  rw [ByteArray.toList_eq] at e
  apply ByteArray.ext
  apply Array.ext'
  exact e.symm
theorem str_toList (l : Bs) : (str l).toList = l.map u8 := by rw [ByteArray.toList_eq]; rfl
theorem str_beq (l m : Bs) : ((str l).toList == (str m).toList) = decide (l = m) := by
  rw [str_toList, str_toList]
  by_cases h : l = m
  · subst h; simp
  · rw [decide_eq_false h, beq_eq_false_iff_ne]; exact fun e => h (map_inj e)
theorem str_pre (p r : Bs) : (str (p ++ r)).extract 0 p.length = str p := by
  apply ByteArray.ext
  simp [str, List.map_append]
theorem str_suf (p r : Bs) : (str (p ++ r)).extract p.length (str (p ++ r)).size = str r := by
  apply ByteArray.ext
  rw [str_size]
  simp [str, List.map_append]
  exact List.take_of_length_le (by simp)
/-- What Cut answers. -/
def CutsB (c : By) (l p r : Bs) (f : Bool) : Prop := (f = true ∧ l = p ++ c :: r ∧ c ∉ p) ∨ (f = false ∧ p = l ∧ r = [] ∧ c ∉ l)

set_option maxHeartbeats 4000000 in
set_option maxRecDepth 100000 in
theorem sli_0 (s : ByteArray) (w : World) (hs : s.size ≤ 140737488351232) : Calls Tryz.prog 53 #[.string s, .string ⟨#[0]⟩] w fun e w' => e = .returned (.int .i64 (Lib.indexByte s.data.toList (u8 0#8))) ∧ w = w' := by
  obtain ⟨P, hP⟩ : ∃ P : Ending → World → Prop, P = fun e w' => e = .returned (.int .i64 (Lib.indexByte s.data.toList (u8 0#8))) ∧ w = w' := ⟨_, rfl⟩
  rw [← hP]
  have HF : Hid (P (.returned (.int .i64 (Lib.indexByte s.data.toList (u8 0#8)))) w) := by rw [hP]; exact ⟨rfl, rfl⟩
  have HI : Hid (Calls Tryz.prog 83 #[.string s, .int .u8 0] w fun e w' => e = .returned (.int .i64 (Lib.indexByte s.data.toList (u8 0#8))) ∧ w = w') := sib_any s 0 w
  clear hP
  by_cases h0 : s = ⟨#[0]⟩
  · subst h0
    have e : Lib.indexByte (⟨#[0]⟩ : ByteArray).data.toList (u8 0#8) = 0 := by decide +kernel
    rw [e] at HF
    clear HI
    go_enter Tryz.func53, Tryz.ntmps53
    go_wp2
    exact HF.out
  · have h1 := not_self 0 s h0
    generalize Lib.indexByte s.data.toList (u8 0#8) = r at *
    go_enter Tryz.func53, Tryz.ntmps53
    go_wp2_with (first | (go_at_call 83; refine HI.out.mono ?_; rintro e w1 ⟨rfl, rfl⟩))
    exact HF.out

set_option maxHeartbeats 4000000 in
set_option maxRecDepth 100000 in
theorem sli_61 (s : ByteArray) (w : World) (hs : s.size ≤ 140737488351232) : Calls Tryz.prog 53 #[.string s, .string ⟨#[61]⟩] w fun e w' => e = .returned (.int .i64 (Lib.indexByte s.data.toList (u8 61#8))) ∧ w = w' := by
  obtain ⟨P, hP⟩ : ∃ P : Ending → World → Prop, P = fun e w' => e = .returned (.int .i64 (Lib.indexByte s.data.toList (u8 61#8))) ∧ w = w' := ⟨_, rfl⟩
  rw [← hP]
  have HF : Hid (P (.returned (.int .i64 (Lib.indexByte s.data.toList (u8 61#8)))) w) := by rw [hP]; exact ⟨rfl, rfl⟩
  have HI : Hid (Calls Tryz.prog 83 #[.string s, .int .u8 61] w fun e w' => e = .returned (.int .i64 (Lib.indexByte s.data.toList (u8 61#8))) ∧ w = w') := sib_any s 61 w
  clear hP
  by_cases h0 : s = ⟨#[61]⟩
  · subst h0
    have e : Lib.indexByte (⟨#[61]⟩ : ByteArray).data.toList (u8 61#8) = 0 := by decide +kernel
    rw [e] at HF
    clear HI
    go_enter Tryz.func53, Tryz.ntmps53
    go_wp2
    exact HF.out
  · have h1 := not_self 61 s h0
    generalize Lib.indexByte s.data.toList (u8 61#8) = r at *
    go_enter Tryz.func53, Tryz.ntmps53
    go_wp2_with (first | (go_at_call 83; refine HI.out.mono ?_; rintro e w1 ⟨rfl, rfl⟩))
    exact HF.out

set_option maxHeartbeats 4000000 in
set_option maxRecDepth 100000 in
theorem sli_46 (s : ByteArray) (w : World) (hs : s.size ≤ 140737488351232) : Calls Tryz.prog 53 #[.string s, .string ⟨#[46]⟩] w fun e w' => e = .returned (.int .i64 (Lib.indexByte s.data.toList (u8 46#8))) ∧ w = w' := by
  obtain ⟨P, hP⟩ : ∃ P : Ending → World → Prop, P = fun e w' => e = .returned (.int .i64 (Lib.indexByte s.data.toList (u8 46#8))) ∧ w = w' := ⟨_, rfl⟩
  rw [← hP]
  have HF : Hid (P (.returned (.int .i64 (Lib.indexByte s.data.toList (u8 46#8)))) w) := by rw [hP]; exact ⟨rfl, rfl⟩
  have HI : Hid (Calls Tryz.prog 83 #[.string s, .int .u8 46] w fun e w' => e = .returned (.int .i64 (Lib.indexByte s.data.toList (u8 46#8))) ∧ w = w') := sib_any s 46 w
  clear hP
  by_cases h0 : s = ⟨#[46]⟩
  · subst h0
    have e : Lib.indexByte (⟨#[46]⟩ : ByteArray).data.toList (u8 46#8) = 0 := by decide +kernel
    rw [e] at HF
    clear HI
    go_enter Tryz.func53, Tryz.ntmps53
    go_wp2
    exact HF.out
  · have h1 := not_self 46 s h0
    generalize Lib.indexByte s.data.toList (u8 46#8) = r at *
    go_enter Tryz.func53, Tryz.ntmps53
    go_wp2_with (first | (go_at_call 83; refine HI.out.mono ?_; rintro e w1 ⟨rfl, rfl⟩))
    exact HF.out

set_option maxHeartbeats 4000000 in
set_option maxRecDepth 100000 in
theorem slcut_61 (l : Bs) (w : World) (hs : l.length ≤ 140737488351232) : Calls Tryz.prog 39 #[.string (str l), .string ⟨#[61]⟩] w fun e w' => ∃ p r f, e = .returned (.tuple #[.string (str p), .string (str r), .bool f]) ∧ Hid (CutsB 61#8 l p r f ∧ Nw w w') := by
  obtain ⟨P, hP⟩ : ∃ P : Ending → World → Prop, P = fun e w' => ∃ p r f, e = .returned (.tuple #[.string (str p), .string (str r), .bool f]) ∧ Hid (CutsB 61#8 l p r f ∧ Nw w w') := ⟨_, rfl⟩
  rw [← hP]
  have hsz := str_size l
  have HJ := tHid (sli_61 (str l) w (by omega))
  rcases ixs l 61#8 with ⟨hm, e3⟩ | ⟨p, r, e1, e2, e3⟩
  · have HF : Hid (P (.returned (.tuple #[.string (str l), .string ⟨#[]⟩, .bool false])) w) := by
      show P _ _
      rw [hP]; exact ⟨l, [], false, rfl, .inr ⟨rfl, rfl, rfl, hm⟩, Fr.refl _ _⟩
    rw [str_data, e3] at HJ
    clear hP hm e3
    generalize str l = s at *
    go_enter Tryz.func39, Tryz.ntmps39
    go_wp2_with (first | (go_at_call 53; with_reducible refine HJ.out.mono ?_; rintro e w1 ⟨rfl, rfl⟩))
    exact HF.out
  · have HF : Hid (∀ V, Nw w V → P (.returned (.tuple #[.string (str p), .string (str r), .bool true])) V) := fun V hV => by rw [hP]; exact ⟨p, r, true, rfl, .inl ⟨rfl, e1, e2⟩, hV⟩
    have x1 : (str l).extract 0 p.length = str p := by rw [e1]; exact str_pre p _
    obtain ⟨I1, hI1⟩ : ∃ n, n = p.length + 1 := ⟨_, rfl⟩
    have x2 : (str l).extract I1 (str l).size = str r := by
      have := str_suf (p ++ [61#8]) r
      rw [List.append_assoc, List.singleton_append, ← e1, List.length_append] at this
      rw [hI1]
      exact this
    have hll : l.length = p.length + 1 + r.length := by rw [e1]; simp; omega
    have hw : IntKind.i64.wrap ((p.length : Int) + 1) = (I1 : Int) := by rw [IntKind.wrap_i64]; omega
    have z1 : (p.length : Int) ≤ ((str l).size : Int) := by omega
    have z2 : (I1 : Int) ≤ ((str l).size : Int) := by omega
    have z3 : p.length ≤ (str l).size := by omega
    have z4 : I1 ≤ (str l).size := by omega
    have z5 : (p.length : Int) + 1 = (I1 : Int) := by omega
    rw [str_data, e3] at HJ
    have z6 : p.length ≤ 140737488351232 := by omega
    have z7 : (str l).size ≤ 140737488351232 := by omega
    clear e1 e2 e3 hP hsz hll hs hI1
    generalize str l = s at *
    generalize str p = sp at *
    generalize str r = sr at *
    generalize p.length = I at *
    go_enter Tryz.func39, Tryz.ntmps39
    go_wp2_with (first | (go_at_call 53; with_reducible refine HJ.out.mono ?_; rintro e w1 ⟨rfl, rfl⟩))
    go_quiet (fail)
    go_wp2_with fail
    exact HF.out _ ((Fr.refl _ _).drewN _)
set_option maxHeartbeats 4000000 in
set_option maxRecDepth 100000 in
theorem scut_61 (l : Bs) (w : World) (hs : l.length ≤ 140737488351232) : Calls Tryz.prog 22 #[.string (str l), .string ⟨#[61]⟩] w fun e w' => ∃ p r f, e = .returned (.tuple #[.string (str p), .string (str r), .bool f]) ∧ Hid (CutsB 61#8 l p r f ∧ Nw w w') := by
  obtain ⟨P, hP⟩ : ∃ P : Ending → World → Prop, P = fun e w' => ∃ p r f, e = .returned (.tuple #[.string (str p), .string (str r), .bool f]) ∧ Hid (CutsB 61#8 l p r f ∧ Nw w w') := ⟨_, rfl⟩
  rw [← hP]
  have HJ := tHid (slcut_61 l w hs)
  have HF : Hid (∀ p r f V, CutsB 61#8 l p r f ∧ Nw w V → P (.returned (.tuple #[.string (str p), .string (str r), .bool f])) V) := fun p r f V h => by rw [hP]; exact ⟨p, r, f, rfl, h⟩
  clear hP
  go_enter Tryz.func22, Tryz.ntmps22
  go_wp2_with (first | (go_at_call 39; with_reducible refine HJ.out.mono ?_; rintro e w1 ⟨p, r, f, rfl, h1⟩))
  exact HF.out _ _ _ _ h1.out

set_option maxHeartbeats 4000000 in
set_option maxRecDepth 100000 in
theorem slcut_46 (l : Bs) (w : World) (hs : l.length ≤ 140737488351232) : Calls Tryz.prog 39 #[.string (str l), .string ⟨#[46]⟩] w fun e w' => ∃ p r f, e = .returned (.tuple #[.string (str p), .string (str r), .bool f]) ∧ Hid (CutsB 46#8 l p r f ∧ Nw w w') := by
  obtain ⟨P, hP⟩ : ∃ P : Ending → World → Prop, P = fun e w' => ∃ p r f, e = .returned (.tuple #[.string (str p), .string (str r), .bool f]) ∧ Hid (CutsB 46#8 l p r f ∧ Nw w w') := ⟨_, rfl⟩
  rw [← hP]
  have hsz := str_size l
  have HJ := tHid (sli_46 (str l) w (by omega))
  rcases ixs l 46#8 with ⟨hm, e3⟩ | ⟨p, r, e1, e2, e3⟩
  · have HF : Hid (P (.returned (.tuple #[.string (str l), .string ⟨#[]⟩, .bool false])) w) := by
      show P _ _
      rw [hP]; exact ⟨l, [], false, rfl, .inr ⟨rfl, rfl, rfl, hm⟩, Fr.refl _ _⟩
    rw [str_data, e3] at HJ
    clear hP hm e3
    generalize str l = s at *
    go_enter Tryz.func39, Tryz.ntmps39
    go_wp2_with (first | (go_at_call 53; with_reducible refine HJ.out.mono ?_; rintro e w1 ⟨rfl, rfl⟩))
    exact HF.out
  · have HF : Hid (∀ V, Nw w V → P (.returned (.tuple #[.string (str p), .string (str r), .bool true])) V) := fun V hV => by rw [hP]; exact ⟨p, r, true, rfl, .inl ⟨rfl, e1, e2⟩, hV⟩
    have x1 : (str l).extract 0 p.length = str p := by rw [e1]; exact str_pre p _
    obtain ⟨I1, hI1⟩ : ∃ n, n = p.length + 1 := ⟨_, rfl⟩
    have x2 : (str l).extract I1 (str l).size = str r := by
      have := str_suf (p ++ [46#8]) r
      rw [List.append_assoc, List.singleton_append, ← e1, List.length_append] at this
      rw [hI1]
      exact this
    have hll : l.length = p.length + 1 + r.length := by rw [e1]; simp; omega
    have hw : IntKind.i64.wrap ((p.length : Int) + 1) = (I1 : Int) := by rw [IntKind.wrap_i64]; omega
    have z1 : (p.length : Int) ≤ ((str l).size : Int) := by omega
    have z2 : (I1 : Int) ≤ ((str l).size : Int) := by omega
    have z3 : p.length ≤ (str l).size := by omega
    have z4 : I1 ≤ (str l).size := by omega
    have z5 : (p.length : Int) + 1 = (I1 : Int) := by omega
    rw [str_data, e3] at HJ
    have z6 : p.length ≤ 140737488351232 := by omega
    have z7 : (str l).size ≤ 140737488351232 := by omega
    clear e1 e2 e3 hP hsz hll hs hI1
    generalize str l = s at *
    generalize str p = sp at *
    generalize str r = sr at *
    generalize p.length = I at *
    go_enter Tryz.func39, Tryz.ntmps39
    go_wp2_with (first | (go_at_call 53; with_reducible refine HJ.out.mono ?_; rintro e w1 ⟨rfl, rfl⟩))
    go_quiet (fail)
    go_wp2_with fail
    exact HF.out _ ((Fr.refl _ _).drewN _)
set_option maxHeartbeats 4000000 in
set_option maxRecDepth 100000 in
theorem scut_46 (l : Bs) (w : World) (hs : l.length ≤ 140737488351232) : Calls Tryz.prog 22 #[.string (str l), .string ⟨#[46]⟩] w fun e w' => ∃ p r f, e = .returned (.tuple #[.string (str p), .string (str r), .bool f]) ∧ Hid (CutsB 46#8 l p r f ∧ Nw w w') := by
  obtain ⟨P, hP⟩ : ∃ P : Ending → World → Prop, P = fun e w' => ∃ p r f, e = .returned (.tuple #[.string (str p), .string (str r), .bool f]) ∧ Hid (CutsB 46#8 l p r f ∧ Nw w w') := ⟨_, rfl⟩
  rw [← hP]
  have HJ := tHid (slcut_46 l w hs)
  have HF : Hid (∀ p r f V, CutsB 46#8 l p r f ∧ Nw w V → P (.returned (.tuple #[.string (str p), .string (str r), .bool f])) V) := fun p r f V h => by rw [hP]; exact ⟨p, r, f, rfl, h⟩
  clear hP
  go_enter Tryz.func22, Tryz.ntmps22
  go_wp2_with (first | (go_at_call 39; with_reducible refine HJ.out.mono ?_; rintro e w1 ⟨p, r, f, rfl, h1⟩))
  exact HF.out _ _ _ _ h1.out

set_option maxHeartbeats 1000000 in
set_option maxRecDepth 100000 in
theorem si_0 (s : ByteArray) (w : World) (hs : s.size ≤ 140737488351232) : Calls Tryz.prog 49 #[.string s, .string ⟨#[0]⟩] w fun e w' => e = .returned (.int .i64 (Lib.indexByte s.data.toList (u8 0#8))) ∧ w = w' := by
  obtain ⟨P, hP⟩ : ∃ P : Ending → World → Prop, P = fun e w' => e = .returned (.int .i64 (Lib.indexByte s.data.toList (u8 0#8))) ∧ w = w' := ⟨_, rfl⟩
  rw [← hP]
  have HF : Hid (P (.returned (.int .i64 (Lib.indexByte s.data.toList (u8 0#8)))) w) := by rw [hP]; exact ⟨rfl, rfl⟩
  have HJ := tHid (sli_0 s w hs)
  clear hP
  generalize Lib.indexByte s.data.toList (u8 0#8) = r at *
  go_enter Tryz.func49, Tryz.ntmps49
  go_wp2_with (first | (go_at_call 53; with_reducible refine HJ.out.mono ?_; rintro e w1 ⟨rfl, rfl⟩))
  exact HF.out
theorem ix0_dec (l : Bs) : decide (0 ≤ Lib.indexByte (str l).data.toList (u8 0#8)) = decide (0#8 ∈ l) := by
  rw [str_data]
  rcases ixs l 0#8 with ⟨hm, e3⟩ | ⟨p, r, e1, e2, e3⟩
  · rw [e3, decide_eq_false hm]; decide
  · rw [e3, decide_eq_true (by rw [e1]; simp : 0#8 ∈ l)]; simp
set_option maxHeartbeats 1000000 in
set_option maxRecDepth 100000 in
theorem cont0_any (l : Bs) (w : World) (hs : l.length ≤ 140737488351232) : Calls Tryz.prog 34 #[.string (str l), .string ⟨#[0]⟩] w fun e w' => e = .returned (.bool (decide (0#8 ∈ l))) ∧ w = w' := by
  obtain ⟨P, hP⟩ : ∃ P : Ending → World → Prop, P = fun e w' => e = .returned (.bool (decide (0#8 ∈ l))) ∧ w = w' := ⟨_, rfl⟩
  rw [← hP]
  have hd := ix0_dec l
  have HF : Hid (P (.returned (.bool (decide (0#8 ∈ l)))) w) := by rw [hP]; exact ⟨rfl, rfl⟩
  have HJ := tHid (si_0 (str l) w (by rw [str_size]; exact hs))
  clear hP
  generalize str l = s at *
  generalize Lib.indexByte s.data.toList (u8 0#8) = r at *
  generalize decide (0#8 ∈ l) = B at *
  go_enter Tryz.func34, Tryz.ntmps34
  go_wp2_with (first | (go_at_call 49; with_reducible refine HJ.out.mono ?_; rintro e w1 ⟨rfl, rfl⟩))
  exact HF.out
set_option maxHeartbeats 1000000 in
set_option maxRecDepth 100000 in
theorem beq_any {X Y : Nat → Prop} (w : World) (v u : Value) (l m : Bs) (hl : Sl X v l w) (hm : Sl Y u m w) : Calls Tryz.prog 82 #[v, u] w fun e w' => e = .returned (.bool (decide (l = m))) ∧ w = w' := by
  obtain ⟨P, hP⟩ : ∃ P : Ending → World → Prop, P = fun e w' => e = .returned (.bool (decide (l = m))) ∧ w = w' := ⟨_, rfl⟩
  rw [← hP]
  have HF : Hid (P (.returned (.bool (decide (l = m)))) w) := by rw [hP]; exact ⟨rfl, rfl⟩
  have c1 := conv_any hl
  have c2 := conv_any hm
  have hb := str_beq l m
  clear hP hl hm
  generalize str l = s at *
  generalize str m = t at *
  generalize decide (l = m) = B at *
  go_enter Tryz.func82, Tryz.ntmps82
  go_wp2_with fail
  first | exact HF.out | (go_ret; exact HF.out)
end Go.Proofs.YtenkchhlaphocaaGreatDoor

import Derived.Test.YtenkchhlaphocaaGreatDoorNjF
import Derived.Lib.AsciiSet
import Derived.Lib.Bytealg
import Derived.Lib.OthersKept
import Derived.Laws.RangeAny
import Derived.Laws.ResultCell
import Derived.Deep.WholeRow
import Derived.Lib.Strings
namespace Go.Proofs.YtenkchhlaphocaaGreatDoor
open Go.RowKit
set_option linter.unusedVariables false
/-! ### Strings: IndexByte, IndexRune, IndexAny of = and 0 -/
theorem u8_iff (x c : By) : u8 x = u8 c ↔ x = c := ⟨u8_inj x c, fun h => by rw [h]⟩
theorem str_data (l : Bs) : (str l).data.toList = l.map u8 := rfl
theorem ixs (l : Bs) (c : By) : (c ∉ l ∧ Lib.indexByte (l.map u8) (u8 c) = -1) ∨ ∃ k r, l = k ++ c :: r ∧ c ∉ k ∧ Lib.indexByte (l.map u8) (u8 c) = (k.length : Int) := by
  induction l with
  | nil => exact .inl ⟨by simp, by simp [Lib.indexByte]⟩
  | cons x r ih =>
    by_cases hx : x = c
    · subst hx
      exact .inr ⟨[], r, rfl, by simp, by simp [Lib.indexByte]⟩
    · have hu : ¬ u8 x = u8 c := fun h => hx (u8_inj x c h)
      rcases ih with ⟨h1, h2⟩ | ⟨k, t, h1, h2, h3⟩
      · refine .inl ⟨by rw [List.mem_cons, not_or]; exact ⟨fun e => hx e.symm, h1⟩, ?_⟩
        rw [List.map_cons]
        unfold Lib.indexByte
        rw [if_neg (by simpa using hu), if_pos (by rw [h2]; rfl)]
      · refine .inr ⟨x :: k, t, by rw [h1]; rfl, by rw [List.mem_cons, not_or]; exact ⟨fun e => hx e.symm, h2⟩, ?_⟩
        rw [List.map_cons]
        unfold Lib.indexByte
        rw [if_neg (by simpa using hu), if_neg (by rw [h3]; simp), h3]
        simp
theorem str_lt (l : Bs) (j : Nat) (h : j < (str l).size) : j < l.length := by rw [str_size] at h; exact h
theorem str_get (l : Bs) (j : Nat) (h : j < (str l).size) : ((str l)[j]'h).toNat = (l[j]'(str_lt l j h)).toNat := by
  have : (str l)[j]'h = u8 (l[j]'(str_lt l j h)) := by
    show (str l).data[j] = _
    simp [str]
  rw [this, u8_nat]
/-- Behind a byte of 128 and more: the rune, and what it takes. -/
theorem hi_skip (s : ByteArray) (pos : Nat) (h : pos < s.size) (ha : 128 ≤ (s[pos]'h).toNat) : 128 ≤ (Utf8.decode s pos).1 ∧ (Utf8.decode s pos).1 ≤ 1114111 ∧ Utf8.valid ((Utf8.decode s pos).1 : Int) = true ∧ 1 ≤ (Utf8.decode s pos).2 ∧ pos + (Utf8.decode s pos).2 ≤ s.size ∧ ∀ j, pos ≤ j → j < pos + (Utf8.decode s pos).2 → 128 ≤ (s.get! j).toNat := by
  have hn : ¬ (s[pos]'h).toNat < 128 := by omega
  have h256 := (s[pos]'h).toNat_lt
  have g0 : s.get! pos = s[pos]'h := get_at s pos h
  have one : ∀ j, pos ≤ j → j < pos + 1 → 128 ≤ (s.get! j).toNat := fun j h1 h2 => by
    obtain rfl : j = pos := by omega
    rw [g0]; exact ha
  simp only [Utf8.decode, get_at s pos h, hn, if_false]
  have b1 := (s.get! (pos + 1)).toNat_lt
  have b2 := (s.get! (pos + 2)).toNat_lt
  have b3 := (s.get! (pos + 3)).toNat_lt
  have bad : 128 ≤ Utf8.runeError ∧ Utf8.runeError ≤ 1114111 ∧ Utf8.valid (Utf8.runeError : Int) = true ∧ 1 ≤ 1 ∧ pos + 1 ≤ s.size ∧ ∀ j, pos ≤ j → j < pos + 1 → 128 ≤ (s.get! j).toNat := ⟨by decide, by decide, by decide, by decide, by omega, one⟩
  split
  · rename_i hc
    simp only [Bool.and_eq_true, decide_eq_true_eq, beq_iff_eq] at hc
    split
    · refine ⟨by omega, by omega, ?_, Nat.le_of_ble_eq_true rfl, by omega, fun j h1 h2 => ?_⟩
      · simp only [Utf8.valid, Bool.or_eq_true, Bool.and_eq_true, decide_eq_true_eq]; omega
      · by_cases hj : j = pos
        · subst hj; rw [g0]; exact ha
        · obtain rfl : j = pos + 1 := by omega
          omega
    · exact bad
  · split
    · rename_i hc
      simp only [Bool.and_eq_true, decide_eq_true_eq, beq_iff_eq] at hc
      split
      · rename_i hv
        simp only [Bool.and_eq_true, decide_eq_true_eq] at hv
        refine ⟨by omega, by omega, hv.2, Nat.le_of_ble_eq_true rfl, by omega, fun j h1 h2 => ?_⟩
        by_cases hj : j = pos
        · subst hj; rw [g0]; exact ha
        · by_cases hj2 : j = pos + 1
          · subst hj2; omega
          · obtain rfl : j = pos + 2 := by omega
            omega
      · exact bad
    · split
      · rename_i hc
        simp only [Bool.and_eq_true, decide_eq_true_eq, beq_iff_eq] at hc
        split
        · rename_i hv
          simp only [Bool.and_eq_true, decide_eq_true_eq] at hv
          have hv2 := hv.2
          simp only [Utf8.valid, Bool.or_eq_true, Bool.and_eq_true, decide_eq_true_eq] at hv2
          refine ⟨by omega, by omega, hv.2, Nat.le_of_ble_eq_true rfl, by omega, fun j h1 h2 => ?_⟩
          by_cases hj : j = pos
          · subst hj; rw [g0]; exact ha
          · by_cases hj2 : j = pos + 1
            · subst hj2; omega
            · by_cases hj3 : j = pos + 2
              · subst hj3; omega
              · obtain rfl : j = pos + 3 := by omega
                omega
        · exact bad
      · exact bad
set_option maxHeartbeats 1000000 in
set_option maxRecDepth 100000 in
theorem sib_any (s : ByteArray) (c : Int) (w : World) : Calls Tryz.prog 83 #[.string s, .int .u8 c] w fun e w' => e = .returned (.int .i64 (Lib.indexByte s.data.toList c.toNat.toUInt8)) ∧ w = w' := by
  obtain ⟨P, hP⟩ : ∃ P : Ending → World → Prop, P = fun e w' => e = .returned (.int .i64 (Lib.indexByte s.data.toList c.toNat.toUInt8)) ∧ w = w' := ⟨_, rfl⟩
  rw [← hP]
  have HF : Hid (P (.returned (.int .i64 (Lib.indexByte s.data.toList c.toNat.toUInt8))) w) := by rw [hP]; exact ⟨rfl, rfl⟩
  clear hP
  go_enter Tryz.func83, Tryz.ntmps83
  go_wp2
  rw [run_callFunc_extern Tryz.func107 (by kernel_rfl) (by kernel_rfl) (by kernel_rfl) (e := Extern.BytealgIndexByte.indexByte) (by kernel_rfl), Lib.run_indexByteString]
  simp only [Result.andThen]
  rw [Oper.upon_value]
  go_wp2
  first | exact HF.out | (go_ret; exact HF.out)
set_option maxHeartbeats 1000000 in
set_option maxRecDepth 100000 in
theorem sIb_any (s : ByteArray) (c : Int) (w : World) : Calls Tryz.prog 105 #[.string s, .int .u8 c] w fun e w' => e = .returned (.int .i64 (Lib.indexByte s.data.toList c.toNat.toUInt8)) ∧ w = w' := by
  obtain ⟨P, hP⟩ : ∃ P : Ending → World → Prop, P = fun e w' => e = .returned (.int .i64 (Lib.indexByte s.data.toList c.toNat.toUInt8)) ∧ w = w' := ⟨_, rfl⟩
  rw [← hP]
  have HF : Hid (P (.returned (.int .i64 (Lib.indexByte s.data.toList c.toNat.toUInt8))) w) := by rw [hP]; exact ⟨rfl, rfl⟩
  have HJ := tHid (sib_any s c w)
  clear hP
  generalize Lib.indexByte s.data.toList c.toNat.toUInt8 = r at *
  go_enter Tryz.func105, Tryz.ntmps105
  go_wp2_with (first | (go_at_call 83; with_reducible refine HJ.out.mono ?_; rintro e w1 ⟨rfl, rfl⟩))
  first | exact HF.out | (go_ret; exact HF.out)
set_option maxHeartbeats 1000000 in
set_option maxRecDepth 100000 in
theorem vrune_any (r : Nat) (h : Utf8.valid (r : Int) = true) (w : World) : Calls Tryz.prog 106 #[.int .i32 r] w fun e w' => e = .returned (.bool true) ∧ w = w' := by
  obtain ⟨P, hP⟩ : ∃ P : Ending → World → Prop, P = fun e w' => e = .returned (.bool true) ∧ w = w' := ⟨_, rfl⟩
  rw [← hP]
  have HF : Hid (P (.returned (.bool true)) w) := by rw [hP]; exact ⟨rfl, rfl⟩
  clear hP
  simp only [Utf8.valid, Bool.or_eq_true, Bool.and_eq_true, decide_eq_true_eq] at h
  have z0 : (0 : Int) ≤ (r : Int) := by omega
  by_cases h1 : (r : Int) < 55296
  · clear h
    go_enter Tryz.func106, Tryz.ntmps106
    go_wp2_with fail
    first | exact HF.out | (go_ret; exact HF.out)
  · have z1 : (57343 : Int) < (r : Int) := by omega
    have z2 : (r : Int) ≤ 1114111 := by omega
    clear h
    go_enter Tryz.func106, Tryz.ntmps106
    go_wp2_with fail
    first | exact HF.out | (go_ret; exact HF.out)
/-- The two signs that no key has. -/
def EZ : ByteArray := ⟨#[61, 0]⟩
theorem ez_size : EZ.size = 2 := rfl
theorem ez_0 (h : 0 < EZ.size) : (EZ[0]'h).toNat = 61 := rfl
theorem ez_1 (h : 1 < EZ.size) : (EZ[1]'h).toNat = 0 := rfl
theorem ez_ne : (EZ.toList == ([] : List UInt8)) = false := by decide +kernel
/-- What a rune's own bytes are. -/
theorem enc_of (r : Nat) (h1 : 128 ≤ r) (h2 : r ≤ 1114111) (hv : Utf8.valid (r : Int) = true) : (∃ a b : UInt8, Utf8.encode (r : Int) = ⟨#[a, b]⟩ ∧ 128 ≤ b.toNat) ∨ (Utf8.encode (r : Int)).size = 3 ∨ (Utf8.encode (r : Int)).size = 4 := by
  unfold Utf8.encode
  simp only [hv, if_true, Int.toNat_natCast]
  rw [if_neg (by omega)]
  split
  · refine .inl ⟨_, _, rfl, ?_⟩
    rw [UInt8.toNat_ofNat']
    omega
  · split
    · exact .inr (.inl rfl)
    · exact .inr (.inr rfl)
end Go.Proofs.YtenkchhlaphocaaGreatDoor

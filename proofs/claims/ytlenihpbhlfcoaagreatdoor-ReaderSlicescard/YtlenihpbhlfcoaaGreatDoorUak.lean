import Derived.Test.YtlenihpbhlfcoaaGreatDoorUaj
import Derived.Shelf.Strconv.Itoa3
import Derived.Shelf.Strconv.ErrVarParseInt
import Derived.Shelf.Strings.Search2
import Derived.Shelf.Strings.IndexAny
import Derived.Shelf.Strings.AsciiSet
set_option maxHeartbeats 8000000
set_option maxRecDepth 100000
set_option linter.unusedSimpArgs false
set_option linter.unusedVariables false
namespace Go.Proofs.YtlenihpbhlfcoaaGreatDoor
open Go.RowKit
theorem not_self (c : UInt8) (s : ByteArray) (h0 : ¬ s = ⟨#[c]⟩) : (([c] : List UInt8) == s.toList) = false := by
 rw [beq_eq_false_iff_ne];intro e;apply h0;rw [ByteArray.toList_eq] at e;apply ByteArray.ext;apply Array.ext';exact e.symm
theorem str_toList (l : Bs) : (str l).toList = l.map u8 := by rw [ByteArray.toList_eq]; rfl
theorem str_beqJ (l m : Bs) : ((str l).toList == (str m).toList) = decide (l = m) := by
 rw [str_toList, str_toList];by_cases h : l = m
 ·subst h; simp
 ·rw [decide_eq_false h, beq_eq_false_iff_ne]; exact fun e => h (map_inj e)
theorem str_pre (p r : Bs) : (str (p ++ r)).extract 0 p.length = str p := by
 apply ByteArray.ext
 simp [str, List.map_append]
theorem str_suf (p r : Bs) : (str (p ++ r)).extract p.length (str (p ++ r)).size = str r := by
 apply ByteArray.ext
 rw [str_size];simp [str, List.map_append];exact List.take_of_length_le (by simp)
def CutsB (c : By) (l p r : Bs) (f : Bool) : Prop := (f = true ∧ l = p ++ c :: r ∧ c ∉ p) ∨ (f = false ∧ p = l ∧ r = [] ∧ c ∉ l)
theorem sli_0 (s : ByteArray) (w : World) (hs : s.size ≤ 140737488351232) : Calls Tryz.prog 102 #[.string s, .string ⟨#[0]⟩] w fun e w' => e = .returned (.int .i64 (Lib.indexByte s.data.toList (u8 0#8))) ∧ w = w' := by
 refine asP fun P hP => ?_
 have HF : Hid (P (.returned (.int .i64 (Lib.indexByte s.data.toList (u8 0#8)))) w) := by rw [hP]; exact ⟨rfl, rfl⟩
 have HI : Hid (Calls Tryz.prog 126 #[.string s, .int .u8 0] w fun e w' => e = .returned (.int .i64 (Lib.indexByte s.data.toList (u8 0#8))) ∧ w = w') := sib_any s 0 w;clear hP;by_cases h0 : s = ⟨#[0]⟩
 ·subst h0;have e : Lib.indexByte (⟨#[0]⟩ : ByteArray).data.toList (u8 0#8) = 0 := by decide +kernel
  rw [e] at HF;clear HI;go_enter Tryz.func102, Tryz.ntmps102
  go_wp2
  exact HF.out
 ·have h1 := not_self 0 s h0;generalize Lib.indexByte s.data.toList (u8 0#8) = r at *;go_enter Tryz.func102, Tryz.ntmps102
  go_wp2_with (first | (go_at_call 126; refine HI.out.mono ?_; rintro e w1 ⟨rfl, rfl⟩))
  exact HF.out
theorem sli_61 (s : ByteArray) (w : World) (hs : s.size ≤ 140737488351232) : Calls Tryz.prog 102 #[.string s, .string ⟨#[61]⟩] w fun e w' => e = .returned (.int .i64 (Lib.indexByte s.data.toList (u8 61#8))) ∧ w = w' := by
 refine asP fun P hP => ?_
 have HF : Hid (P (.returned (.int .i64 (Lib.indexByte s.data.toList (u8 61#8)))) w) := by rw [hP]; exact ⟨rfl, rfl⟩
 have HI : Hid (Calls Tryz.prog 126 #[.string s, .int .u8 61] w fun e w' => e = .returned (.int .i64 (Lib.indexByte s.data.toList (u8 61#8))) ∧ w = w') := sib_any s 61 w;clear hP;by_cases h0 : s = ⟨#[61]⟩
 ·subst h0;have e : Lib.indexByte (⟨#[61]⟩ : ByteArray).data.toList (u8 61#8) = 0 := by decide +kernel
  rw [e] at HF;clear HI;go_enter Tryz.func102, Tryz.ntmps102
  go_wp2
  exact HF.out
 ·have h1 := not_self 61 s h0;generalize Lib.indexByte s.data.toList (u8 61#8) = r at *;go_enter Tryz.func102, Tryz.ntmps102
  go_wp2_with (first | (go_at_call 126; refine HI.out.mono ?_; rintro e w1 ⟨rfl, rfl⟩))
  exact HF.out
theorem sli_46 (s : ByteArray) (w : World) (hs : s.size ≤ 140737488351232) : Calls Tryz.prog 102 #[.string s, .string ⟨#[46]⟩] w fun e w' => e = .returned (.int .i64 (Lib.indexByte s.data.toList (u8 46#8))) ∧ w = w' := by
 refine asP fun P hP => ?_
 have HF : Hid (P (.returned (.int .i64 (Lib.indexByte s.data.toList (u8 46#8)))) w) := by rw [hP]; exact ⟨rfl, rfl⟩
 have HI : Hid (Calls Tryz.prog 126 #[.string s, .int .u8 46] w fun e w' => e = .returned (.int .i64 (Lib.indexByte s.data.toList (u8 46#8))) ∧ w = w') := sib_any s 46 w;clear hP;by_cases h0 : s = ⟨#[46]⟩
 ·subst h0;have e : Lib.indexByte (⟨#[46]⟩ : ByteArray).data.toList (u8 46#8) = 0 := by decide +kernel
  rw [e] at HF;clear HI;go_enter Tryz.func102, Tryz.ntmps102
  go_wp2
  exact HF.out
 ·have h1 := not_self 46 s h0;generalize Lib.indexByte s.data.toList (u8 46#8) = r at *;go_enter Tryz.func102, Tryz.ntmps102
  go_wp2_with (first | (go_at_call 126; refine HI.out.mono ?_; rintro e w1 ⟨rfl, rfl⟩))
  exact HF.out
theorem slcut_61 (l : Bs) (w : World) (hs : l.length ≤ 140737488351232) : Calls Tryz.prog 202 #[.string (str l), .string ⟨#[61]⟩] w fun e w' => ∃ p r f, e = .returned (.tuple #[.string (str p), .string (str r), .bool f]) ∧ Hid (CutsB 61#8 l p r f ∧ Nw w w') := by
 refine asP fun P hP => ?_
 have hsz := str_size l;have HJ := tHid (sli_61 (str l) w (by omega));rcases ixs l 61#8 with ⟨hm, e3⟩ | ⟨p, r, e1, e2, e3⟩
 ·have HF : Hid (P (.returned (.tuple #[.string (str l), .string ⟨#[]⟩, .bool false])) w) := by
   show P _ _;rw [hP]; exact ⟨l, [], false, rfl, .inr ⟨rfl, rfl, rfl, hm⟩, Fr.refl _ _⟩
  rw [str_data, e3] at HJ;clear hP hm e3;generalize str l = s at *;go_enter Tryz.func202, Tryz.ntmps202
  go_wp2_with (first | (go_at_call 102; with_reducible refine HJ.out.mono ?_; rintro e w1 ⟨rfl, rfl⟩))
  exact HF.out
 ·have HF : Hid (∀ V, Nw w V → P (.returned (.tuple #[.string (str p), .string (str r), .bool true])) V) := fun V hV => by rw [hP]; exact ⟨p, r, true, rfl, .inl ⟨rfl, e1, e2⟩, hV⟩
  have x1 : (str l).extract 0 p.length = str p := by rw [e1]; exact str_pre p _
  obtain ⟨I1, hI1⟩ : ∃ n, n = p.length + 1 := ⟨_, rfl⟩;have x2 : (str l).extract I1 (str l).size = str r := by
   have := str_suf (p ++ [61#8]) r;rw [List.append_assoc, List.singleton_append, ← e1, List.length_append] at this;rw [hI1];exact this
  have hll : l.length = p.length + 1 + r.length := by rw [e1]; simp; omega
  have hw : IntKind.i64.wrap ((p.length : Int) + 1) = (I1 : Int) := by rw [IntKind.wrap_i64]; omega
  have z1 : (p.length : Int) ≤ ((str l).size : Int) := by omega
  have z2 : (I1 : Int) ≤ ((str l).size : Int) := by omega
  have z3 : p.length ≤ (str l).size := by omega
  have z4 : I1 ≤ (str l).size := by omega
  have z5 : (p.length : Int) + 1 = (I1 : Int) := by omega
  rw [str_data, e3] at HJ;have z6 : p.length ≤ 140737488351232 := by omega
  have z7 : (str l).size ≤ 140737488351232 := by omega
  clear e1 e2 e3 hP hsz hll hs hI1;generalize str l = s at *;generalize str p = sp at *;generalize str r = sr at *;generalize p.length = I at *;go_enter Tryz.func202, Tryz.ntmps202
  go_wp2_with (first | (go_at_call 102; with_reducible refine HJ.out.mono ?_; rintro e w1 ⟨rfl, rfl⟩))
  go_quiet (fail)
  go_wp2_with fail
  exact HF.out _ ((Fr.refl _ _).drewN _)
theorem scut_61 (l : Bs) (w : World) (hs : l.length ≤ 140737488351232) : Calls Tryz.prog 157 #[.string (str l), .string ⟨#[61]⟩] w fun e w' => ∃ p r f, e = .returned (.tuple #[.string (str p), .string (str r), .bool f]) ∧ Hid (CutsB 61#8 l p r f ∧ Nw w w') := by
 refine asP fun P hP => ?_
 have HJ := tHid (slcut_61 l w hs);have HF : Hid (∀ p r f V, CutsB 61#8 l p r f ∧ Nw w V → P (.returned (.tuple #[.string (str p), .string (str r), .bool f])) V) := fun p r f V h => by rw [hP]; exact ⟨p, r, f, rfl, h⟩
 clear hP;go_enter Tryz.func157, Tryz.ntmps157
 go_wp2_with (first | (go_at_call 202; with_reducible refine HJ.out.mono ?_; rintro e w1 ⟨p, r, f, rfl, h1⟩))
 exact HF.out _ _ _ _ h1.out
theorem slcut_46 (l : Bs) (w : World) (hs : l.length ≤ 140737488351232) : Calls Tryz.prog 202 #[.string (str l), .string ⟨#[46]⟩] w fun e w' => ∃ p r f, e = .returned (.tuple #[.string (str p), .string (str r), .bool f]) ∧ Hid (CutsB 46#8 l p r f ∧ Nw w w') := by
 refine asP fun P hP => ?_
 have hsz := str_size l;have HJ := tHid (sli_46 (str l) w (by omega));rcases ixs l 46#8 with ⟨hm, e3⟩ | ⟨p, r, e1, e2, e3⟩
 ·have HF : Hid (P (.returned (.tuple #[.string (str l), .string ⟨#[]⟩, .bool false])) w) := by
   show P _ _;rw [hP]; exact ⟨l, [], false, rfl, .inr ⟨rfl, rfl, rfl, hm⟩, Fr.refl _ _⟩
  rw [str_data, e3] at HJ;clear hP hm e3;generalize str l = s at *;go_enter Tryz.func202, Tryz.ntmps202
  go_wp2_with (first | (go_at_call 102; with_reducible refine HJ.out.mono ?_; rintro e w1 ⟨rfl, rfl⟩))
  exact HF.out
 ·have HF : Hid (∀ V, Nw w V → P (.returned (.tuple #[.string (str p), .string (str r), .bool true])) V) := fun V hV => by rw [hP]; exact ⟨p, r, true, rfl, .inl ⟨rfl, e1, e2⟩, hV⟩
  have x1 : (str l).extract 0 p.length = str p := by rw [e1]; exact str_pre p _
  obtain ⟨I1, hI1⟩ : ∃ n, n = p.length + 1 := ⟨_, rfl⟩;have x2 : (str l).extract I1 (str l).size = str r := by
   have := str_suf (p ++ [46#8]) r;rw [List.append_assoc, List.singleton_append, ← e1, List.length_append] at this;rw [hI1];exact this
  have hll : l.length = p.length + 1 + r.length := by rw [e1]; simp; omega
  have hw : IntKind.i64.wrap ((p.length : Int) + 1) = (I1 : Int) := by rw [IntKind.wrap_i64]; omega
  have z1 : (p.length : Int) ≤ ((str l).size : Int) := by omega
  have z2 : (I1 : Int) ≤ ((str l).size : Int) := by omega
  have z3 : p.length ≤ (str l).size := by omega
  have z4 : I1 ≤ (str l).size := by omega
  have z5 : (p.length : Int) + 1 = (I1 : Int) := by omega
  rw [str_data, e3] at HJ;have z6 : p.length ≤ 140737488351232 := by omega
  have z7 : (str l).size ≤ 140737488351232 := by omega
  clear e1 e2 e3 hP hsz hll hs hI1;generalize str l = s at *;generalize str p = sp at *;generalize str r = sr at *;generalize p.length = I at *;go_enter Tryz.func202, Tryz.ntmps202
  go_wp2_with (first | (go_at_call 102; with_reducible refine HJ.out.mono ?_; rintro e w1 ⟨rfl, rfl⟩))
  go_quiet (fail)
  go_wp2_with fail
  exact HF.out _ ((Fr.refl _ _).drewN _)
theorem scut_46 (l : Bs) (w : World) (hs : l.length ≤ 140737488351232) : Calls Tryz.prog 157 #[.string (str l), .string ⟨#[46]⟩] w fun e w' => ∃ p r f, e = .returned (.tuple #[.string (str p), .string (str r), .bool f]) ∧ Hid (CutsB 46#8 l p r f ∧ Nw w w') := by
 refine asP fun P hP => ?_
 have HJ := tHid (slcut_46 l w hs);have HF : Hid (∀ p r f V, CutsB 46#8 l p r f ∧ Nw w V → P (.returned (.tuple #[.string (str p), .string (str r), .bool f])) V) := fun p r f V h => by rw [hP]; exact ⟨p, r, f, rfl, h⟩
 clear hP;go_enter Tryz.func157, Tryz.ntmps157
 go_wp2_with (first | (go_at_call 202; with_reducible refine HJ.out.mono ?_; rintro e w1 ⟨p, r, f, rfl, h1⟩))
 exact HF.out _ _ _ _ h1.out
theorem si_0 (s : ByteArray) (w : World) (hs : s.size ≤ 140737488351232) : Calls Tryz.prog 70 #[.string s, .string ⟨#[0]⟩] w fun e w' => e = .returned (.int .i64 (Lib.indexByte s.data.toList (u8 0#8))) ∧ w = w' := by
 refine asP fun P hP => ?_
 have HF : Hid (P (.returned (.int .i64 (Lib.indexByte s.data.toList (u8 0#8)))) w) := by rw [hP]; exact ⟨rfl, rfl⟩
 have HJ := tHid (sli_0 s w hs);clear hP;generalize Lib.indexByte s.data.toList (u8 0#8) = r at *;go_enter Tryz.func70, Tryz.ntmps70
 go_wp2_with (first | (go_at_call 102; with_reducible refine HJ.out.mono ?_; rintro e w1 ⟨rfl, rfl⟩))
 exact HF.out
theorem ix0_dec (l : Bs) : decide (0 ≤ Lib.indexByte (str l).data.toList (u8 0#8)) = decide (0#8 ∈ l) := by
 rw [str_data];rcases ixs l 0#8 with ⟨hm, e3⟩ | ⟨p, r, e1, e2, e3⟩
 ·rw [e3, decide_eq_false hm]; decide
 ·rw [e3, decide_eq_true (by rw [e1]; simp : 0#8 ∈ l)]; simp
theorem cont0_any (l : Bs) (w : World) (hs : l.length ≤ 140737488351232) : Calls Tryz.prog 43 #[.string (str l), .string ⟨#[0]⟩] w fun e w' => e = .returned (.bool (decide (0#8 ∈ l))) ∧ w = w' := by
 refine asP fun P hP => ?_
 have hd := ix0_dec l;have HF : Hid (P (.returned (.bool (decide (0#8 ∈ l)))) w) := by rw [hP]; exact ⟨rfl, rfl⟩
 have HJ := tHid (si_0 (str l) w (by rw [str_size]; exact hs));clear hP;generalize str l = s at *;generalize Lib.indexByte s.data.toList (u8 0#8) = r at *;generalize decide (0#8 ∈ l) = B at *;go_enter Tryz.func43, Tryz.ntmps43
 go_wp2_with (first | (go_at_call 70; with_reducible refine HJ.out.mono ?_; rintro e w1 ⟨rfl, rfl⟩))
 exact HF.out
theorem beq_any {X Y : Nat → Prop} (w : World) (v u : Value) (l m : Bs) (hl : Sl X v l w) (hm : Sl Y u m w) : Calls Tryz.prog 160 #[v, u] w fun e w' => e = .returned (.bool (decide (l = m))) ∧ w = w' := by
 refine asP fun P hP => ?_
 have HF : Hid (P (.returned (.bool (decide (l = m)))) w) := by rw [hP]; exact ⟨rfl, rfl⟩
 have c1 := conv_any hl;have c2 := conv_any hm;have hb := str_beqJ l m;clear hP hl hm;generalize str l = s at *;generalize str m = t at *;generalize decide (l = m) = B at *;go_enter Tryz.func160, Tryz.ntmps160
 go_wp2_with fail
 first | exact HF.out | (go_ret; exact HF.out)
instance (c : By) : Decidable (isDK c) := inferInstanceAs (Decidable (_ ∧ _))
def allD (l : Bs) : Bool := decide (∀ c ∈ l, isDK c)
theorem allD_iff (l : Bs) : allD l = true ↔ ∀ c ∈ l, isDK c := by unfold allD; exact decide_eq_true_iff
theorem allD_cons (c : By) (l : Bs) : allD (c :: l) = (decide (isDK c) && allD l) := by
 unfold allD;by_cases h1 : isDK c <;> by_cases h2 : ∀ x ∈ l, isDK x <;> simp [h1, h2]
def numV (s : Bs) : Nat × Nat := if s = [] ∨ allD s = false then (0, 120) else if 9223372036854775808 ≤ val 0 s then (0, 121) else (val 0 s, 0)
theorem numV_lt (s : Bs) : (numV s).1 < 9223372036854775808 := by
 unfold numV;split
 ·exact (by decide : (0 : Nat) < 9223372036854775808)
 ·split
  ·exact (by decide : (0 : Nat) < 9223372036854775808)
  ·show val 0 s < _;omega
theorem val_ge (l : Bs) (n : Nat) : n ≤ val n l := by
 induction l generalizing n with
 | nil => exact Nat.le_refl _
 | cons c r ih =>
  have := ih (n * 10 + (c.toNat - 48));simp only [val, List.foldl_cons] at this ⊢;omega
theorem puM (l : Bs) (hd : ∀ c ∈ l, isDK c) (n : Nat) : Lib.parseUintM (2 ^ 64 - 1) n (l.map u8) = if val n l < 18446744073709551616 then .ok (val n l) else if l = [] then .ok n else .range := by
 induction l generalizing n with
 | nil => simp [Lib.parseUintM, val]
 | cons c r ih =>
  have hc := hd c (by simp);unfold isDK at hc;rw [List.map_cons, Lib.parseUintM, u8_nat, if_pos ⟨hc.1, hc.2⟩];have hge := val_ge r (n * 10 + (c.toNat - 48));have hv : val n (c :: r) = val (n * 10 + (c.toNat - 48)) r := rfl;rw [hv, if_neg (by simp : ¬ (c :: r) = [])];by_cases h1 : 1844674407370955162 ≤ n
  ·rw [if_pos h1, if_neg (by omega)]
  ·rw [if_neg h1];by_cases h2 : 2 ^ 64 - 1 < n * 10 + (c.toNat - 48)
   ·rw [if_pos h2, if_neg (by omega)]
   ·rw [if_neg h2, ih (fun x hx => hd x (by simp [hx]))];by_cases h3 : val (n * 10 + (c.toNat - 48)) r < 18446744073709551616
    ·rw [if_pos h3, if_pos h3]
    ·rw [if_neg h3, if_neg h3];by_cases hr : r = []
     ·subst hr;exfalso;apply h3;show n * 10 + (c.toNat - 48) < _;omega
     ·rw [if_neg hr]
theorem piB (l : Bs) (hd : ∀ c ∈ l, isDK c) (hl : l ≠ []) : Lib.parseIntB 64 (l.map u8) = if 9223372036854775808 ≤ val 0 l then .range else .ok (val 0 l : Nat) := by
 cases l with
 | nil => exact absurd rfl hl
 | cons c r =>
  have hc := hd c (by simp);unfold isDK at hc;have hm := puM (c :: r) hd 0;rw [List.map_cons] at hm ⊢;unfold Lib.parseIntB;simp only [u8_nat];rw [if_neg (by omega)];have hu : Lib.parseUintB 64 (u8 c :: r.map u8) = Lib.parseUintM (2 ^ 64 - 1) 0 (u8 c :: r.map u8) := by
   unfold Lib.parseUintB; rw [if_neg (by simp)]
  rw [hu, hm];by_cases h3 : val 0 (c :: r) < 18446744073709551616
  ·rw [if_pos h3];simp only;by_cases h4 : 9223372036854775808 ≤ val 0 (c :: r)
   ·rw [if_pos h4, if_pos ⟨by omega, by omega⟩]
   ·rw [if_neg h4, if_neg (fun h => by have := h.2; omega), if_neg (fun h => by have := h.1; omega), if_neg (by omega)]
  ·rw [if_neg h3, if_neg (by simp), if_pos (by omega)]
def cutD : Bs → Pr
 | [] => ([], [])
 | c :: r => if c = 46#8 then ([], r) else (c :: (cutD r).1, (cutD r).2)
def nanoV (re : Bs) : Nat := val 0 ((re ++ List.replicate 9 48#8).take 9)
def minusV (s : Bs) : Bool := decide (s.head? = some 45#8)
def restV (s : Bs) : Bs := if minusV s = true then s.tail else s
def timV (s : Bs) : Int × Nat × Nat :=
 if allD (cutD (restV s)).2 = false then (0, 0, 120)
 else if (numV (cutD (restV s)).1).2 ≠ 0 then (0, 0, (numV (cutD (restV s)).1).2)
 else if minusV s = false then ((numV (cutD (restV s)).1).1, nanoV (cutD (restV s)).2, 0)
 else if nanoV (cutD (restV s)).2 = 0 then (-((numV (cutD (restV s)).1).1 : Int), 0, 0)
 else (-((numV (cutD (restV s)).1).1 : Int) - 1, 1000000000 - nanoV (cutD (restV s)).2, 0)
theorem nanoV_lt (re : Bs) (h : ∀ c ∈ re, isDK c) : nanoV re < 1000000000 := by
 unfold nanoV;have := val_lt ((re ++ List.replicate 9 48#8).take 9) (fun c hc => by
  have hc := List.mem_of_mem_take hc;rw [List.mem_append] at hc;rcases hc with hc | hc
  ·exact h c hc
  ·rw [List.mem_replicate] at hc;rw [hc.2]; decide) 0 0 (by decide)
 rw [Nat.zero_add, List.length_take, List.length_append, List.length_replicate, Nat.min_eq_left (by omega)] at this;exact this
def eqAt : Bs → Int
 | [] => -1
 | c :: r => if c = 61#8 then 0 else if eqAt r < 0 then -1 else eqAt r + 1
theorem eqAt_cut (l : Bs) : (cutE l = none ∧ eqAt l = -1 ∧ 61#8 ∉ l) ∨ ∃ x, cutE l = some x ∧ eqAt l = (x.1.length : Int) ∧ l = x.1 ++ 61#8 :: x.2 ∧ 61#8 ∉ x.1 := by
 induction l with
 | nil => exact .inl ⟨rfl, rfl, by simp⟩
 | cons c r ih =>
  by_cases hc : c = 61#8
  ·subst hc;exact .inr ⟨([], r), by simp [cutE], by simp [eqAt], rfl, by simp⟩
  ·rcases ih with ⟨h1, h2, h3⟩ | ⟨x, h1, h2, h3, h4⟩
   ·refine .inl ⟨by rw [cutE, if_neg hc, h1], by rw [eqAt, if_neg hc, h2]; rfl, ?_⟩;rw [List.mem_cons, not_or];exact ⟨fun e => hc e.symm, h3⟩
   ·refine .inr ⟨(c :: x.1, x.2), by rw [cutE, if_neg hc, h1], ?_, by rw [h3]; rfl, ?_⟩
    ·rw [eqAt, if_neg hc, h2, if_neg (by omega)];simp
    ·rw [List.mem_cons, not_or];exact ⟨fun e => hc e.symm, h4⟩
end Go.Proofs.YtlenihpbhlfcoaaGreatDoor
namespace Go.Proofs.YtlenihpbhlfcoaaGreatDoor
open Go.Shelf
def laysC174_ren : Go.Shelf.Ren := ⟨fun | 174 => 113 | 247 => 142 | 245 => 143 | 287 => 179 | 279 => 180 | 280 => 181 | 281 => 182 | 282 => 183 | 321 => 213 | 322 => 214 | 316 => 215 | 171 => 217 | 205 => 216 | 243 => 232 | 246 => 238 | 283 => 239 | 284 => 240 | 285 => 241 | 286 => 242 | 129 => 200 | 317 => 243 | 318 => 244 | 319 => 245 | 320 => 246 | 337 => 247 | 338 => 248 | n => n, fun | 9 => 9 | 3 => 3 | 2 => 2 | 75 => 177 | 85 => 186 | 4 => 4 | 167 => 254 | 5 => 5 | 53 => 207 | 175 => 255 | 46 => 133 | 168 => 257 | 37 => 22 | 0 => 0 | 210 => 286 | 21 => 21 | 127 => 210 | 145 => 298 | 143 => 296 | 171 => 262 | 173 => 309 | 212 => 312 | 51 => 28 | 20 => 20 | 213 => 313 | 232 => 314 | 233 => 315 | 80 => 180 | n => n, fun | 15 => 1 | 16 => 2 | 17 => 5 | 18 => 6 | 19 => 7 | n => n⟩
theorem laysC174 : Go.Proofs.LaysC.n174 Tryz.prog laysC174_ren := {
 mixed := by kernel_rfl
 f129 := Tryz.func200.trans (congrArg some (by kernel_rfl))
 f171 := Tryz.func217.trans (congrArg some (by kernel_rfl))
 f174 := Tryz.func113.trans (congrArg some (by kernel_rfl))
 f205 := Tryz.func216.trans (congrArg some (by kernel_rfl))
 f243 := Tryz.func232.trans (congrArg some (by kernel_rfl))
 f245 := Tryz.func143.trans (congrArg some (by kernel_rfl))
 f246 := Tryz.func238.trans (congrArg some (by kernel_rfl))
 f247 := Tryz.func142.trans (congrArg some (by kernel_rfl))
 f279 := Tryz.func180.trans (congrArg some (by kernel_rfl))
 f280 := Tryz.func181.trans (congrArg some (by kernel_rfl))
 f281 := Tryz.func182.trans (congrArg some (by kernel_rfl))
 f282 := Tryz.func183.trans (congrArg some (by kernel_rfl))
 f283 := Tryz.func239.trans (congrArg some (by kernel_rfl))
 f284 := Tryz.func240.trans (congrArg some (by kernel_rfl))
 f285 := Tryz.func241.trans (congrArg some (by kernel_rfl))
 f286 := Tryz.func242.trans (congrArg some (by kernel_rfl))
 f287 := Tryz.func179.trans (congrArg some (by kernel_rfl))
 f316 := Tryz.func215.trans (congrArg some (by kernel_rfl))
 f317 := Tryz.func243.trans (congrArg some (by kernel_rfl))
 f318 := Tryz.func244.trans (congrArg some (by kernel_rfl))
 f319 := Tryz.func245.trans (congrArg some (by kernel_rfl))
 f320 := Tryz.func246.trans (congrArg some (by kernel_rfl))
 f321 := Tryz.func213.trans (congrArg some (by kernel_rfl))
 f322 := Tryz.func214.trans (congrArg some (by kernel_rfl))
 f337 := Tryz.func247.trans (congrArg some (by kernel_rfl))
 f338 := Tryz.func248.trans (congrArg some (by kernel_rfl))
 t0 := Tryz.underlying0
 a0 := Tryz.isAgg0
 z0 := Tryz.sizeOf0
 v0 := Tryz.zeroValue0
 t2 := Tryz.underlying2
 a2 := Tryz.isAgg2
 z2 := Tryz.sizeOf2
 v2 := Tryz.zeroValue2
 t3 := Tryz.underlying3
 a3 := Tryz.isAgg3
 z3 := Tryz.sizeOf3
 v3 := Tryz.zeroValue3
 t4 := Tryz.underlying4
 a4 := Tryz.isAgg4
 z4 := Tryz.sizeOf4
 v4 := Tryz.zeroValue4
 t5 := Tryz.underlying5
 a5 := Tryz.isAgg5
 z5 := Tryz.sizeOf5
 v5 := Tryz.zeroValue5
 t9 := Tryz.underlying9
 a9 := Tryz.isAgg9
 z9 := Tryz.sizeOf9
 v9 := Tryz.zeroValue9
 t20 := Tryz.underlying20
 a20 := Tryz.isAgg20
 z20 := Tryz.sizeOf20
 v20 := Tryz.zeroValue20
 t21 := Tryz.underlying21
 a21 := Tryz.isAgg21
 z21 := Tryz.sizeOf21
 v21 := Tryz.zeroValue21
 t37 := Tryz.underlying22
 a37 := Tryz.isAgg22
 z37 := Tryz.sizeOf22
 v37 := Tryz.zeroValue22
 t46 := Tryz.underlying133
 a46 := Tryz.isAgg133
 z46 := Tryz.sizeOf133
 v46 := Tryz.zeroValue133
 t51 := Tryz.underlying28
 a51 := Tryz.isAgg28
 z51 := Tryz.sizeOf28
 v51 := Tryz.zeroValue28
 t53 := Tryz.underlying207
 a53 := Tryz.isAgg207
 z53 := Tryz.sizeOf207
 v53 := Tryz.zeroValue207
 t75 := Tryz.underlying177
 a75 := Tryz.isAgg177
 z75 := Tryz.sizeOf177
 v75 := Tryz.zeroValue177
 t85 := Tryz.underlying186
 a85 := Tryz.isAgg186
 z85 := Tryz.sizeOf186
 v85 := Tryz.zeroValue186
 t127 := Tryz.underlying210
 a127 := Tryz.isAgg210
 z127 := Tryz.sizeOf210
 v127 := Tryz.zeroValue210
 t143 := Tryz.underlying296
 a143 := Tryz.isAgg296
 z143 := Tryz.sizeOf296
 v143 := Tryz.zeroValue296
 t145 := Tryz.underlying298
 a145 := Tryz.isAgg298
 z145 := Tryz.sizeOf298
 v145 := Tryz.zeroValue298
 t167 := Tryz.underlying254
 a167 := Tryz.isAgg254
 z167 := Tryz.sizeOf254
 v167 := Tryz.zeroValue254
 t168 := Tryz.underlying257
 a168 := Tryz.isAgg257
 z168 := Tryz.sizeOf257
 v168 := Tryz.zeroValue257
 t171 := Tryz.underlying262
 a171 := Tryz.isAgg262
 z171 := Tryz.sizeOf262
 v171 := Tryz.zeroValue262
 t173 := Tryz.underlying309
 a173 := Tryz.isAgg309
 z173 := Tryz.sizeOf309
 v173 := Tryz.zeroValue309
 t175 := Tryz.underlying255
 a175 := Tryz.isAgg255
 z175 := Tryz.sizeOf255
 v175 := Tryz.zeroValue255
 t210 := Tryz.underlying286
 a210 := Tryz.isAgg286
 z210 := Tryz.sizeOf286
 v210 := Tryz.zeroValue286
 t212 := Tryz.underlying312
 a212 := Tryz.isAgg312
 z212 := Tryz.sizeOf312
 v212 := Tryz.zeroValue312
 t213 := Tryz.underlying313
 a213 := Tryz.isAgg313
 z213 := Tryz.sizeOf313
 t232 := Tryz.underlying314
 a232 := Tryz.isAgg314
 z232 := Tryz.sizeOf314
 v232 := Tryz.zeroValue314
 t233 := Tryz.underlying315
 a233 := Tryz.isAgg315
 z233 := Tryz.sizeOf315
 v233 := Tryz.zeroValue315
 g15 := by kernel_rfl
 g16 := by kernel_rfl
 g17 := by kernel_rfl
 g18 := by kernel_rfl
 g19 := by kernel_rfl
 t80 := Tryz.underlying180
 a80 := Tryz.isAgg180
 z80 := Tryz.sizeOf180
 v80 := Tryz.zeroValue180
 i0 := by kernel_rfl
 i2 := by kernel_rfl
 i3 := by kernel_rfl
 i4 := by kernel_rfl
 i5 := by kernel_rfl
 i9 := by kernel_rfl
 i20 := by kernel_rfl
 i21 := by kernel_rfl
 i37 := by kernel_rfl
 i46 := by kernel_rfl
 i51 := by kernel_rfl
 i53 := by kernel_rfl
 i75 := by kernel_rfl
 i80 := by kernel_rfl
 i85 := by kernel_rfl
 i127 := by kernel_rfl
 i143 := by kernel_rfl
 i145 := by kernel_rfl
 i167 := by kernel_rfl
 i168 := by kernel_rfl
 i171 := by kernel_rfl
 i173 := by kernel_rfl
 i175 := by kernel_rfl
 i210 := by kernel_rfl
 i212 := by kernel_rfl
 i232 := by kernel_rfl
 i233 := by kernel_rfl
 m15 := by kernel_rfl
 m16 := by kernel_rfl
 m17 := by kernel_rfl
 m18 := by kernel_rfl
 m19 := by kernel_rfl
 c0 := by kernel_rfl
 c2 := by kernel_rfl
 c3 := by kernel_rfl
 c4 := by kernel_rfl
 c5 := by kernel_rfl
 c9 := by kernel_rfl
 c20 := by kernel_rfl
 c21 := by kernel_rfl
 c37 := by kernel_rfl
 c46 := by kernel_rfl
 c51 := by kernel_rfl
 c53 := by kernel_rfl
 c75 := by kernel_rfl
 c80 := by kernel_rfl
 c85 := by kernel_rfl
 c127 := by kernel_rfl
 c143 := by kernel_rfl
 c145 := by kernel_rfl
 c167 := by kernel_rfl
 c168 := by kernel_rfl
 c171 := by kernel_rfl
 c173 := by kernel_rfl
 c175 := by kernel_rfl
 c210 := by kernel_rfl
 c212 := by kernel_rfl
 c213 := by kernel_rfl
 c232 := by kernel_rfl
 c233 := by kernel_rfl }
open Go.RowKit in
theorem sh_strconv_ParseInt_10_at64_ok (s : ByteArray) (hmax : s.size ≤ 9223372036854775806) (v : Int) (h : Lib.parseIntB 64 s.data.toList = .ok v) (w : World) :
  Calls Tryz.prog 113 #[.string s, .int .i64 10, .int .i64 64] w fun e w' => e = .returned (.tuple #[.int .i64 v, .nilIface]) ∧ (w' = w ∨ ∃ t, w' = Lib.bytesWorld w 5 t) := Any.strconv_ParseInt_10_at64_ok laysC174 s hmax v h w
open Go.RowKit in
theorem sh_strconv_ParseInt_10_at64_range (s : ByteArray) (hlim : s.size ≤ 281474976710656) (h : Lib.parseIntB 64 s.data.toList = .range) (ev : Value) (w : World) (hv : w.cell? ⟨2, 0, none⟩ = some ev) (hev : ev = .nilIface ∨ ∃ te pe, ev = .iface te pe) :
  Calls Tryz.prog 113 #[.string s, .int .i64 10, .int .i64 64] w fun e w' => ∃ N, e = .returned (.tuple #[.int .i64 (Lib.intSat 64 s.data.toList), .iface 257 (.pointer (some ⟨N, 0, none⟩))]) ∧ w.heap.size ≤ N ∧ w'.heap[N]? = some (.cells #[.string ⟨#[80, 97, 114, 115, 101, 73, 110, 116]⟩, .string s, ev] 286 (0, 0)) ∧ Below w.heap.size w w' := Any.strconv_ParseInt_10_at64_range laysC174 s hlim h ev w hv hev
def lays227_ren : Go.Shelf.Ren := ⟨fun | 227 => 176 | n => n, fun | 9 => 9 | 116 => 249 | 4 => 4 | 0 => 0 | 3 => 3 | 5 => 5 | n => n, fun | n => n⟩
theorem lays227 : Go.Proofs.Lays.n227 Tryz.prog lays227_ren := {
 mixed := by kernel_rfl
 f227 := Tryz.func176.trans (congrArg some (by kernel_rfl))
 t0 := Tryz.underlying0
 a0 := Tryz.isAgg0
 z0 := Tryz.sizeOf0
 v0 := Tryz.zeroValue0
 t3 := Tryz.underlying3
 a3 := Tryz.isAgg3
 z3 := Tryz.sizeOf3
 v3 := Tryz.zeroValue3
 t4 := Tryz.underlying4
 a4 := Tryz.isAgg4
 z4 := Tryz.sizeOf4
 v4 := Tryz.zeroValue4
 t5 := Tryz.underlying5
 a5 := Tryz.isAgg5
 z5 := Tryz.sizeOf5
 v5 := Tryz.zeroValue5
 t9 := Tryz.underlying9
 a9 := Tryz.isAgg9
 z9 := Tryz.sizeOf9
 v9 := Tryz.zeroValue9
 t116 := Tryz.underlying249
 a116 := Tryz.isAgg249
 z116 := Tryz.sizeOf249 }
open Go.RowKit Go.Lib in
theorem sh_strings_makeASCIISet (hv116 : ∀ w, (zeroValue 249).run Tryz.prog w = .ok (.agg (Array.replicate 256 (.bool false))) w) (chars : ByteArray) (w : World) (hs : chars.size < 4294967281) (hascii : ∀ (j : Nat) b, chars.data.toList[j]? = some b → b.toNat < 128) :
  Calls Tryz.prog 176 #[.string chars] w fun e w' => e = .returned (.tuple #[.agg (Lib.setCells chars.data.toList), .bool true]) ∧ w' = w.alloc (.cells (Lib.setCells chars.data.toList) 249) := Any.strings_makeASCIISet lays227 hv116 (by kernel_rfl) chars w hs hascii
end Go.Proofs.YtlenihpbhlfcoaaGreatDoor

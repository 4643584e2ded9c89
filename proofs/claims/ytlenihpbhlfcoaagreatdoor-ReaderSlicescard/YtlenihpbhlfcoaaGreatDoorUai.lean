import Derived.Handy
import Derived.Test.YtlenihpbhlfcoaaGreatDoorUag
import Derived.Test.YtlenihpbhlfcoaaGreatDoorUah
set_option maxHeartbeats 8000000
set_option maxRecDepth 100000
set_option linter.unusedSimpArgs false
set_option linter.unusedVariables false
namespace Go.Proofs.YtlenihpbhlfcoaaGreatDoor
open Go.RowKit
theorem sl_lenJ {X : Nat → Prop} {a : Option Addr} {n c : Nat} {l : List By} {w : World} (h : Sl X (.slice a n c) l w) : l.length = n ∧ n ≤ c ∧ c < 9223372036854775808 := by
 obtain ⟨a', c', e, q1, q2⟩ := h.form;generalize hq : l.length = q at e q1;cases e;exact ⟨rfl, q1, q2⟩
theorem sl_cell {X : Nat → Prop} {a : Option Addr} {n c : Nat} {l : List By} {w : World} (h : Sl X (.slice a n c) l w) (I : Nat) (hI : I < l.length) : ∃ g o, a = some ⟨g, o, none⟩ ∧ w.cell? ⟨g, o + I, none⟩ = some (.int .u8 (l[I]'hI).toNat) := by
 rcases h with ⟨_, e, e2⟩ | ⟨g, _, o, _, e, e1, e2, hr⟩
 ·rw [e2] at hI; simp at hI
 ·injection e with e _ ec;exact ⟨g, o, e, hr I hI⟩
def laV (b : Bs) : Value := .tuple #[.int .i64 ((la 0 0 b).1 : Nat), .int .i64 ((la 0 0 b).2.1 : Nat), .int .i64 ((la 0 0 b).2.2 : Nat)]
theorem laV_of (b : Bs) (x : Nat × Nat × Nat) (h : la 0 0 b = x) : laV b = .tuple #[.int .i64 (x.1 : Nat), .int .i64 (x.2.1 : Nat), .int .i64 (x.2.2 : Nat)] := by unfold laV; rw [h]
theorem ahead_any {X : Nat → Prop} (w : World) (a : Option Addr) (n c : Nat) (b : List By) (hb : Sl X (.slice a n c) b w) :
  Calls Tryz.prog 155 #[.slice a n c] w fun e w' => e = .returned (laV b) ∧ w = w' := by
 refine asP fun P hP => ?_
 have HF : Hid (∀ x, la 0 0 b = x → P (.returned (.tuple #[.int .i64 (x.1 : Nat), .int .i64 (x.2.1 : Nat), .int .i64 (x.2.2 : Nat)])) w) := fun x hx => by rw [hP]; exact ⟨by rw [laV_of b x hx], rfl⟩
 clear hP;obtain ⟨hbn, k1, k2⟩ := sl_lenJ hb;have HB := tHid (And.intro hbn hb);clear hb hbn;go_enter Tryz.func155, Tryz.ntmps155
 go_wp2_with fail
 go_loopg [5, 10] n (fun kx v i wr => ∃ (I N : Nat), I ≤ n ∧ n - I ≤ kx ∧ I ≤ 7 ∧ i = .int .i64 I ∧ v = .int .i64 N ∧ N ≤ 10000000 ∧ wr = w ∧ Hid (la 0 0 b = la I N (b.drop I) ∧ N < 10 ^ I))
 case atStart => exact ⟨0, 0, by omega, by omega, by omega, rfl, rfl, by omega, rfl, rfl, by decide⟩
 case round =>
  obtain ⟨I, N, hI, hkx, hI7, rfl, rfl, hN, hw, HV⟩ := hrel;have hw' := hw.symm;subst hw';clear hw;obtain ⟨hbn, hS⟩ := HB.out;obtain ⟨hv, hNI⟩ := HV.out;by_cases hlt : I < n
  ·have hlt' : I < b.length := by omega
   obtain ⟨g, o, rfl, hcell⟩ := sl_cell hS I hlt';rw [List.drop_eq_getElem_cons hlt'] at hv;generalize b[I] = x at *;rw [la] at hv;have hx256 := x.isLt;obtain ⟨y, hy⟩ : ∃ y, x.toNat = y := ⟨_, rfl⟩;have hx32 : x = 32#8 ↔ y = 32 := ⟨fun h => by rw [← hy, h]; rfl, fun h => BitVec.eq_of_toNat_eq (by rw [hy, h]; rfl)⟩;have hx48 : x = 48#8 ↔ y = 48 := ⟨fun h => by rw [← hy, h]; rfl, fun h => BitVec.eq_of_toNat_eq (by rw [hy, h]; rfl)⟩;simp only [hx32, hx48, hy] at hv;rw [hy] at hcell hx256;clear hx32 hx48 HB hbn hS HV hy hlt';by_cases c1 : y = 32 ∧ 0 < I
   ·rw [if_pos c1] at hv;have HF2 := tHid (HF.out _ hv);obtain ⟨rfl, h0⟩ := c1;have h0' : (0 : Int) < (I : Int) := by omega
    clear HF hv hNI
    go_wp2_with fail
    exact HF2.out
   ·rw [if_neg c1] at hv;by_cases c2 : y < 48 ∨ 57 < y ∨ (I = 0 ∧ y = 48) ∨ I = 7
    ·rw [if_pos c2] at hv;have HF2 := tHid (HF.out _ hv);clear HF hv hNI;by_cases h32 : y = 32
     ·obtain rfl : I = 0 := by omega
      subst h32;rw [Nat.add_zero] at hcell;clear c1 c2
      go_wp2_with fail
      exact HF2.out
     ·have n32 : ¬ ((y : Int) = 32) := by omega
      by_cases d1 : y < 48
      ·have d1' : (y : Int) < 48 := by omega
       clear c1 c2
       go_wp2_with fail
       exact HF2.out
      ·have d1' : ¬ ((y : Int) < 48) := by omega
       by_cases d2 : 57 < y
       ·have d2' : (57 : Int) < (y : Int) := by omega
        clear c1 c2
        go_wp2_with fail
        exact HF2.out
       ·have d2' : ¬ ((57 : Int) < (y : Int)) := by omega
        by_cases d3 : I = 0
        ·subst d3;rw [Nat.add_zero] at hcell;obtain rfl : y = 48 := by omega
         clear c1 c2 n32 d1 d1' d2 d2'
         go_wp2_with fail
         exact HF2.out
        ·obtain rfl : I = 7 := by omega
         clear c1 c2
         go_wp2_with fail
         exact HF2.out
    ·rw [if_neg c2] at hv;have n32 : ¬ ((y : Int) = 32) := by omega
     have d1' : ¬ ((y : Int) < 48) := by omega
     have d2' : ¬ ((57 : Int) < (y : Int)) := by omega
     have d4 : ¬ ((I : Int) = 7) := by omega
     obtain ⟨z, hz⟩ : ∃ z, y = 48 + z := ⟨y - 48, by omega⟩;rw [show y - 48 = z by omega] at hv;have hyz : (y : Int) - 48 = (z : Int) := by omega
     have hz9 : z ≤ 9 := by omega
     have hp : 10 ^ (I + 1) = 10 * 10 ^ I := by rw [Nat.pow_succ, Nat.mul_comm]
     have hp7 : 10 ^ (I + 1) ≤ 10 ^ 7 := Nat.pow_le_pow_right (by decide) (by omega);have hp7' : (10 : Nat) ^ 7 = 10000000 := rfl;obtain ⟨M, hM⟩ : ∃ M, N * 10 + z = M := ⟨_, rfl⟩;rw [hM] at hv;have hMi : (N : Int) * 10 + (z : Int) = (M : Int) := by omega
     have hM7 : M ≤ 10000000 := by omega
     have HV2 := tHid (And.intro hv (show M < 10 ^ (I + 1) by omega));have hN6 : N ≤ 1000000 := by omega
     have hI6 : I < 7 := by omega
     have hc3 : ¬ (I = 0 ∧ y = 48) := by omega
     have b7 : ((I : Int) == 7) = false := by rw [beq_eq_false_iff_ne]; omega
     have d48 : I = 0 → ¬ ((y : Int) = 48) := by omega
     clear HF hv hNI hp hp7 hp7' hM c1 c2 hN hz;by_cases d3 : I = 0
     ·have d5 := d48 d3;have b48 : ((y : Int) == 48) = false := by rw [beq_eq_false_iff_ne]; exact d5
      clear d48;subst d3;rw [Nat.add_zero] at hcell;clear hc3
      go_wp2_with fail
      go_roundg (n - (0 + 1))
      case measure => omega
      case rel => exact ⟨0 + 1, M, by omega, by omega, by omega, by first | rfl | (congr 1), by first | rfl | (rw [hyz, hMi]) | (congr 1; omega), hM7, rfl, HV2⟩
     ·have d3' : ¬ ((I : Int) = 0) := by omega
      have b0 : ((I : Int) == 0) = false := by rw [beq_eq_false_iff_ne]; exact d3'
      clear d48 hc3
      go_wp2_with fail
      go_roundg (n - (I + 1))
      case measure => omega
      case rel => exact ⟨I + 1, M, by omega, by omega, by omega, by first | rfl | (congr 1), by first | rfl | (rw [hyz, hMi]) | (congr 1; omega), hM7, rfl, HV2⟩
  ·obtain rfl : I = n := by omega
   rw [List.drop_eq_nil_of_le (by omega)] at hv;have HF2 := tHid (HF.out _ hv);clear HF hv hNI HV HB hS hbn
   go_wp2_with fail
   exact HF2.out
theorem str_data (l : Bs) : (str l).data.toList = l.map u8 := rfl
theorem ixs (l : Bs) (c : By) : (c ∉ l ∧ Lib.indexByte (l.map u8) (u8 c) = -1) ∨ ∃ k r, l = k ++ c :: r ∧ c ∉ k ∧ Lib.indexByte (l.map u8) (u8 c) = (k.length : Int) := by
 induction l with
 | nil => exact .inl ⟨by simp, by simp [Lib.indexByte]⟩
 | cons x r ih =>
  by_cases hx : x = c
  ·subst hx;exact .inr ⟨[], r, rfl, by simp, by simp [Lib.indexByte]⟩
  ·have hu : ¬ u8 x = u8 c := fun h => hx (u8_inj x c h)
   rcases ih with ⟨h1, h2⟩ | ⟨k, t, h1, h2, h3⟩
   ·refine .inl ⟨by rw [List.mem_cons, not_or]; exact ⟨fun e => hx e.symm, h1⟩, ?_⟩;rw [List.map_cons];unfold Lib.indexByte;rw [if_neg (by simpa using hu), if_pos (by rw [h2]; rfl)]
   ·refine .inr ⟨x :: k, t, by rw [h1]; rfl, by rw [List.mem_cons, not_or]; exact ⟨fun e => hx e.symm, h2⟩, ?_⟩;rw [List.map_cons];unfold Lib.indexByte;rw [if_neg (by simpa using hu), if_neg (by rw [h3]; simp), h3];simp
theorem str_lt (l : Bs) (j : Nat) (h : j < (str l).size) : j < l.length := by rw [str_size] at h; exact h
theorem str_get (l : Bs) (j : Nat) (h : j < (str l).size) : ((str l)[j]'h).toNat = (l[j]'(str_lt l j h)).toNat := by
 have : (str l)[j]'h = u8 (l[j]'(str_lt l j h)) := by
  show (str l).data[j] = _;simp [str]
 rw [this, u8_nat]
theorem hi_skip (s : ByteArray) (pos : Nat) (h : pos < s.size) (ha : 128 ≤ (s[pos]'h).toNat) : 128 ≤ (Utf8.decode s pos).1 ∧ (Utf8.decode s pos).1 ≤ 1114111 ∧ Utf8.valid ((Utf8.decode s pos).1 : Int) = true ∧ 1 ≤ (Utf8.decode s pos).2 ∧ pos + (Utf8.decode s pos).2 ≤ s.size ∧ ∀ j, pos ≤ j → j < pos + (Utf8.decode s pos).2 → 128 ≤ (s.get! j).toNat := by
 have hn : ¬ (s[pos]'h).toNat < 128 := by omega
 have h256 := (s[pos]'h).toNat_lt;have g0 : s.get! pos = s[pos]'h := get_at s pos h;have one : ∀ j, pos ≤ j → j < pos + 1 → 128 ≤ (s.get! j).toNat := fun j h1 h2 => by
  obtain rfl : j = pos := by omega
  rw [g0]; exact ha
 simp only [Utf8.decode, get_at s pos h, hn, if_false];have b1 := (s.get! (pos + 1)).toNat_lt;have b2 := (s.get! (pos + 2)).toNat_lt;have b3 := (s.get! (pos + 3)).toNat_lt;have bad : 128 ≤ Utf8.runeError ∧ Utf8.runeError ≤ 1114111 ∧ Utf8.valid (Utf8.runeError : Int) = true ∧ 1 ≤ 1 ∧ pos + 1 ≤ s.size ∧ ∀ j, pos ≤ j → j < pos + 1 → 128 ≤ (s.get! j).toNat := ⟨by decide, by decide, by decide, by decide, by omega, one⟩;split
 ·rename_i hc;simp only [Bool.and_eq_true, decide_eq_true_eq, beq_iff_eq] at hc;split
  ·refine ⟨by omega, by omega, ?_, Nat.le_of_ble_eq_true rfl, by omega, fun j h1 h2 => ?_⟩
   ·simp only [Utf8.valid, Bool.or_eq_true, Bool.and_eq_true, decide_eq_true_eq]; omega
   ·by_cases hj : j = pos
    ·subst hj; rw [g0]; exact ha
    ·obtain rfl : j = pos + 1 := by omega
     omega
  ·exact bad
 ·split
  ·rename_i hc;simp only [Bool.and_eq_true, decide_eq_true_eq, beq_iff_eq] at hc;split
   ·rename_i hv;simp only [Bool.and_eq_true, decide_eq_true_eq] at hv;refine ⟨by omega, by omega, hv.2, Nat.le_of_ble_eq_true rfl, by omega, fun j h1 h2 => ?_⟩;by_cases hj : j = pos
    ·subst hj; rw [g0]; exact ha
    ·by_cases hj2 : j = pos + 1
     ·subst hj2; omega
     ·obtain rfl : j = pos + 2 := by omega
      omega
   ·exact bad
  ·split
   ·rename_i hc;simp only [Bool.and_eq_true, decide_eq_true_eq, beq_iff_eq] at hc;split
    ·rename_i hv;simp only [Bool.and_eq_true, decide_eq_true_eq] at hv;have hv2 := hv.2;simp only [Utf8.valid, Bool.or_eq_true, Bool.and_eq_true, decide_eq_true_eq] at hv2;refine ⟨by omega, by omega, hv.2, Nat.le_of_ble_eq_true rfl, by omega, fun j h1 h2 => ?_⟩;by_cases hj : j = pos
     ·subst hj; rw [g0]; exact ha
     ·by_cases hj2 : j = pos + 1
      ·subst hj2; omega
      ·by_cases hj3 : j = pos + 2
       ·subst hj3; omega
       ·obtain rfl : j = pos + 3 := by omega
        omega
    ·exact bad
   ·exact bad
theorem sib_any (s : ByteArray) (c : Int) (w : World) : Calls Tryz.prog 126 #[.string s, .int .u8 c] w fun e w' => e = .returned (.int .i64 (Lib.indexByte s.data.toList c.toNat.toUInt8)) ∧ w = w' := by
 refine asP fun P hP => ?_
 have HF : Hid (P (.returned (.int .i64 (Lib.indexByte s.data.toList c.toNat.toUInt8))) w) := by rw [hP]; exact ⟨rfl, rfl⟩
 clear hP;go_enter Tryz.func126, Tryz.ntmps126
 go_wp2
 rw [run_callFunc_extern Tryz.func163 (by kernel_rfl) (by kernel_rfl) (by kernel_rfl) (e := Extern.BytealgIndexByte.indexByte) (by kernel_rfl), Lib.run_indexByteString];simp only [Result.andThen];rw [Oper.upon_value]
 go_wp2
 first | exact HF.out | (go_ret; exact HF.out)
theorem sIb_any (s : ByteArray) (c : Int) (w : World) : Calls Tryz.prog 236 #[.string s, .int .u8 c] w fun e w' => e = .returned (.int .i64 (Lib.indexByte s.data.toList c.toNat.toUInt8)) ∧ w = w' := by
 refine asP fun P hP => ?_
 have HF : Hid (P (.returned (.int .i64 (Lib.indexByte s.data.toList c.toNat.toUInt8))) w) := by rw [hP]; exact ⟨rfl, rfl⟩
 have HJ := tHid (sib_any s c w);clear hP;generalize Lib.indexByte s.data.toList c.toNat.toUInt8 = r at *;go_enter Tryz.func236, Tryz.ntmps236
 go_wp2_with (first | (go_at_call 126; with_reducible refine HJ.out.mono ?_; rintro e w1 ⟨rfl, rfl⟩))
 first | exact HF.out | (go_ret; exact HF.out)
theorem vrune_any (r : Nat) (h : Utf8.valid (r : Int) = true) (w : World) : Calls Tryz.prog 237 #[.int .i32 r] w fun e w' => e = .returned (.bool true) ∧ w = w' := by
 refine asP fun P hP => ?_
 have HF : Hid (P (.returned (.bool true)) w) := by rw [hP]; exact ⟨rfl, rfl⟩
 clear hP;simp only [Utf8.valid, Bool.or_eq_true, Bool.and_eq_true, decide_eq_true_eq] at h;have z0 : (0 : Int) ≤ (r : Int) := by omega
 by_cases h1 : (r : Int) < 55296
 ·clear h;go_enter Tryz.func237, Tryz.ntmps237
  go_wp2_with fail
  first | exact HF.out | (go_ret; exact HF.out)
 ·have z1 : (57343 : Int) < (r : Int) := by omega
  have z2 : (r : Int) ≤ 1114111 := by omega
  clear h;go_enter Tryz.func237, Tryz.ntmps237
  go_wp2_with fail
  first | exact HF.out | (go_ret; exact HF.out)
def EZ : ByteArray := ⟨#[61, 0]⟩
theorem ez_size : EZ.size = 2 := rfl
theorem ez_1 (h : 1 < EZ.size) : (EZ[1]'h).toNat = 0 := rfl
theorem ez_ne : (EZ.toList == ([] : List UInt8)) = false := by decide +kernel
theorem enc_of (r : Nat) (h1 : 128 ≤ r) (h2 : r ≤ 1114111) (hv : Utf8.valid (r : Int) = true) : (∃ a b : UInt8, Utf8.encode (r : Int) = ⟨#[a, b]⟩ ∧ 128 ≤ b.toNat) ∨ (Utf8.encode (r : Int)).size = 3 ∨ (Utf8.encode (r : Int)).size = 4 := by
 unfold Utf8.encode;simp only [hv, if_true, Int.toNat_natCast];rw [if_neg (by omega)];split
 ·refine .inl ⟨_, _, rfl, ?_⟩;rw [UInt8.toNat_ofNat'];omega
 ·split
  ·exact .inr (.inl rfl)
  ·exact .inr (.inr rfl)
theorem nw_iterAt {w W : World} (h : Nw w W) (s : ByteArray) (pos : Nat) {k : Nat} (hk : w.heap.size ≤ k) : Nw w (W.iterAt k s pos) :=
 ⟨h.os, h.tape, h.output, by rw [Lib.iterAt_size]; exact h.size, fun i hi hx => (Lib.iterAt_other W k i s pos (by omega)).trans (h.block i hi hx)⟩
theorem q_ez : ∀ c : By, (0 ≤ Lib.indexByte EZ.data.toList (UInt8.ofBitVec c)) ↔ c = 61#8 ∨ c = 0#8 := by
 decide +kernel
theorem ix_ez (r : Nat) (h : r < 128) : 0 ≤ Lib.indexByte EZ.data.toList ((r : Int)).toNat.toUInt8 ↔ r = 61 ∨ r = 0 := by
 have e : ((r : Int)).toNat.toUInt8 = UInt8.ofBitVec (BitVec.ofNat 8 r) := by
  rw [Int.toNat_natCast]; rfl
 rw [e, q_ez];constructor
 ·rintro (h | h)
  ·left
   have := congrArg BitVec.toNat h;rw [BitVec.toNat_ofNat, Nat.mod_eq_of_lt (by omega)] at this;exact this
  ·right
   have := congrArg BitVec.toNat h;rw [BitVec.toNat_ofNat, Nat.mod_eq_of_lt (by omega)] at this;exact this
 ·rintro (rfl | rfl)
  ·left; rfl
  ·right; rfl
theorem ez_dec (pos : Nat) (h : pos < 2) : Utf8.decode EZ pos = (if pos = 0 then 61 else 0, 1) := by
 have : pos = 0 ∨ pos = 1 := by omega
 rcases this with rfl | rfl
 ·exact decode_ascii EZ 0 (by decide) (by decide)
 ·exact decode_ascii EZ 1 (by decide) (by decide)
theorem irune_any (r : Nat) (h : r < 128 ∨ (128 ≤ r ∧ r ≤ 1114111 ∧ Utf8.valid (r : Int) = true)) (w : World) : Calls Tryz.prog 231 #[.string EZ, .int .i32 r] w fun e w' => ∃ v : Int, e = .returned (.int .i64 v) ∧ Hid ((0 ≤ v ↔ r = 61 ∨ r = 0) ∧ Nw w w') := by
 refine asP fun P hP => ?_
 have HF : Hid (∀ v W, (0 ≤ v ↔ r = 61 ∨ r = 0) → Nw w W → P (.returned (.int .i64 v)) W) := fun v W h1 h2 => by rw [hP]; exact ⟨v, rfl, h1, h2⟩
 clear hP;have z0 : (0 : Int) ≤ (r : Int) := by omega
 by_cases h128 : r < 128
 ·have HJ := tHid (sIb_any EZ (r : Int) w);have HF2 := tHid (HF.out _ w (ix_ez r h128) (Fr.refl _ _));have z1 : (r : Int) < 128 := by omega
  clear HF h;generalize Lib.indexByte EZ.data.toList (r : Int).toNat.toUInt8 = v at *;go_enter Tryz.func231, Tryz.ntmps231
  go_wp2_with (first | (go_at_call 236; with_reducible refine HJ.out.mono ?_; rintro e w1 ⟨rfl, rfl⟩))
  first | exact HF2.out | (go_ret; exact HF2.out)
 ·obtain ⟨k1, k2, k3⟩ : 128 ≤ r ∧ r ≤ 1114111 ∧ Utf8.valid (r : Int) = true := by
   rcases h with h | h
   ·omega
   ·exact h
  have HF1 : Hid (∀ W, Nw w W → P (.returned (.int .i64 (-1))) W) := fun W hW => HF.out (-1) W ⟨fun q => by omega, fun q => by omega⟩ hW
  clear HF h;have z1 : ¬ ((r : Int) < 128) := by omega
  have z2 : (r : Int) ≤ 1114111 := by omega
  by_cases he : r = 65533
  ·subst he;clear k1 k2 k3 z0 z1 z2 h128;go_enter Tryz.func231, Tryz.ntmps231
   go_wp2_with fail
   go_loopg [] 2 (fun g wx => ∃ pos : Nat, pos ≤ 2 ∧ 2 ≤ pos + g ∧ Hid (wx.heap[w.heap.size]? = some (.stringIter EZ pos) ∧ Nw w wx))
   case atStart => exact ⟨0, by omega, by omega, World.iter_heap w EZ 0, (Fr.refl _ _).alloc _⟩
   case round =>
    obtain ⟨pos, hp, hfu, HV⟩ := hrel;obtain ⟨hit, hbw⟩ := HV.out;by_cases hlt : pos < 2
    ·have hnx : ∀ ty, (Instr.next (.pointer (some ⟨w.heap.size, 0, none⟩)) true ty).run Tryz.prog wr = _ := fun ty => Lib.run_next_any_at wr w.heap.size EZ pos ty hit hlt
     rw [ez_dec pos hlt] at hnx;have hit2 := Lib.iterAt_heap wr w.heap.size EZ pos (pos + 1) hit;have hbw2 := nw_iterAt hbw EZ (pos + 1) (Nat.le_refl _);obtain ⟨W, hWd⟩ : ∃ W, wr.iterAt w.heap.size EZ (pos + 1) = W := ⟨_, rfl⟩;obtain ⟨R, hR⟩ : ∃ R : Nat, (if pos = 0 then 61 else 0) = R := ⟨_, rfl⟩;simp only at hnx;rw [hWd, hR] at hnx;rw [hWd] at hit2 hbw2;have hRl : R ≤ 61 := by rw [← hR]; split <;> omega
     have hRn : ¬ ((R : Int) = 65533) := by omega
     have HV2 := tHid (And.intro hit2 hbw2);clear HV hit hbw hit2 hbw2 hWd hR HF1
     go_wp2_with fail
     go_roundg (2 - (pos + 1))
     case measure => omega
     case rel => exact ⟨pos + 1, by omega, by omega, HV2⟩
    ·have hnx : ∀ ty, (Instr.next (.pointer (some ⟨w.heap.size, 0, none⟩)) true ty).run Tryz.prog wr = _ := fun ty => Lib.run_next_end_at wr w.heap.size EZ pos ty hit hlt
     have HF2 := tHid (HF1.out wr hbw);clear HV hit hbw HF1
     go_wp2_with fail
     first | exact HF2.out | (go_ret; exact HF2.out)
  ·have z3 : ¬ ((r : Int) = 65533) := by omega
   have HVr := tHid (vrune_any r k3 w);have hE := enc_of r k1 k2 k3;generalize hT : Utf8.encode (r : Int) = T at hE;have hcv : (convert 21 9 (.int .i32 (r : Int))).run Tryz.prog w = .ok (.string T) w := by
    rw [← hT];simp [convert, run_underlying Tryz.underlying21, run_underlying Tryz.underlying9, Conv.intToString]
   clear hT k1 k2 k3;rcases hE with ⟨x, y, rfl, hy⟩ | hE | hE
   ·obtain ⟨T, hT⟩ : ∃ T : ByteArray, T = ⟨#[x, y]⟩ := ⟨_, rfl⟩;have hsz : T.size = 2 := by rw [hT]; rfl
    have e1 : ∀ h, (T[1]'h).toNat = y.toNat := by subst hT; intro h; rfl
    rw [← hT] at hcv;clear hT;have hyn : ¬ ((0 : Int) = (y.toNat : Int)) := by omega
    have hyn2 : ¬ ((y.toNat : Int) = 0) := by omega
    have hez := ez_1 (by decide);have hex : EZ.extract 2 EZ.size = ⟨#[]⟩ := by decide +kernel
    have hezs := ez_size;have hex2 : EZ.extract 2 2 = ⟨#[]⟩ := by decide +kernel
    have hz2 : decide ((2 : Int) ≤ (EZ.size : Int)) = true := by decide +kernel
    have hw2 : IntKind.i64.wrap 2 = 2 := by decide +kernel
    have hz3 : (2 : Nat) ≤ EZ.size := by decide +kernel
    have hz4 : (2 : Int) ≤ (EZ.size : Int) := by decide +kernel
    have HJ : Hid (∀ V, Calls Tryz.prog 236 #[.string ByteArray.empty, .int .u8 (y.toNat : Int)] V fun e w' => e = .returned (.int .i64 (-1)) ∧ w' = V) := fun V => (sIb_any ⟨#[]⟩ (y.toNat : Int) V).mono (fun e w' h => ⟨h.1, h.2.symm⟩)
    generalize y.toNat = Y at *;clear hy x y;go_enter Tryz.func231, Tryz.ntmps231
    go_wp2_with (first | (go_at_call 237; with_reducible refine HVr.out.mono ?_; rintro e w1 ⟨rfl, rfl⟩))
    go_step3
    go_wp2_with fail
    go_loopg [9] 1 (fun g v wx => v = .int .i64 1 ∧ wx = w)
    case atStart => exact ⟨rfl, rfl⟩
    case round =>
     obtain ⟨rfl, hw⟩ := hrel;have hw' := hw.symm;subst hw';clear hw HVr
     go_wp2_with fail
     go_step3
     go_upto_region 6 with fail
     go_quiet (fail)
     have HNV := tHid ((Fr.refl (fun _ => False) w).drewN nq);generalize w.drewN nq = V at *;go_upto_region 7 with fail
     go_quiet (first | (go_at_call 236; refine Calls.quiet_of_same (HJ.out _)))
     go_wp2_with fail
     (try rw [Exit.noGoto_ret])
     first | exact HF1.out _ (HNV.out.drewN _) | (go_ret; exact HF1.out _ (HNV.out.drewN _))
   all_goals
    have hezs := ez_size;go_enter Tryz.func231, Tryz.ntmps231
    go_wp2_with (first | (go_at_call 237; with_reducible refine HVr.out.mono ?_; rintro e w1 ⟨rfl, rfl⟩))
    go_step3
    go_wp2_with fail
    go_loopg [9] 1 (fun g v wx => v = .int .i64 ((T.size : Int) - 1) ∧ wx = w)
    case atStart => exact ⟨by rw [hE]; rfl, rfl⟩
    case round =>
     obtain ⟨hv, hw⟩ := hrel;rw [hE] at hv;have hw' := hw.symm;subst hw';subst hv;clear hw HVr
     go_wp2_with fail
     (try rw [Exit.noGoto_ret])
     first | exact HF1.out _ (Fr.refl _ _) | (go_ret; exact HF1.out _ (Fr.refl _ _))
end Go.Proofs.YtlenihpbhlfcoaaGreatDoor

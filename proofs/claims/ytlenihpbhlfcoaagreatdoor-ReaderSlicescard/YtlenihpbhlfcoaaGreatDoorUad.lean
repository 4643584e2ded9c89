import Derived.Lib.MinMax
import Derived.Lib.BufferWrite
import Derived.Test.YtlenihpbhlfcoaaGreatDoorUac
import Derived.Lib.BytesEntry
set_option maxHeartbeats 8000000
set_option maxRecDepth 100000
set_option linter.unusedSimpArgs false
set_option linter.unusedVariables false
namespace Go.Proofs.YtlenihpbhlfcoaaGreatDoor
open Go.RowKit
variable {w : World}
theorem slindexb_any (s : ByteArray) (c : Int) (w : World) : Calls Tryz.prog 126 #[.string s, .int .u8 c] w fun e w' => e = .returned (.int .i64 (Lib.indexByte s.data.toList c.toNat.toUInt8)) ∧ w = w' := by
 refine asP fun P hP => ?_
 have HF : Hid (P (.returned (.int .i64 (Lib.indexByte s.data.toList c.toNat.toUInt8))) w) := by rw [hP]; exact ⟨rfl, rfl⟩
 clear hP;go_enter Tryz.func126, Tryz.ntmps126
 go_wp2
 rw [run_callFunc_extern Tryz.func163 (by kernel_rfl) (by kernel_rfl) (by kernel_rfl) (e := Extern.BytealgIndexByte.indexByte) (by kernel_rfl), Lib.run_indexByteString];simp only [Result.andThen];rw [Oper.upon_value]
 go_wp2
 first | exact HF.out | (go_ret; exact HF.out)
theorem slindex_one (s : ByteArray) (w : World) (hs : s.size ≤ 140737488351232) : Calls Tryz.prog 102 #[.string s, .string ⟨#[0]⟩] w fun e w' => e = .returned (.int .i64 (Lib.indexByte s.data.toList 0)) ∧ w = w' := by
 refine asP fun P hP => ?_
 have HF : Hid (P (.returned (.int .i64 (Lib.indexByte s.data.toList 0))) w) := by rw [hP]; exact ⟨rfl, rfl⟩
 have HI : Hid (Calls Tryz.prog 126 #[.string s, .int .u8 0] w fun e w' => e = .returned (.int .i64 (Lib.indexByte s.data.toList 0)) ∧ w = w') := slindexb_any s 0 w;clear hP;by_cases h0 : s = ⟨#[0]⟩
 ·subst h0;have e : Lib.indexByte (⟨#[0]⟩ : ByteArray).data.toList 0 = 0 := by decide
  rw [e] at HF;clear HI;go_enter Tryz.func102, Tryz.ntmps102
  go_wp2
  exact HF.out
 ·have h1 : (([0] : List UInt8) == s.toList) = false := by
   rw [beq_eq_false_iff_ne];intro e;apply h0;rw [ByteArray.toList_eq] at e;apply ByteArray.ext;apply Array.ext';exact e.symm
  generalize Lib.indexByte s.data.toList 0 = r at *;go_enter Tryz.func102, Tryz.ntmps102
  go_wp2_with (first | (go_at_call 126; refine HI.out.mono ?_; rintro e w1 ⟨rfl, rfl⟩))
  exact HF.out
theorem contains_any (s : ByteArray) (w : World) (hs : s.size ≤ 140737488351232) : Calls Tryz.prog 43 #[.string s, .string ⟨#[0]⟩] w fun e w' => e = .returned (.bool (decide (0 ≤ Lib.indexByte s.data.toList 0))) ∧ w = w' := by
 refine asP fun P hP => ?_
 have HF : Hid (P (.returned (.bool (decide (0 ≤ Lib.indexByte s.data.toList 0)))) w) := by rw [hP]; exact ⟨rfl, rfl⟩
 have HI : Hid (Calls Tryz.prog 70 #[.string s, .string ⟨#[0]⟩] w fun e w' => e = .returned (.int .i64 (Lib.indexByte s.data.toList 0)) ∧ w = w') := by
  obtain ⟨Q, hQ⟩ : ∃ Q : Ending → World → Prop, Q = fun e w' => e = .returned (.int .i64 (Lib.indexByte s.data.toList 0)) ∧ w = w' := ⟨_, rfl⟩
  show Calls _ _ _ _ _;rw [← hQ];have HF : Hid (Q (.returned (.int .i64 (Lib.indexByte s.data.toList 0))) w) := by rw [hQ]; exact ⟨rfl, rfl⟩
  have HJ : Hid (Calls Tryz.prog 102 #[.string s, .string ⟨#[0]⟩] w fun e w' => e = .returned (.int .i64 (Lib.indexByte s.data.toList 0)) ∧ w = w') := slindex_one s w hs;clear hQ hP;go_enter Tryz.func70, Tryz.ntmps70
  go_wp2_with (first | (go_at_call 102; with_reducible refine HJ.out.mono ?_; rintro e w1 ⟨rfl, rfl⟩))
  exact HF.out
 clear hP;generalize Lib.indexByte s.data.toList 0 = r at *;by_cases hr : 0 ≤ r
 ·rw [decide_eq_true hr] at HF;have hd := decide_eq_true hr;go_enter Tryz.func43, Tryz.ntmps43
  go_wp2_with (first | (go_at_call 70; with_reducible refine HI.out.mono ?_; rintro e w1 ⟨rfl, rfl⟩))
  exact HF.out
 ·rw [decide_eq_false hr] at HF;have hd := decide_eq_false hr;go_enter Tryz.func43, Tryz.ntmps43
  go_wp2_with (first | (go_at_call 70; with_reducible refine HI.out.mono ?_; rintro e w1 ⟨rfl, rfl⟩))
  exact HF.out
end Go.Proofs.YtlenihpbhlfcoaaGreatDoor
namespace Go.Proofs.YtlenihpbhlfcoaaGreatDoor
open Go.RowKit
def u8 (b : By) : UInt8 := UInt8.ofNat b.toNat
theorem u8_nat (b : By) : (u8 b).toNat = b.toNat := by
 have := b.isLt;simp [u8]
def str (l : List By) : ByteArray := ⟨(l.map u8).toArray⟩
theorem u8_inj (b c : By) (h : u8 b = u8 c) : b = c := by
 have := congrArg UInt8.toNat h;rw [u8_nat, u8_nat] at this;exact BitVec.eq_of_toNat_eq this
theorem map_inj {l m : List By} (h : l.map u8 = m.map u8) : l = m := by
 induction l generalizing m with
 | nil => cases m with
  | nil => rfl
  | cons x r => simp at h
 | cons x r ih => cases m with
  | nil => simp at h
  | cons y s => simp only [List.map_cons, List.cons.injEq] at h; rw [u8_inj x y h.1, ih h.2]
theorem str_inj {l m : List By} : str l = str m ↔ l = m := by
 constructor
 ·intro h;have h1 := congrArg ByteArray.data h;have h2 : (l.map u8) = (m.map u8) := by simpa [str] using h1
  exact map_inj h2
 ·intro h; rw [h]
theorem str_size (l : List By) : (str l).size = l.length := by
 show (str l).data.size = _;simp [str]
theorem conv_any {X : Nat → Prop} {v : Value} {l : List By} {w : World} (h : Sl X v l w) : (convert 22 9 v).run Tryz.prog w = .ok (.string (str l)) w := by
 have key : ∀ (g o c : Nat), Rd g o l w → (convert 22 9 (.slice (some ⟨g, o, none⟩) l.length c)).run Tryz.prog w = .ok (.string (str l)) w := by
  intro g o c hr;have := run_convert_bytes_back (P := Tryz.prog) w 22 9 5 ⟨g, o, none⟩ c (l.map u8) Tryz.underlying22 Tryz.underlying5 Tryz.underlying9 (fun j hj => by
   have hj' : j < l.length := by simpa using hj
   rw [add_addr, hr j hj'];simp [u8_nat])
  rw [List.length_map] at this;exact this
 rcases h with ⟨a, rfl, rfl⟩ | ⟨g, _, o, c, rfl, h1, h2, h3⟩
 ·cases a with
  | none =>
   rw [run_convert_bytes_string w 22 9 5 none 0 0 Tryz.underlying22 Tryz.underlying5 Tryz.underlying9];simp [Conv.bytesToString, str, Sem.run_pure];rfl
  | some a =>
   exact run_convert_bytes_back (P := Tryz.prog) w 22 9 5 a 0 [] Tryz.underlying22 Tryz.underlying5 Tryz.underlying9 (fun j hj => by simp at hj)
 ·exact key g o c h3
def pnE (n d : Int) : Nat := if poE n d = 0 then 0 else pbE n d
def pnL (n d : Int) : List By := if poE n d = 0 then poL n d else pbL n d
theorem putNumber_any (n d : Int) (w : World) (hn1 : -9223372036854775808 ≤ n) (hn2 : n ≤ 9223372036854775807) :
  Calls Tryz.prog 41 #[.int .i64 n, .int .i64 d] w (PutA (pnE n d) (pnL n d) w) := by
 refine asP fun P hP => ?_
 have HO : Hid (Calls Tryz.prog 40 #[.int .i64 n, .int .i64 d] w fun e w' => ∃ a m c, e = .returned (.tuple #[.slice a m c, .int .i64 (poE n d : Nat)]) ∧ Hid (Nw w w' ∧ ((poE n d ≠ 0 ∧ a = none ∧ m = 0 ∧ c = 0) ∨ (poE n d = 0 ∧ ∃ g, w.heap.size ≤ g ∧ Ow g (.slice a m c) (poL n d) w')))) := putOctal_any n d w hn1 hn2
 have HB : Hid (∀ V, Calls Tryz.prog 64 #[.int .i64 n, .int .i64 d] V fun e w' => ∃ a m c, e = .returned (.tuple #[.slice a m c, .int .i64 (pbE n d : Nat)]) ∧ Hid (Nw V w' ∧ ((pbE n d ≠ 0 ∧ a = none ∧ m = 0 ∧ c = 0) ∨ (pbE n d = 0 ∧ ∃ g, V.heap.size ≤ g ∧ Ow g (.slice a m c) (pbL n d) w')))) := fun V => putBinary_any n d V hn1 hn2
 by_cases hz : poE n d = 0
 ·have HF : Hid (∀ W a m c, Nw w W → (∃ g, w.heap.size ≤ g ∧ Ow g (.slice a m c) (poL n d) W) → P (.returned (.tuple #[.slice a m c, .int .i64 0])) W) := fun W a m c h1 h2 => by
   rw [hP];unfold pnE pnL;rw [if_pos hz, if_pos hz];exact ⟨a, m, c, rfl, h1, .inr ⟨rfl, h2⟩⟩
  have hz' := tHid hz;rw [hz] at HO;clear hP HB hz;go_enter Tryz.func41, Tryz.ntmps41
  go_wp2_with (first | (go_at_call 40; with_reducible refine HO.out.mono ?_; rintro e w1 ⟨a, m, c, rfl, H1⟩))
  obtain ⟨h1, h2⟩ := H1.out;rcases h2 with ⟨h2, _⟩ | ⟨_, h2⟩
  ·exact absurd rfl h2
  ·exact HF.out _ _ _ _ h1 h2
 ·have HF : Hid (∀ V W a m c, Nw w V → Nw V W → ((pbE n d ≠ 0 ∧ a = none ∧ m = 0 ∧ c = 0) ∨ (pbE n d = 0 ∧ ∃ g, V.heap.size ≤ g ∧ Ow g (.slice a m c) (pbL n d) W)) → P (.returned (.tuple #[.slice a m c, .int .i64 (pbE n d : Nat)])) W) := fun V W a m c h0 h1 h2 => by
   rw [hP];unfold pnE pnL;rw [if_neg hz, if_neg hz];refine ⟨a, m, c, rfl, h0.trans h1, ?_⟩;rcases h2 with h2 | ⟨e, g, hg, hO⟩
   ·exact .inl h2
   ·exact .inr ⟨e, g, Nat.le_trans h0.size hg, hO⟩
  obtain ⟨E, hE⟩ : ∃ E, poE n d = E := ⟨_, rfl⟩;rw [hE] at HO hz;have hz2 : ((E : Int) == 0) = false := by rw [beq_eq_false_iff_ne]; omega
  have hz3 : ¬ (E : Int) = 0 := by omega
  clear hP hE;generalize pbE n d = B at *;go_enter Tryz.func41, Tryz.ntmps41
  go_wp2_with (first | (go_at_call 40; with_reducible refine HO.out.mono ?_; rintro e w1 ⟨a, m, c, rfl, H1⟩) | (go_at_call 64; with_reducible refine (HB.out _).mono ?_; rintro e w2 ⟨a2, m2, c2, rfl, H2⟩))
  exact HF.out _ _ _ _ _ H1.out.1 H2.out.1 H2.out.2
def bys' (s : ByteArray) : List By := s.data.toList.map (fun u => BitVec.ofNat 8 u.toNat)
theorem bys_len (s : ByteArray) : (bys' s).length = s.size := by unfold bys'; rw [List.length_map]; rfl
theorem u8_of (u : UInt8) : u8 (BitVec.ofNat 8 u.toNat) = u := by
 have h := u.toNat_lt;unfold u8;rw [BitVec.toNat_ofNat, Nat.mod_eq_of_lt (by omega)];simp
theorem str_bys (s : ByteArray) : str (bys' s) = s := by
 apply ByteArray.ext
 unfold str bys';rw [List.map_map];have : (u8 ∘ fun u : UInt8 => BitVec.ofNat 8 u.toNat) = id := by funext u; exact u8_of u
 rw [this, List.map_id]
theorem bys_str (l : List By) : bys' (str l) = l := by
 have h : str (bys' (str l)) = str l := str_bys _;exact str_inj.1 h
def noZ (s : ByteArray) : Bool := decide (¬ 0 ≤ Lib.indexByte s.data.toList 0)
def pxE (s : ByteArray) (d : Int) : Nat := if 1 ≤ d ∧ d ≤ 512 ∧ noZ s = true then (if (s.size : Int) ≤ d then 0 else 122) else 1
def pxL (s : ByteArray) (d : Int) : List By := bys' s ++ List.replicate (d.toNat - s.size) 0#8
def cpyT (tys : Array TypeId) (ty : TypeId) (args : Array Value) : Sem Value := Builtin.copy_ tys ty args
theorem cpyT_fold (tys : Array TypeId) (ty : TypeId) (args : Array Value) : Builtin.copy_ tys ty args = cpyT tys ty args := rfl
theorem copy_str (w : World) (g k : Nat) (s : ByteArray) (hs : s.size ≤ k) (hk : k ≤ 1000000) (hO : Ow g (.slice (some ⟨g, 0, none⟩) k k) (List.replicate k 0#8) w) :
  ∃ W, (∀ ty, (cpyT #[22, 9] ty #[.slice (some ⟨g, 0, none⟩) k k, .string s]).run Tryz.prog w = .ok (.int .i64 (s.size : Int)) W) ∧ Ow g (.slice (some ⟨g, 0, none⟩) k k) (bys' s ++ List.replicate (k - s.size) 0#8) W ∧ Fr (fun i => i = g) w W := by
 obtain ⟨xs, e, h2, h3, h4, h5⟩ := hO;obtain ⟨i, hi, hz, hsz, hby⟩ := infoB;have hxl : xs.length = k := by injection e with _ _ ec; exact ec.symm
 have hx : xs = List.replicate k 0#8 := by
  rw [List.length_replicate, List.take_of_length_le (by omega)] at h2; exact h2
 have hrun := fun ty => Lib.run_copy_row_string (P := Tryz.prog) w 22 9 ty 5 g 0 k k s (xs.map bv).toArray 5 Tryz.underlying22 (by rw [hi]; simp [hsz]) h5 hs (by simp; omega)
 refine ⟨_, hrun, ?_, (Fr.refl _ _).setRow _ _ (.inl rfl)⟩;have ec : ((xs.map bv).toArray.toList.take 0 ++ Lib.byteCells s.data.toList ++ (xs.map bv).toArray.toList.drop (0 + s.size)).toArray = ((bys' s ++ List.replicate (k - s.size) 0#8).map bv).toArray := by
  congr 1
  rw [List.take_zero, List.nil_append, List.map_append, Nat.zero_add, hx];congr 1
  ·unfold Lib.byteCells bys';rw [List.map_map];apply List.map_congr_left;intro u _;have h := u.toNat_lt;simp only [Function.comp, bv, BitVec.toNat_ofNat];rw [Nat.mod_eq_of_lt (by omega)]
  ·simp
 rw [ec];have hln : (bys' s ++ List.replicate (k - s.size) 0#8).length = k := by rw [List.length_append, bys_len, List.length_replicate]; omega
 refine ⟨_, ?_, ?_, ?_, ?_, setRow_heap w g _ _ 5 _ h5⟩
 ·rw [hln]
 ·rw [List.take_of_length_le (Nat.le_refl _)]
 ·exact Nat.le_refl _
 ·rw [hln]; omega
section
attribute [local go_sem ↓] cpyT_fold
theorem putText_any (s : ByteArray) (d : Int) (w : World) (hs : s.size ≤ 140737488351232) :
  Calls Tryz.prog 78 #[.string s, .int .i64 d] w (PutA (pxE s d) (pxL s d) w) := by
 refine asP fun P hP => ?_
 have HC := tHid (contains_any s w hs);have HBAD : Hid (∀ E, pxE s d = E → E ≠ 0 → P (.returned (.tuple #[.slice none 0 0, .int .i64 (E : Nat)])) w) := fun E h h2 => by
  rw [hP, h]; exact ⟨none, 0, 0, rfl, Fr.refl _ _, .inl ⟨h2, rfl, rfl, rfl⟩⟩
 by_cases h1 : d < 1
 ·have HF := tHid (HBAD.out 1 (by unfold pxE; rw [if_neg (by omega)]) (by decide));have d1 : decide (d < 1) = true := decide_eq_true h1;clear hP HC HBAD;go_enter Tryz.func78, Tryz.ntmps78
  go_wp2_with fail
  exact HF.out
 ·have d1 : decide (d < 1) = false := decide_eq_false h1;by_cases h2 : 512 < d
  ·have HF := tHid (HBAD.out 1 (by unfold pxE; rw [if_neg (by omega)]) (by decide));have d2 : decide (512 < d) = true := decide_eq_true h2;clear hP HC HBAD;go_enter Tryz.func78, Tryz.ntmps78
   go_wp2_with fail
   exact HF.out
  ·have d2 : decide (512 < d) = false := decide_eq_false h2;by_cases h3 : 0 ≤ Lib.indexByte s.data.toList 0
   ·have hz : noZ s = false := decide_eq_false (fun h => h h3);have HF := tHid (HBAD.out 1 (by unfold pxE; rw [if_neg (by rw [hz]; intro h; exact absurd h.2.2 (by decide))]) (by decide));rw [decide_eq_true h3] at HC;clear hP HBAD hz h3;go_enter Tryz.func78, Tryz.ntmps78
    go_wp2_with (first | (go_at_call 43; with_reducible refine HC.out.mono ?_; rintro e w1 ⟨rfl, rfl⟩))
    exact HF.out
   ·have hz : noZ s = true := decide_eq_true h3;rw [decide_eq_false h3] at HC;by_cases h4 : d < (s.size : Int)
    ·have HF := tHid (HBAD.out 122 (by unfold pxE; rw [if_pos ⟨by omega, by omega, hz⟩, if_neg (by omega)]) (by decide));clear hP HBAD hz h3;go_enter Tryz.func78, Tryz.ntmps78
     go_wp2_with (first | (go_at_call 43; with_reducible refine HC.out.mono ?_; rintro e w1 ⟨rfl, rfl⟩))
     exact HF.out
    ·obtain ⟨k, rfl⟩ : ∃ k : Nat, d = k := ⟨d.toNat, by omega⟩;have hE : pxE s (k : Int) = 0 := by unfold pxE; rw [if_pos ⟨by omega, by omega, hz⟩, if_pos (by omega)]
     obtain ⟨W0, hmk, hO, hN⟩ := makeB k (by omega) w;obtain ⟨W1, hcp, hO1, hF1⟩ := copy_str W0 w.heap.size k s (by omega) (by omega) hO;have HF : Hid (P (.returned (.tuple #[.slice (some ⟨w.heap.size, 0, none⟩) k k, .int .i64 0])) W1) := by
      show P _ _;rw [hP, hE];refine ⟨_, _, _, rfl, Fr.then hN hF1 (fun i hi => .inr (by omega)), .inr ⟨rfl, w.heap.size, Nat.le_refl _, ?_⟩⟩;unfold pxL;rw [Int.toNat_natCast];exact hO1
     clear hP HBAD hz h3 hO hN hO1 hF1 hE;go_enter Tryz.func78, Tryz.ntmps78
     go_wp2_with (first | (go_at_call 43; with_reducible refine HC.out.mono ?_; rintro e w1 ⟨rfl, rfl⟩))
     exact HF.out
end
end Go.Proofs.YtlenihpbhlfcoaaGreatDoor
namespace Go.Proofs.YtlenihpbhlfcoaaGreatDoor
open Go.RowKit
def cM (s : ByteArray) : Nat := min 156 (s.size - 1)
def pdF (n : Int) : Int := if n < 1 then 0 else 511 - (n - 1) % 512
theorem pad_any (n : Int) (w : World) (h1 : -9223372036854775808 ≤ n) (h2 : n ≤ 9223372036854775807) : Calls Tryz.prog 96 #[.int .i64 n] w fun e w' => e = .returned (.int .i64 (pdF n)) ∧ w = w' := by
 refine asP fun P hP => ?_
 have HF : Hid (P (.returned (.int .i64 (pdF n))) w) := by rw [hP]; exact ⟨rfl, rfl⟩
 clear hP;unfold pdF at HF;by_cases h : n < 1
 ·rw [if_pos h] at HF;go_enter Tryz.func96, Tryz.ntmps96
  go_wp2_with fail
  first | exact HF.out | (go_ret; exact HF.out)
 ·rw [if_neg h] at HF;go_enter Tryz.func96, Tryz.ntmps96
  go_wp2_with fail
  exact HF.out
theorem and128 : ∀ x : By, bits .and .u8 (x.toNat : Int) 128 = if 128 ≤ x.toNat then 128 else 0 := by decide +kernel
theorem anot128 : ∀ x : By, 128 ≤ x.toNat → bits .andNot .u8 (x.toNat : Int) 128 = (x.toNat : Int) - 128 := by decide +kernel
def binA (b : List By) : Value := .tuple #[.int .i64 (binN b), .int .i64 (binE b : Nat)]
theorem binA_of (b : List By) (n : Int) (e : Nat) (h1 : binN b = n) (h2 : binE b = e) : binA b = .tuple #[.int .i64 n, .int .i64 (e : Nat)] := by unfold binA; rw [h1, h2]
theorem binA_no (b : List By) (h : isB b = false) : binA b = .tuple #[.int .i64 0, .int .i64 120] := binA_of b 0 120 (by unfold binN; rw [h]; rfl) (by unfold binE; rw [h]; rfl)
theorem binA_big (b : List By) (h : isB b = true) (h2 : inI (binV b) = false) : binA b = .tuple #[.int .i64 0, .int .i64 121] := binA_of b 0 121 (by unfold binN; rw [h, h2]; rfl) (by unfold binE; rw [h, h2]; rfl)
theorem binA_ok (b : List By) (h : isB b = true) (h2 : inI (binV b) = true) : binA b = .tuple #[.int .i64 (binV b), .int .i64 0] := binA_of b (binV b) 0 (by unfold binN; rw [h, h2]; rfl) (by unfold binE; rw [h, h2]; rfl)
theorem inI_iff (n : Int) : inI n = true ↔ (-9223372036854775808 ≤ n ∧ n ≤ 9223372036854775807) := by unfold inI; simp
theorem vb_take (n : Int) (l : List By) (I : Nat) (h : I < l.length) : vb n (l.take (I + 1)) = vb n (l.take I) * 256 + (l[I].toNat : Int) := by
 rw [take_snoc l I h, vb_app, vb_cons]; rfl
theorem binary_any {X : Nat → Prop} (w : World) (a : Option Addr) (n c : Nat) (b : List By) (hb : Sl X (.slice a n c) b w) :
  Calls Tryz.prog 139 #[.slice a n c] w fun e w' => e = .returned (binA b) ∧ w = w' := by
 refine asP fun P hP => ?_
 have HF : Hid (P (.returned (binA b)) w) := by rw [hP]; exact ⟨rfl, rfl⟩
 clear hP;obtain ⟨hbn, k1, k2⟩ := sl_len hb;by_cases h2 : (n : Int) < 2
 ·rw [binA_no b (decide_eq_false (by rw [hbn]; omega))] at HF;have d2 : decide ((n : Int) < 2) = true := decide_eq_true h2;clear hb hbn;go_enter Tryz.func139, Tryz.ntmps139
  go_wp2_with fail
  exact HF.out
 ·have d2 : decide ((n : Int) < 2) = false := decide_eq_false h2;cases b with
  | nil => simp at hbn; omega
  | cons x l =>
   obtain ⟨g, o, rfl, hn, hc, _, x0, _, hs2⟩ := sl_cons hb;have hS := hs2 (by omega);by_cases hx : 128 ≤ x.toNat
   ·have e1 := and128 x;rw [if_pos hx] at e1;have e2 := anot128 x hx;have hB : isB (x :: l) = true := decide_eq_true ⟨by rw [hbn]; omega, hx⟩;obtain ⟨m, rfl⟩ : ∃ m, n = m + 1 := ⟨n - 1, by omega⟩;rw [Nat.add_sub_cancel] at hS;have HR : Hid (∀ I, (hI : I < l.length) → w.cell? ⟨g, o + 1 + I, none⟩ = some (.int .u8 l[I].toNat)) := fun I hI => by
     rcases hS with ⟨_, e, e2⟩ | ⟨g, _, o, _, e, e1, e2, hr⟩
     ·rw [e2] at hI; simp at hI
     ·injection e with e _ ec;injection e with e;injection e with ea eo;rw [ea, eo];exact hr I hI
    obtain ⟨f, hf⟩ : ∃ f, fb x = f := ⟨_, rfl⟩;obtain ⟨hf1, hf2⟩ := fb_range x hx;rw [hf] at hf1 hf2;have hfe : f = if (x.toNat : Int) - 128 > 63 then (x.toNat : Int) - 256 else (x.toNat : Int) - 128 := hf.symm
    have HD : Hid (isB (x :: l) = true ∧ l.length = m ∧ binV (x :: l) = vb f l) := ⟨hB, by omega, by rw [← hf]; rfl⟩;have hx255 := x.isLt;have hc1 : 1 < c := by omega
    have hc1' : ¬ c = 1 := by omega
    clear hb hn hs2 hS hB hbn hf;generalize x.toNat = xx at *;go_enter Tryz.func139, Tryz.ntmps139
    go_upto_if 23 with fail
    go_cut [4] from 23 to 25 (fun v wx => v = .int .i64 f ∧ wx = w)
    case first =>
     by_cases h63 : (63 : Int) < (xx : Int) - 128
     ·have hfx : f = (xx : Int) - 128 + -128 := by rw [hfe, if_pos (by omega)]; omega
      clear HF HR HD hfe;subst hfx
      go_wp2_with fail
      go_meet
      refine ⟨?_, ?_⟩ <;> first | rfl | (congr 1; omega) | trace_state
     ·have hfx : f = (xx : Int) - 128 := by rw [hfe, if_neg (by omega)]
      clear HF HR HD hfe;subst hfx
      go_wp2_with fail
      go_meet
      exact ⟨rfl, rfl⟩
    case rest =>
    obtain ⟨rfl, hw⟩ := hcut;have hw' := hw.symm;subst hw';clear hw hfe e1 e2 x0 d2 h2 hx hx255
    go_wp2_with fail
    go_loopg [4, 29] m (fun kx v i wr => ∃ (I : Nat) (N : Int), I ≤ m ∧ m - I ≤ kx ∧ i = .int .i64 I ∧ v = .int .i64 N ∧ -9223372036854775808 ≤ N ∧ N ≤ 9223372036854775807 ∧ wr = w ∧ Hid (N = vb f (l.take I)))
    case atStart => exact ⟨0, f, by omega, by omega, rfl, rfl, by omega, by omega, rfl, rfl⟩
    case round =>
     obtain ⟨I, N, hI, hkx, rfl, rfl, hN1, hN2, rfl, HV⟩ := hrel;obtain ⟨hB, hlm, hbv⟩ := HD.out;by_cases hlt : I < m
     ·have hlt' : I < l.length := by omega
      have hcell := HR.out I hlt';have hsn := vb_take f l I hlt';rw [← HV.out] at hsn;have hy := l[I].isLt;by_cases hfit : -36028797018963968 ≤ N ∧ N ≤ 36028797018963967
      ·have hor := i64_or 8 N (l[I].toNat : Int) (by omega) (by omega) (by omega) (by omega) (by omega);rw [show (2 : Int) ^ 8 = 256 from rfl] at hor;have hdiv : N * 256 / 256 = N := by omega
       obtain ⟨N2, hN2'⟩ : ∃ N2, N * 256 + (l[I].toNat : Int) = N2 := ⟨_, rfl⟩;rw [hN2'] at hor hsn;have HV2 : Hid (N2 = vb f (l.take (I + 1))) := hsn.symm;have b1 : -9223372036854775808 ≤ N2 := by omega
       have b2 : N2 ≤ 9223372036854775807 := by omega
       obtain ⟨hf3, hf4⟩ := hfit;have hself : (N == N) = true := by simp
       clear HF HR HD HV hsn hB hlm hbv hN2';generalize l[I].toNat = y at *
       go_wp2_with fail
       go_roundg (m - (I + 1))
       case measure => omega
       case rel => exact ⟨I + 1, N2, by omega, by omega, by first | rfl | (congr 1), rfl, b1, b2, rfl, HV2⟩
      ·have hout : inI (N * 256 + (l[I].toNat : Int)) = false := by
        unfold inI; exact decide_eq_false (by omega)
       have hbad : inI (binV (x :: l)) = false := by
        rw [hbv, ← List.take_append_drop (I + 1) l, vb_app, hsn];exact vb_out _ _ hout
       rw [binA_big _ hB hbad] at HF;have hq2 : (wrap64 (N * 256) / 256 != N) = true := by rw [bne_iff_ne]; unfold wrap64; omega
       clear HR HD HV hsn hB hlm hbv hbad hout;generalize l[I].toNat = y at *
       go_wp2_with fail
       exact HF.out
     ·have hNv : N = binV (x :: l) := by
       rw [hbv, HV.out, List.take_of_length_le (by omega)]
      rw [binA_ok _ hB (by rw [inI_iff, ← hNv]; exact ⟨hN1, hN2⟩), ← hNv] at HF;clear HR HD HV hB hlm hbv hNv
      go_wp2_with fail
      exact HF.out
   ·have e1 := and128 x;rw [if_neg hx] at e1;rw [binA_no _ (decide_eq_false (fun h => hx (h : _ ∧ 128 ≤ x.toNat).2))] at HF;clear hb hn hs2 hS hbn;generalize x.toNat = xx at *;go_enter Tryz.func139, Tryz.ntmps139
    go_wp2_with fail
    exact HF.out
def numA (b : List By) : Value := if 128 ≤ (b.headD 0).toNat then binA b else octV b
theorem fnumber_any {X : Nat → Prop} (w : World) (a : Option Addr) (n c : Nat) (b : List By) (hb : Sl X (.slice a n c) b w) :
  Calls Tryz.prog 110 #[.slice a n c] w fun e w' => e = .returned (numA b) ∧ Nw w w' := by
 refine asP fun P hP => ?_
 have HF : Hid (∀ W, Nw w W → P (.returned (numA b)) W) := fun W hW => by rw [hP]; exact ⟨rfl, hW⟩
 have HO : Hid (Calls Tryz.prog 109 #[.slice a n c] w fun e w' => e = .returned (.tuple #[.int .i64 (octN b : Nat), .int .i64 (octE b : Nat)]) ∧ Hid (Nw w w')) := octal_any w a n c b hb;have HB : Hid (Calls Tryz.prog 139 #[.slice a n c] w fun e w' => e = .returned (.tuple #[.int .i64 (binN b), .int .i64 (binE b : Nat)]) ∧ w = w') := binary_any w a n c b hb;clear hP;obtain ⟨hbn, k1, k2⟩ := sl_len hb;cases b with
 | nil =>
  obtain rfl : n = 0 := hbn.symm;have e : numA [] = .tuple #[.int .i64 (octN [] : Nat), .int .i64 (octE [] : Nat)] := by unfold numA; rw [if_neg (by decide)]; rfl
  rw [e] at HF;clear hb e HB;generalize octN [] = N at *;generalize octE [] = E at *;go_enter Tryz.func110, Tryz.ntmps110
  go_wp2_with (first | (go_at_call 109; with_reducible refine HO.out.mono ?_; rintro e w1 ⟨rfl, H1⟩))
  exact HF.out _ H1.out
 | cons x l =>
  obtain ⟨g, o, rfl, hn, hc, _, x0, _, _⟩ := sl_cons hb;have z1 : (0 : Int) < (n : Int) := by omega
  have z2 : 0 < n := by omega
  by_cases hx : 128 ≤ x.toNat
  ·have e1 := and128 x;rw [if_pos hx] at e1;have e : numA (x :: l) = .tuple #[.int .i64 (binN (x :: l)), .int .i64 (binE (x :: l) : Nat)] := by unfold numA; rw [if_pos (by exact hx)]; rfl
   rw [e] at HF;have HF2 := tHid (HF.out w (Fr.refl _ _));clear hb e HO hn hbn hx HF;generalize binN (x :: l) = N at *;generalize binE (x :: l) = E at *;generalize x.toNat = xx at *;go_enter Tryz.func110, Tryz.ntmps110
   go_wp2_with (first | (go_at_call 139; with_reducible refine HB.out.mono ?_; rintro e w1 ⟨rfl, rfl⟩))
   exact HF2.out
  ·have e1 := and128 x;rw [if_neg hx] at e1;have e : numA (x :: l) = .tuple #[.int .i64 (octN (x :: l) : Nat), .int .i64 (octE (x :: l) : Nat)] := by unfold numA; rw [if_neg (by exact hx)]; rfl
   rw [e] at HF;clear hb e HB hn hbn hx;generalize octN (x :: l) = N at *;generalize octE (x :: l) = E at *;generalize x.toNat = xx at *;go_enter Tryz.func110, Tryz.ntmps110
   go_wp2_with (first | (go_at_call 109; with_reducible refine HO.out.mono ?_; rintro e w1 ⟨rfl, H1⟩))
   exact HF.out _ H1.out
def nz (x : By) : Bool := decide (x ≠ 0#8)
def txt (b : List By) : List By := b.takeWhile nz
def ixz (l : List By) : Int := Lib.indexByte (l.map u8) 0
theorem ixz_cons (x : By) (l : List By) : ixz (x :: l) = if x = 0#8 then 0 else if ixz l = -1 then -1 else ixz l + 1 := by
 unfold ixz;rw [List.map_cons, Lib.indexByte];by_cases h : x = 0#8
 ·subst h; rw [if_pos (by decide), if_pos rfl]
 ·have : (u8 x == 0) = false := by
   rw [beq_eq_false_iff_ne];intro e;exact h (u8_inj x 0#8 e)
  rw [this, if_neg h];simp only [Bool.false_eq_true, ↓reduceIte, beq_iff_eq]
theorem ixz_txt (l : List By) : (ixz l = -1 ∧ txt l = l) ∨ ∃ k : Nat, ixz l = k ∧ k < l.length ∧ txt l = l.take k := by
 induction l with
 | nil => exact .inl ⟨rfl, rfl⟩
 | cons x l ih =>
  rw [ixz_cons];by_cases h : x = 0#8
  ·right
   refine ⟨0, by rw [if_pos h]; rfl, by simp, ?_⟩;unfold txt;rw [List.takeWhile_cons, if_neg (by rw [h]; decide)]; rfl
  ·have hx : nz x = true := decide_eq_true h;have ht : txt (x :: l) = x :: txt l := by unfold txt; rw [List.takeWhile_cons, if_pos hx]
   rw [if_neg h, ht];rcases ih with ⟨e1, e2⟩ | ⟨k, e1, e2, e3⟩
   ·left; rw [if_pos e1, e2]; exact ⟨rfl, rfl⟩
   ·right
    refine ⟨k + 1, ?_, by simp; omega, by rw [e3]; rfl⟩;rw [if_neg (by omega), e1]; omega
theorem run_ixNil (w : World) (A : Addr) (c : Nat) (cv : Int) : (Extern.BytealgIndexByte.indexByte #[.slice (some A) 0 c, .int .u8 cv]).run Tryz.prog w = .ok (.int .i64 (-1)) w := by
 have hs := Lib.run_indexByteString (P := Tryz.prog) .empty cv w;exact hs
theorem ixz_any {X : Nat → Prop} (w : World) (a : Option Addr) (n c : Nat) (l : List By) (hl : Sl X (.slice a n c) l w) : Calls Tryz.prog 159 #[.slice a n c, .int .u8 0] w fun e w' => e = .returned (.int .i64 (ixz l)) ∧ w = w' := by
 refine asP fun P hP => ?_
 have HF : Hid (P (.returned (.int .i64 (ixz l))) w) := by rw [hP]; exact ⟨rfl, rfl⟩
 have hrun : (Extern.BytealgIndexByte.indexByte #[.slice a n c, .int .u8 0]).run Tryz.prog w = .ok (.int .i64 (ixz l)) w := by
  rcases hl with ⟨a', e, rfl⟩ | ⟨g, _, o, c', e, e1, e2, hr⟩
  ·cases e;cases a with
   | none => exact Lib.run_indexByteNil (P := Tryz.prog) (w := w) 0 0 0
   | some A => exact run_ixNil w A 0 0
  ·injection e with ea en ec;subst ea en ec;have hrun := Lib.run_indexByteSlice (P := Tryz.prog) (w := w) g o l.length c (l.map (fun x => (x.toNat : Int))) (by rw [List.length_map]) (fun i hi => by
    rw [hr i (by omega), List.getD_eq_getElem?_getD, List.getElem?_map, List.getElem?_eq_getElem (by omega)];rfl) 0
   have e : Lib.indexByte (Lib.bytesOf (l.map (fun x => (x.toNat : Int)))) (0 : Int).toNat.toUInt8 = ixz l := by
    unfold ixz Lib.bytesOf;rw [List.map_map];rfl
   rw [e] at hrun;exact hrun
 clear hP hl;generalize ixz l = r at *;go_enter Tryz.func159, Tryz.ntmps159
 go_wp2
 rw [run_callFunc_extern Tryz.func204 (by kernel_rfl) (by kernel_rfl) (by kernel_rfl) (e := Extern.BytealgIndexByte.indexByte) (by kernel_rfl), hrun];simp only [Result.andThen];rw [Oper.upon_value]
 go_wp2
 first | exact HF.out | (go_ret; exact HF.out)
theorem bindex_any {X : Nat → Prop} (w : World) (a : Option Addr) (n c : Nat) (l : List By) (hl : Sl X (.slice a n c) l w) (sg sc : Nat) (hs : w.cell? ⟨sg, 0, none⟩ = some (.int .u8 0)) :
  Calls Tryz.prog 125 #[.slice a n c, .slice (some ⟨sg, 0, none⟩) 1 sc] w fun e w' => e = .returned (.int .i64 (ixz l)) ∧ w = w' := by
 refine asP fun P hP => ?_
 have HF : Hid (P (.returned (.int .i64 (ixz l))) w) := by rw [hP]; exact ⟨rfl, rfl⟩
 have HI := tHid (ixz_any w a n c l hl);clear hP hl;generalize ixz l = r at *;go_enter Tryz.func125, Tryz.ntmps125
 go_wp2_with (first | (go_at_call 159; with_reducible refine HI.out.mono ?_; rintro e w1 ⟨rfl, rfl⟩))
 first | exact HF.out | (go_ret; exact HF.out)
end Go.Proofs.YtlenihpbhlfcoaaGreatDoor

import Derived.Lib.AppendIntMem
import Derived.Test.YtlenihpbhlfcoaaGreatDoorUak
set_option maxHeartbeats 8000000
set_option maxRecDepth 100000
set_option linter.unusedSimpArgs false
set_option linter.unusedVariables false
namespace Go.Proofs.YtlenihpbhlfcoaaGreatDoor
open Go.RowKit Go.Sort
theorem nw_below {w w' : World} (h : Nw w w') : Below w.heap.size w w' := Fr.below (Below.refl _ _) h (Nat.le_refl _) (fun i h => h.elim)
theorem below_nw {w w' : World} (h : Below w.heap.size w w') : Nw w w' := ⟨h.os, h.tape, h.output, h.size, fun k hk _ => h.block k hk⟩
structure Env (w : World) : Prop where
 tab : Lib.TabIs Tryz.prog w "internal/strconv.uint64pow10" .u64 Lib.pow10Tab
 err : ∃ ev, w.cell? ⟨2, 0, none⟩ = some ev ∧ (ev = .nilIface ∨ ∃ te pe, ev = .iface te pe)
theorem Env.nw {w w' : World} (h : Env w) (f : Nw w w') : Env w' := by
 refine ⟨Lib.tabBelow_of_tabIs h.tab w' (nw_below f), ?_⟩;obtain ⟨ev, h1, h2⟩ := h.err;exact ⟨ev, f.cell h1, h2⟩
theorem parse_ok (l : Bs) (hd : ∀ c ∈ l, isDK c) (hl : l ≠ []) (hn : l.length ≤ 140737488351232) (hv : val 0 l < 9223372036854775808) (w : World) : Calls Tryz.prog 113 #[.string (str l), .int .i64 10, .int .i64 64] w fun e w' => e = .returned (.tuple #[.int .i64 (val 0 l : Nat), .nilIface]) ∧ Nw w w' := by
 refine (sh_strconv_ParseInt_10_at64_ok (str l) (by rw [str_size]; omega) (val 0 l : Nat) (by rw [str_data, piB l hd hl, if_neg (by omega)]) w).mono ?_;rintro e w' ⟨rfl, h | ⟨t, h⟩⟩
 ·subst h; exact ⟨rfl, Fr.refl _ _⟩
 ·subst h; exact ⟨rfl, below_nw (Lib.bytesWorld_below w 5 t)⟩
theorem parse_big (l : Bs) (hd : ∀ c ∈ l, isDK c) (hl : l ≠ []) (hn : l.length ≤ 140737488351232) (hv : ¬ val 0 l < 9223372036854775808) (w : World) (hE : Env w) : Calls Tryz.prog 113 #[.string (str l), .int .i64 10, .int .i64 64] w fun e w' => ∃ z t p, e = .returned (.tuple #[.int .i64 z, .iface t p]) ∧ Nw w w' := by
 obtain ⟨ev, h1, h2⟩ := hE.err;refine (sh_strconv_ParseInt_10_at64_range (str l) (by rw [str_size]; omega) (by rw [str_data, piB l hd hl, if_pos (by omega)]) ev w h1 h2).mono ?_;rintro e w' ⟨N, rfl, _, _, h⟩;exact ⟨_, _, _, rfl, below_nw h⟩
end Go.Proofs.YtlenihpbhlfcoaaGreatDoor
namespace Go.Proofs.YtlenihpbhlfcoaaGreatDoor
open Go.RowKit
theorem sl_last {X : Nat → Prop} {a : Option Addr} {n c : Nat} {l : Bs} {w : World} (h : Sl X (.slice a n c) l w) (m : Nat) (hm : m < n) : ∃ g o, a = some ⟨g, o, none⟩ ∧ Sl X (.slice (some ⟨g, o + m, none⟩) (n - m) (c - m)) (l.drop m) w := by
 obtain ⟨hn, k1, k2⟩ := sl_lenJ h;rcases h with ⟨_, e, e2⟩ | ⟨g, hg, o, c', e, e1, e2, hr⟩
 ·rw [e2] at hn; simp at hn; omega
 ·injection e with ea en ec;subst ec;refine ⟨g, o, ea, .inr ⟨g, hg, o + m, c - m, ?_, ?_, by omega, hr.drop m⟩⟩
  ·rw [List.length_drop, hn]
  ·rw [List.length_drop, hn]; omega
theorem sl_takeJ {X : Nat → Prop} {a : Option Addr} {n c : Nat} {l : Bs} {w : World} (h : Sl X (.slice a n c) l w) (m : Nat) (hm : m ≤ n) : Sl X (.slice a m c) (l.take m) w := by
 obtain ⟨hn, k1, k2⟩ := sl_lenJ h;rcases h with ⟨a', e, e2⟩ | ⟨g, hg, o, c', e, e1, e2, hr⟩
 ·injection e with ea en ec;subst en;obtain rfl : m = 0 := by omega
  exact .inl ⟨a, by rw [ec], by rw [e2]; rfl⟩
 ·injection e with ea en ec;subst ec ea;refine .inr ⟨g, hg, o, c, ?_, ?_, e2, hr.take m⟩
  ·rw [List.length_take, Nat.min_eq_left (by omega)]
  ·rw [List.length_take]; omega
theorem hasSuf_any {X Y : Nat → Prop} (w : World) (a : Option Addr) (n c : Nat) (l : Bs) (h1 : 1 ≤ n) (hl : Sl X (.slice a n c) l w) (a2 : Option Addr) (c2 : Nat) (hu : Sl Y (.slice a2 1 c2) [10#8] w) : Calls Tryz.prog 201 #[.slice a n c, .slice a2 1 c2] w fun e w' => e = .returned (.bool (decide (l[n - 1]? = some 10#8))) ∧ w = w' := by
 refine asP fun P hP => ?_
 have HF : Hid (P (.returned (.bool (decide (l[n - 1]? = some 10#8)))) w) := by rw [hP]; exact ⟨rfl, rfl⟩
 clear hP;obtain ⟨hn, k1, k2⟩ := sl_lenJ hl;obtain ⟨g, o, rfl, hS⟩ := sl_last hl (n - 1) (by omega);have hd : l.drop (n - 1) = [l[n - 1]'(by omega)] := by
  rw [List.drop_eq_getElem_cons (by omega), List.drop_eq_nil_of_le (by omega)]
 have hdec : decide (l.drop (n - 1) = [10#8]) = decide (l[n - 1]? = some 10#8) := by
  rw [hd, List.getElem?_eq_getElem (by omega)];by_cases hq : l[n - 1]'(by omega) = 10#8
  ·rw [hq]; rfl
  ·rw [decide_eq_false, decide_eq_false]
   ·intro e; injection e with e; exact hq e
   ·intro e; injection e with e; exact hq e
 have HE := tHid (beq_any w _ _ _ _ hS hu);rw [hdec] at HE;obtain ⟨c3, k3, k4⟩ := sl_lenJ hu;have e1 : n - (n - 1) = 1 := by omega
 rw [e1] at HE;obtain ⟨m, rfl⟩ : ∃ m, n = m + 1 := ⟨n - 1, by omega⟩;rw [Nat.add_sub_cancel] at HE HF;have z1 : (1 : Int) ≤ ((m + 1 : Nat) : Int) := by omega
 have z2 : ((m + 1 : Nat) : Int) - 1 = (m : Int) := by omega
 have z3 : (m : Int) ≤ ((m + 1 : Nat) : Int) := by omega
 have z5 : m < c := by omega
 have z6 : ¬ c = m := by omega
 have z7 : ¬ c ≤ m := by omega
 have z8 : ((m + 1 : Nat) : Int) - (m : Int) = 1 := by omega
 have z9 : m + 1 - m = 1 := by omega
 clear hl hu hS hd hdec hn e1;generalize decide (l[m]? = some 10#8) = B at *;go_enter Tryz.func201, Tryz.ntmps201
 go_wp2_with (first | (go_at_call 160; with_reducible refine HE.out.mono ?_; rintro e w1 ⟨rfl, rfl⟩))
 first | exact HF.out | (go_ret; exact HF.out)
theorem cutSuf_any {X Y : Nat → Prop} (w : World) (a : Option Addr) (n c : Nat) (l : Bs) (h1 : 1 ≤ n) (hl : Sl X (.slice a n c) l w) (a2 : Option Addr) (c2 : Nat) (hu : Sl Y (.slice a2 1 c2) [10#8] w) : Calls Tryz.prog 156 #[.slice a n c, .slice a2 1 c2] w fun e w' => e = .returned (.tuple #[.slice a (if l[n - 1]? = some 10#8 then n - 1 else n) c, .bool (decide (l[n - 1]? = some 10#8))]) ∧ w = w' := by
 refine asP fun P hP => ?_
 have HE := tHid (hasSuf_any w a n c l h1 hl a2 c2 hu);obtain ⟨hn, k1, k2⟩ := sl_lenJ hl;obtain ⟨c3, k3, k4⟩ := sl_lenJ hu;obtain ⟨m, rfl⟩ : ∃ m, n = m + 1 := ⟨n - 1, by omega⟩;have z2 : ((m + 1 : Nat) : Int) - 1 = (m : Int) := by omega
 have z3 : (m : Int) ≤ ((m + 1 : Nat) : Int) := by omega
 have z4 : (m : Int) ≤ (c : Int) := by omega
 obtain ⟨g, o, rfl, _⟩ := sl_last hl 0 (by omega);by_cases hq : l[m + 1 - 1]? = some 10#8
 ·rw [decide_eq_true hq] at HE;have HF : Hid (P (.returned (.tuple #[.slice (some ⟨g, o, none⟩) m c, .bool true])) w) := by rw [hP, if_pos hq, decide_eq_true hq]; exact ⟨rfl, rfl⟩
  clear hP hl hu hq hn;go_enter Tryz.func156, Tryz.ntmps156
  go_wp2_with (first | (go_at_call 201; with_reducible refine HE.out.mono ?_; rintro e w1 ⟨rfl, rfl⟩))
  first | exact HF.out | (go_ret; exact HF.out)
 ·rw [decide_eq_false hq] at HE;have HF : Hid (P (.returned (.tuple #[.slice (some ⟨g, o, none⟩) (m + 1) c, .bool false])) w) := by rw [hP, if_neg hq, decide_eq_false hq]; exact ⟨rfl, rfl⟩
  clear hP hl hu hq hn;go_enter Tryz.func156, Tryz.ntmps156
  go_wp2_with (first | (go_at_call 201; with_reducible refine HE.out.mono ?_; rintro e w1 ⟨rfl, rfl⟩))
  first | exact HF.out | (go_ret; exact HF.out)
def prC (x : Pr) : Array Value := #[.string (str x.1), .string (str x.2)]
theorem str_empJ (l : Bs) : (str l).toList.isEmpty = decide (l = []) := by
 rw [str_toList];cases l with
 | nil => rfl
 | cons x r => rw [decide_eq_false (by simp)]; rfl
theorem str_emp2 (l : Bs) : ((str l).toList == ([] : List UInt8)) = decide (l = []) := by
 rw [str_toList];cases l with
 | nil => rfl
 | cons x r => rw [decide_eq_false (by simp)]; rfl
theorem poss_any (x : Pr) (h1 : x.1.length ≤ 140737488351232) (h2 : x.2.length ≤ 140737488351232) (w : World) : Calls Tryz.prog 158 #[.agg (prC x)] w fun e w' => e = .returned (.bool (canP x)) ∧ Nw w w' := by
 refine asP fun P hP => ?_
 have HF : Hid (∀ W, Nw w W → P (.returned (.bool (canP x))) W) := fun W hW => by rw [hP]; exact ⟨rfl, hW⟩
 clear hP;obtain ⟨k, v⟩ := x;have hcan : canP (k, v) = ((!decide (k = [])) && !anyEz k && !decide (0#8 ∈ v)) := rfl;have b0 := str_empJ k;have b1 := str_emp2 k;have HA : Hid (∀ W, Calls Tryz.prog 203 #[.string (str k), .string ⟨#[61, 0]⟩] W fun e w' => e = .returned (.bool (anyEz k)) ∧ Nw W w') := fun W => cany_any k h1 W
 have HB := tHid (fun W => cont0_any v W h2);have HN : Hid (Nw w (w.alloc (.cells (prC (k, v)) 56))) := (Fr.refl _ _).alloc _;have HC1 : Hid ((w.alloc (.cells (prC (k, v)) 56)).cell? ⟨w.heap.size, 1, none⟩ = some (.string (str v))) := by
  have := newHeapJ w (.cells (prC (k, v)) 56);show World.cell? _ _ = _;unfold World.cell?;rw [this];rfl
 simp only [prC] at HN HC1;show Calls Tryz.prog 158 #[.agg #[.string (str k), .string (str v)]] w P;rw [hcan] at HF;clear hcan h1 h2;generalize str k = sk at *;generalize str v = sv at *;by_cases e0 : k = []
 ·rw [decide_eq_true e0] at b0 b1 HF;have HF2 : Hid (∀ W, Nw w W → P (.returned (.bool false)) W) := HF;clear HF e0;go_enter Tryz.func158, Tryz.ntmps158
  go_wp2_with fail
  first | exact HF2.out _ HN.out | (go_ret; exact HF2.out _ HN.out)
 ·rw [decide_eq_false e0] at b0 b1 HF;generalize anyEz k = B at *;generalize decide (0#8 ∈ v) = C at *;clear e0;cases B with
  | true =>
   have HF2 : Hid (∀ W, Nw w W → P (.returned (.bool false)) W) := HF;clear HF HB;go_enter Tryz.func158, Tryz.ntmps158
   go_wp2_with (first | (go_at_call 203; with_reducible refine (HA.out _).mono ?_; rintro e w1 ⟨rfl, H1⟩; have H1 := tHid H1))
   first | exact HF2.out _ (HN.out.trans H1.out) | (go_ret; exact HF2.out _ (HN.out.trans H1.out))
  | false =>
   have HF2 : Hid (∀ W, Nw w W → P (.returned (.bool (!C))) W) := HF;clear HF;go_enter Tryz.func158, Tryz.ntmps158
   go_wp2_with (first
    | (go_at_call 203; with_reducible refine (HA.out _).mono ?_; rintro e w1 ⟨rfl, H1⟩; have hcell := H1.cell (p := ⟨w.heap.size, 1, none⟩) (v := .string sv) HC1.out; have H1 := tHid H1)
    | (go_at_call 43; with_reducible refine (HB.out _).mono ?_; rintro e w2 ⟨rfl, rfl⟩))
   first | exact HF2.out _ (HN.out.trans H1.out) | (go_ret; exact HF2.out _ (HN.out.trans H1.out))
def DG : ByteArray := ⟨#[48, 49, 50, 51, 52, 53, 54, 55, 56, 57]⟩
def DS : Array Value := Lib.setCells DG.data.toList
theorem ds_size : DS.size = 256 := Lib.setCells_size _
theorem q_ds : ∀ (x : By), DG.data.toList.contains (UInt8.ofBitVec x) = decide (48 ≤ x.toNat ∧ x.toNat ≤ 57) := by decide +kernel
theorem ds_at (x : By) : DS[x.toNat]? = some (.bool (decide (isDK x))) := by
 unfold DS;have h := Lib.setCells_at DG.data.toList (UInt8.ofBitVec x);have e : (UInt8.ofBitVec x).toNat = x.toNat := rfl;rw [e] at h;rw [h, q_ds];rfl
theorem ds_one : DS.all (·.oneCell') = true := Lib.setCells_one _
theorem ds_info : (Tryz.prog.info? 249).map (·.size) = some DS.size := by rw [ds_size]; kernel_rfl
theorem dmk_any (w : World) : Calls Tryz.prog 176 #[.string DG] w fun e w' => e = .returned (.tuple #[.agg DS, .bool true]) ∧ w' = w.alloc (.cells DS 249) :=
 sh_strings_makeASCIISet (fun w => (zero_of_info (P := Tryz.prog) (t := 249) (v := .agg (Array.replicate 256 (.bool false))) (n := 256) (by kernel_rfl)).1 w) DG w (by decide) (fun j b hb => by
  have hm := List.mem_of_getElem? hb;have : ∀ b ∈ DG.data.toList, b.toNat < 128 := by decide
  exact this b hm)
theorem dHas_any (b : Nat) (x : By) (w : World) (hw : w.heap[b]? = some (.cells DS 249)) :
  Calls Tryz.prog 210 #[.pointer (some ⟨b, 0, none⟩), .int .u8 x.toNat] w fun e w' => e = .returned (.bool (decide (isDK x))) ∧ w = w' := by
 refine asP fun P hP => ?_
 have HF : Hid (P (.returned (.bool (decide (isDK x)))) w) := by rw [hP]; exact ⟨rfl, rfl⟩
 clear hP;have hc : w.cell? ⟨b, x.toNat, none⟩ = some (.bool (decide (isDK x))) := by
  have := ds_at x;simp only [World.cell?, hw]
  simpa using this
 have hx256 : (x.toNat : Int) < 256 := by have := x.isLt; omega
 clear hw;generalize decide (isDK x) = v at *;generalize x.toNat = y at *;go_enter Tryz.func210, Tryz.ntmps210
 go_wp2
 exact HF.out
def dW (l : Bs) : Bs := l.dropWhile (fun c => decide (isDK c))
theorem dW_all (l : Bs) : decide (dW l = []) = allD l := by
 induction l with
 | nil => rfl
 | cons c r ih =>
  unfold dW at ih ⊢;rw [allD_cons, List.dropWhile_cons];cases hc : decide (isDK c) with
  | true => rw [if_pos rfl, ih, Bool.true_and]
  | false => rw [if_neg (by simp), decide_eq_false (by simp), Bool.false_and]
theorem str_tail (c : By) (r : Bs) : (str (c :: r)).extract 1 (str (c :: r)).size = str r := str_suf [c] r
theorem tla_any (l : Bs) (hl : l.length ≤ 140737488351232) (b : Nat) (w : World) (hw : w.heap[b]? = some (.cells DS 249)) : Calls Tryz.prog 177 #[.string (str l), .pointer (some ⟨b, 0, none⟩)] w fun e w' => e = .returned (.string (str (dW l))) ∧ w = w' := by
 refine asP fun P hP => ?_
 have HF : Hid (∀ m, dW l = m → P (.returned (.string (str m))) w) := fun m hm => by rw [hP, hm]; exact ⟨rfl, rfl⟩
 clear hP;have HC := tHid (fun x : By => dHas_any b x w hw);clear hw;go_enter Tryz.func177, Tryz.ntmps177;go_upto_region 1 with fail;go_loopg [0] l.length (fun kx v wr => ∃ l' : Bs, l'.length ≤ kx ∧ l'.length ≤ 140737488351232 ∧ v = .string (str l') ∧ wr = w ∧ Hid (dW l = dW l'))
 case atStart => exact ⟨l, Nat.le_refl _, hl, rfl, rfl, rfl⟩
 case round =>
  obtain ⟨l', hkx, hl', rfl, hw, HD⟩ := hrel;have hw' := hw.symm;subst hw';clear hw;have hsz := str_size l';cases l' with
  | nil =>
   have HF2 := tHid (HF.out [] HD.out);clear HF HD;have hsz : (str []).size = 0 := rfl;generalize str [] = s at *
   go_wp2_with fail
   first | exact HF2.out | (go_ret; exact HF2.out)
  | cons c r =>
   have hd := HD.out;have HCx := tHid (HC.out c);have hg := str_get (c :: r) 0 (by rw [hsz]; simp);rw [List.getElem_cons_zero] at hg;have hx := str_tail c r;rw [List.length_cons] at hsz hkx hl';have z1 : (0 : Int) < ((str (c :: r)).size : Int) := by omega
   have z2 : (1 : Int) ≤ ((str (c :: r)).size : Int) := by omega
   have z3 : 1 ≤ (str (c :: r)).size := by omega
   have z4 : (str (c :: r)).size ≤ 140737488351232 := by omega
   unfold dW at hd;rw [List.dropWhile_cons] at hd;cases hc : decide (isDK c) with
   | true =>
    rw [hc, if_pos rfl] at hd;rw [hc] at HCx;have HD2 : Hid (dW l = dW r) := hd;clear HF HD hd hc HC;generalize str (c :: r) = s at *;generalize c.toNat = y at *
    go_wp2_with (first | (go_at_call 210; with_reducible refine HCx.out.mono ?_; rintro e w1 ⟨rfl, rfl⟩))
    go_roundg r.length
    case measure => omega
    case rel => exact ⟨r, Nat.le_refl _, by omega, by first | rfl | (rw [← hx, hsz]), rfl, HD2⟩
   | false =>
    rw [hc, if_neg (by simp)] at hd;rw [hc] at HCx;have HF2 := tHid (HF.out (c :: r) hd);clear HF HD hd hc HC;generalize str (c :: r) = s at *;generalize c.toNat = y at *
    go_wp2_with (first | (go_at_call 210; with_reducible refine HCx.out.mono ?_; rintro e w1 ⟨rfl, rfl⟩))
    first | exact HF2.out | (go_ret; exact HF2.out)
theorem dg_size : DG.size = 10 := rfl
theorem dg_emp : (DG.toList == ([] : List UInt8)) = false := by decide +kernel
theorem dg_emp2 : DG.toList.isEmpty = false := by decide +kernel
theorem tl_any (l : Bs) (hl : l.length ≤ 140737488351232) (w : World) : Calls Tryz.prog 141 #[.string (str l), .string DG] w fun e w' => e = .returned (.string (str (dW l))) ∧ Nw w w' := by
 refine asP fun P hP => ?_
 have HF : Hid (∀ V, Nw w V → P (.returned (.string (str (dW l)))) V) := fun V hV => by rw [hP]; exact ⟨rfl, hV⟩
 clear hP;have b0 := str_empJ l;have b1 := str_emp2 l;have hds := dg_size;have hde := dg_emp;have hde2 := dg_emp2;by_cases e0 : l = []
 ·subst e0;have HF2 : Hid (∀ V, Nw w V → P (.returned (.string (str []))) V) := HF;rw [decide_eq_true rfl] at b0 b1;clear HF;generalize str [] = s at *;go_enter Tryz.func141, Tryz.ntmps141
  go_wp2_with fail
  first | exact HF2.out _ (Fr.refl _ _) | (go_ret; exact HF2.out _ (Fr.refl _ _))
 ·rw [decide_eq_false e0] at b0 b1;have HM := tHid (dmk_any w);have hN2 : Nw w ((w.alloc (.cells DS 249)).alloc (.cells DS 249)) := ((Fr.refl _ _).alloc _).alloc _;have HN2 := tHid hN2;have hsz1 : (w.alloc (.cells DS 249)).heap.size = w.heap.size + 1 := by simp
  have HW : Hid (((w.alloc (.cells DS 249)).alloc (.cells Tryz.zeroCells249 249)).heap[w.heap.size + 1]? = some (.cells Tryz.zeroCells249 249)) := by
   show _ = _;rw [← hsz1]; exact newHeapJ _ _
  have HST : Hid (((w.alloc (.cells DS 249)).alloc (.cells Tryz.zeroCells249 249)).setRow (w.heap.size + 1) DS = (w.alloc (.cells DS 249)).alloc (.cells DS 249)) := by
   show _ = _;rw [← hsz1]; exact World.setRow_alloc_new _ _ _ _
  have HZS : Hid (Tryz.zeroCells249.size = DS.size) := by show _ = _; rw [zcS, Lib.setCells_size, ds_size]
  have hnew2 : ((w.alloc (.cells DS 249)).alloc (.cells DS 249)).heap[w.heap.size + 1]? = some (.cells DS 249) := by
   rw [← hsz1]; exact newHeapJ _ _
  have HC := tHid (tla_any l hl (w.heap.size + 1) _ hnew2);clear hN2 hnew2 hsz1 e0;generalize str l = s at *;generalize str (dW l) = t at *
  skip
  go_enter Tryz.func141, Tryz.ntmps141
  go_wp2_with (first
   | (go_at_call 176; with_reducible refine HM.out.mono ?_; rintro e w1 ⟨rfl, rfl⟩)
   | (refine wpList_store_row rfl 249 _ _ rfl (w.heap.size + 1) DS (by first | rfl | simp [Act.eval]) (by first | rfl | simp [Act.eval]) 249 _ HW.out ds_info HZS.out ds_one ?_; rw [HST.out])
   | (go_at_call 177; with_reducible refine HC.out.mono ?_; rintro e w1 ⟨rfl, rfl⟩))
  first | exact HF.out _ HN2.out | (go_ret; exact HF.out _ HN2.out)
theorem digs_any (l : Bs) (hl : l.length ≤ 140737488351232) (w : World) : Calls Tryz.prog 112 #[.string (str l)] w fun e w' => e = .returned (.bool (allD l)) ∧ Nw w w' := by
 refine asP fun P hP => ?_
 have HF : Hid (∀ V, Nw w V → P (.returned (.bool (allD l))) V) := fun V hV => by rw [hP]; exact ⟨rfl, hV⟩
 clear hP;have HT : Hid (Calls Tryz.prog 141 #[.string (str l), .string ⟨#[48, 49, 50, 51, 52, 53, 54, 55, 56, 57]⟩] w fun e w' => e = .returned (.string (str (dW l))) ∧ Nw w w') := tl_any l hl w;have b0 := str_empJ (dW l);have b1 := str_emp2 (dW l);rw [dW_all] at b0 b1;generalize str l = s at *;generalize str (dW l) = t at *;generalize allD l = B at *;go_enter Tryz.func112, Tryz.ntmps112
 go_wp2_with (first | (go_at_call 141; with_reducible refine HT.out.mono ?_; rintro e w1 ⟨rfl, H1⟩; have H1 := tHid H1))
 first | exact HF.out _ H1.out | (go_ret; exact HF.out _ H1.out)
theorem num_any (l : Bs) (hl : l.length ≤ 140737488351232) (w : World) (hE : Env w) : Calls Tryz.prog 85 #[.string (str l)] w fun e w' => e = .returned (.tuple #[.int .i64 ((numV l).1 : Nat), .int .i64 ((numV l).2 : Nat)]) ∧ Nw w w' := by
 refine asP fun P hP => ?_
 have HF : Hid (∀ x V, numV l = x → Nw w V → P (.returned (.tuple #[.int .i64 (x.1 : Nat), .int .i64 (x.2 : Nat)])) V) := fun x V hx hV => by rw [hP, hx]; exact ⟨rfl, hV⟩
 clear hP;have b0 := str_empJ l;have b1 := str_emp2 l;by_cases e0 : l = []
 ·rw [decide_eq_true e0] at b0 b1;have HF2 := tHid (HF.out (0, 120) w (by unfold numV; rw [if_pos (.inl e0)]) (Fr.refl _ _));clear HF;generalize str l = s at *;go_enter Tryz.func85, Tryz.ntmps85
  go_wp2_with fail
  first | exact HF2.out | (go_ret; exact HF2.out)
 ·rw [decide_eq_false e0] at b0 b1;have HD := tHid (digs_any l hl w);cases hA : allD l with
  | false =>
   rw [hA] at HD;have HF2 : Hid (∀ V, Nw w V → P (.returned (.tuple #[.int .i64 0, .int .i64 120])) V) := fun V hV => HF.out (0, 120) V (by unfold numV; rw [if_pos (.inr hA)]) hV
   clear HF hA;generalize str l = s at *;go_enter Tryz.func85, Tryz.ntmps85
   go_wp2_with (first | (go_at_call 112; with_reducible refine HD.out.mono ?_; rintro e w1 ⟨rfl, H1⟩; have H1 := tHid H1))
   first | exact HF2.out _ H1.out | (go_ret; exact HF2.out _ H1.out)
  | true =>
   rw [hA] at HD;have hd := (allD_iff l).1 hA;have hnn : ¬ (l = [] ∨ allD l = false) := by
    rintro (h | h)
    ·exact e0 h
    ·rw [hA] at h; cases h
   by_cases hv : val 0 l < 9223372036854775808
   ·have HPI := tHid (fun V => parse_ok l hd e0 hl hv V);have HF2 : Hid (∀ V, Nw w V → P (.returned (.tuple #[.int .i64 (val 0 l : Nat), .int .i64 0])) V) := fun V hV => HF.out (val 0 l, 0) V (by unfold numV; rw [if_neg hnn, if_neg (by omega)]) hV
    clear HF hA hd hnn e0;generalize str l = s at *;generalize val 0 l = N at *;go_enter Tryz.func85, Tryz.ntmps85
    go_wp2_with (first
     | (go_at_call 112; with_reducible refine HD.out.mono ?_; rintro e w1 ⟨rfl, H1⟩; have H1 := tHid H1)
     | (go_at_call 113; with_reducible refine (HPI.out _).mono ?_; rintro e w2 ⟨rfl, H2⟩; have H2 := tHid H2))
    first | exact HF2.out _ (H1.out.trans H2.out) | (go_ret; exact HF2.out _ (H1.out.trans H2.out))
   ·have HPI : Hid (∀ V, Nw w V → _) := fun V hV => parse_big l hd e0 hl hv V (hE.nw hV)
    have HF2 : Hid (∀ V, Nw w V → P (.returned (.tuple #[.int .i64 0, .int .i64 121])) V) := fun V hV => HF.out (0, 121) V (by unfold numV; rw [if_neg hnn, if_pos (by omega)]) hV
    clear HF hA hd hnn e0;generalize str l = s at *;go_enter Tryz.func85, Tryz.ntmps85
    go_wp2_with (first
     | (go_at_call 112; with_reducible refine HD.out.mono ?_; rintro e w1 ⟨rfl, H1⟩; have H1 := tHid H1)
     | (go_at_call 113; with_reducible refine (HPI.out _ H1.out).mono ?_; rintro e w2 ⟨z, t, p, rfl, H2⟩; have H2 := tHid H2))
    first | exact HF2.out _ (H1.out.trans H2.out) | (go_ret; exact HF2.out _ (H1.out.trans H2.out))
end Go.Proofs.YtlenihpbhlfcoaaGreatDoor
